/-
  Several texts in one: ErMath, ErOut, ErA, ErRep, RSnap, RJn, ErB, ErC, ErRev, ErD, RSumA, RSumB, RSumC.
-/
import Derived.Test.YtkgbgkcbflicmacShelf
import Derived.Laws.CopyOwn
import Derived.OwnWalk
import Derived.OneCell
import Derived.Maps.AppendAt
import Derived.Shelf.Abstract
import Derived.Test.YtkgbgkcbflicmacPk1

namespace Go.Proofs.Ytkgbgkcbflicmac

/-- one can be at v at t, from v0 at t0 -/
inductive Rch (g : Gr) (v0 t0 : Int) : Int → Int → Prop
  | base : aliveB t0 g.lives v0 = true → Rch g v0 t0 v0 t0
  | wait {v t : Int} : Rch g v0 t0 v t → aliveB (t + 1) g.lives v = true → Rch g v0 t0 v (t + 1)
  | ride {t : Int} {q : Int × Int} (i : Nat) (hi : i < g.edges.length) : Rch g v0 t0 g.edges[i].1 t → lands g g.edges[i] t = some q → Rch g v0 t0 g.edges[i].2.1 q.1

theorem lands_lt {g : Gr} (R : Right g) {i : Nat} (hi : i < g.edges.length) {t : Int} {q : Int × Int} (h : lands g g.edges[i] t = some q) : t < q.1 ∧ aliveB t g.lives g.edges[i].1 = true ∧ aliveB q.1 g.lives g.edges[i].2.1 = true ∧ q.1 < g.hor ∧ 0 ≤ q.2 ∧ q.2 ≤ 1000 := by
  obtain ⟨l, hl, k1, k2, k3, k4, k5, k6, k7⟩ := lands_spec (to := q.1) (c := q.2) h
  have hf := (fitB_iff _ _).1 (R.legs _ (List.getElem_mem hi) l hl)
  exact ⟨by omega, k5, k7, k6, by omega, by omega⟩
theorem alive_mid {g : Gr} {v a b c : Int} (h1 : aliveB a g.lives v = true) (h2 : aliveB c g.lives v = true) (k1 : a ≤ b) (k2 : b ≤ c) : aliveB b g.lives v = true := by
  unfold aliveB aliveL at *
  by_cases hv : v.toNat < g.lives.length
  · rw [List.getD_eq_getElem?_getD, List.getElem?_map, List.getElem?_eq_getElem hv] at *
    have h1 := (hasB_iff _ _ _).1 (show hasB g.lives[v.toNat].1 g.lives[v.toNat].2 a = true from h1)
    have h2 := (hasB_iff _ _ _).1 (show hasB g.lives[v.toNat].1 g.lives[v.toNat].2 c = true from h2)
    exact (hasB_iff _ _ _).2 (by omega)
  · rw [List.getD_eq_getElem?_getD, List.getElem?_eq_none (by simpa using hv)] at h1
    cases h1

theorem Rch.src {g : Gr} {v0 t0 v t : Int} (h : Rch g v0 t0 v t) : aliveB t0 g.lives v0 = true := by
  induction h with
  | base h => exact h
  | wait _ _ ih => exact ih
  | ride _ _ _ _ ih => exact ih
theorem Rch.alive {g : Gr} (R : Right g) {v0 t0 v t : Int} (h : Rch g v0 t0 v t) : aliveB t g.lives v = true := by
  cases h with
  | base h => exact h
  | wait _ h => exact h
  | ride i hi _ h => exact (lands_lt R hi h).2.2.1
theorem Rch.le {g : Gr} (R : Right g) {v0 t0 v t : Int} (h : Rch g v0 t0 v t) : t0 ≤ t := by
  induction h with
  | base h => omega
  | wait _ _ ih => omega
  | ride i hi _ h ih => have := (lands_lt R hi h).1; omega
theorem Rch.trans {g : Gr} {v0 t0 v1 t1 v t : Int} (h : Rch g v0 t0 v1 t1) (k : Rch g v1 t1 v t) : Rch g v0 t0 v t := by
  induction k with
  | base _ => exact h
  | wait _ k ih => exact .wait ih k
  | ride i hi _ k ih => exact .ride i hi ih k
theorem Rch.stay {g : Gr} {v0 t0 v t : Int} (h : Rch g v0 t0 v t) (ha : aliveB t g.lives v = true) : ∀ n : Nat, aliveB (t + n) g.lives v = true → Rch g v0 t0 v (t + n)
  | 0, _ => by simpa using h
  | n + 1, hn => by
    have h1 : aliveB (t + n) g.lives v = true := alive_mid ha hn (by omega) (by omega)
    have h2 := (h.stay ha n h1).wait (by rw [show t + (n : Int) + 1 = t + ((n + 1 : Nat) : Int) by omega]; exact hn)
    rw [show t + (n : Int) + 1 = t + ((n + 1 : Nat) : Int) by omega] at h2
    exact h2
theorem Rch.waits {g : Gr} (R : Right g) {v0 t0 v t t' : Int} (h : Rch g v0 t0 v t) (ht : t ≤ t') (ha : aliveB t' g.lives v = true) : Rch g v0 t0 v t' := by
  have e : t' = t + ((t' - t).toNat : Int) := by omega
  rw [e] at ha ⊢
  exact h.stay (h.alive R) _ ha
theorem Rch.place {g : Gr} (R : Right g) {v0 t0 v t : Int} (h0 : 0 ≤ v0) (h : Rch g v0 t0 v t) : 0 ≤ v ∧ v < g.lives.length ∧ 0 ≤ t ∧ t < g.hor := by
  have ha := alive_hor R (h.alive R)
  have : 0 ≤ v := by
    clear ha
    induction h with
    | base h => exact h0
    | wait _ _ ih => exact ih
    | ride i hi _ h ih => exact (R.ends _ (List.getElem_mem hi)).2.1.1
  omega

/-- a ride: edge, departure, from, to, arrival, cost -/
abbrev Ri := Int × Int × Int × Int × Int × Int
/-- the rides of the first i edges at a time -/
def ridesAt (g : Gr) (d : Int) : Nat → List Ri
  | 0 => []
  | i + 1 => ridesAt g d i ++
    match lands g (g.edges.getD i (0, 0, [])) d with
    | none => []
    | some q => [((i : Int), d, (g.edges.getD i (0, 0, [])).1, (g.edges.getD i (0, 0, [])).2.1, q.1, q.2)]
/-- .. and of the first k times -/
def ridesTo (g : Gr) : Nat → List Ri
  | 0 => []
  | k + 1 => ridesTo g k ++ ridesAt g (k : Int) g.edges.length
def ridesF (g : Gr) : List Ri := ridesTo g g.hor.toNat
theorem ridesAt_len (g : Gr) (d : Int) (i : Nat) : (ridesAt g d i).length ≤ i := by
  induction i with
  | zero => simp [ridesAt]
  | succ i ih =>
    rw [ridesAt, List.length_append]
    split <;> simp <;> omega
theorem ridesTo_len (g : Gr) (k : Nat) : (ridesTo g k).length ≤ k * g.edges.length := by
  induction k with
  | zero => simp [ridesTo]
  | succ k ih =>
    have := ridesAt_len g (k : Int) g.edges.length
    rw [ridesTo, List.length_append, Nat.succ_mul]; omega
theorem edge_getD {g : Gr} {i : Nat} (hi : i < g.edges.length) : g.edges.getD i (0, 0, []) = g.edges[i] := by rw [List.getD_eq_getElem?_getD, List.getElem?_eq_getElem hi]; rfl
theorem mem_ridesAt {g : Gr} {d : Int} {r : Ri} : ∀ {i : Nat}, i ≤ g.edges.length → (r ∈ ridesAt g d i ↔ ∃ (j : Nat) (hj : j < g.edges.length) (q : Int × Int), j < i ∧ lands g g.edges[j] d = some q ∧ r = ((j : Int), d, g.edges[j].1, g.edges[j].2.1, q.1, q.2))
  | 0, _ => by simp [ridesAt]
  | i + 1, hi => by
    rw [ridesAt, List.mem_append, mem_ridesAt (by omega), edge_getD (show i < g.edges.length by omega)]
    constructor
    · rintro (⟨j, hj, q, h1, h2⟩ | h1)
      · exact ⟨j, hj, q, by omega, h2⟩
      · split at h1
        · cases h1
        · rename_i q hq
          rw [List.mem_singleton] at h1
          exact ⟨i, by omega, q, by omega, hq, h1⟩
    · rintro ⟨j, hj, q, h1, h2, h3⟩
      rcases Nat.lt_or_ge j i with h4 | h4
      · exact .inl ⟨j, hj, q, h4, h2, h3⟩
      · have : j = i := by omega
        subst this
        right; rw [h2, h3]; simp
theorem mem_ridesTo {g : Gr} {r : Ri} : ∀ {k : Nat}, r ∈ ridesTo g k ↔ ∃ j : Nat, j < k ∧ r ∈ ridesAt g (j : Int) g.edges.length
  | 0 => by simp [ridesTo]
  | k + 1 => by
    rw [ridesTo, List.mem_append, mem_ridesTo]
    constructor
    · rintro (⟨j, h1, h2⟩ | h1)
      · exact ⟨j, by omega, h2⟩
      · exact ⟨k, by omega, h1⟩
    · rintro ⟨j, h1, h2⟩
      rcases Nat.lt_or_ge j k with h4 | h4
      · exact .inl ⟨j, h4, h2⟩
      · have : j = k := by omega
        subst this
        exact .inr h2
/-- what a ride is -/
structure RideOk (g : Gr) (r : Ri) : Prop where
  e0 : 0 ≤ r.1 ∧ r.1 < g.edges.length
  d0 : 0 ≤ r.2.1
  a0 : 0 ≤ r.2.2.1 ∧ r.2.2.1 < g.lives.length
  b0 : 0 ≤ r.2.2.2.1 ∧ r.2.2.2.1 < g.lives.length
  lt : r.2.1 < r.2.2.2.2.1
  hor : r.2.2.2.2.1 < g.hor
  alA : aliveB r.2.1 g.lives r.2.2.1 = true
  alB : aliveB r.2.2.2.2.1 g.lives r.2.2.2.1 = true
  go : ∀ {v0 t0 : Int}, Rch g v0 t0 r.2.2.1 r.2.1 → Rch g v0 t0 r.2.2.2.1 r.2.2.2.2.1
  hop : ∀ {t c : Int}, t ≤ r.2.1 → hopF g (r.2.2.1, t, c) (r.1, r.2.1) = some (r.2.2.2.1, r.2.2.2.2.1, c + r.2.2.2.2.2)
  c0 : 0 ≤ r.2.2.2.2.2 ∧ r.2.2.2.2.2 ≤ 1000
  ln : lands g (g.edges.getD r.1.toNat (0, 0, [])) r.2.1 = some (r.2.2.2.2.1, r.2.2.2.2.2)
  edA : (g.edges.getD r.1.toNat (0, 0, [])).1 = r.2.2.1
  edB : (g.edges.getD r.1.toNat (0, 0, [])).2.1 = r.2.2.2.1
theorem rideOk_of {g : Gr} (R : Right g) {j : Nat} (hj : j < g.edges.length) {d : Nat} {q : Int × Int} (hq : lands g g.edges[j] (d : Int) = some q) : RideOk g ((j : Int), (d : Int), g.edges[j].1, g.edges[j].2.1, q.1, q.2) := by
  obtain ⟨h1, h2, h3, h4, _, _⟩ := lands_lt R hj hq
  obtain ⟨hA, hB, _⟩ := R.ends _ (List.getElem_mem hj)
  refine ⟨⟨by simp only; omega, by simp only; omega⟩, by simp only; omega, hA, hB, h1, h4, h2, h3, fun h => .ride j hj h hq, fun {t c} ht => ?_, (lands_lt R hj hq).2.2.2.2, ?_, ?_, ?_⟩
  · simp only at ht
    unfold hopF
    rw [if_pos ((inR_iff _ _ _).2 (by simp only; omega))]
    simp only [Int.toNat_natCast]
    rw [edge_getD hj, if_pos ⟨rfl, ht⟩, hq]
  · simp only [Int.toNat_natCast]; rw [edge_getD hj]; exact hq
  · simp only [Int.toNat_natCast]; rw [edge_getD hj]
  · simp only [Int.toNat_natCast]; rw [edge_getD hj]
theorem mem_rides {g : Gr} (R : Right g) {r : Ri} (h : r ∈ ridesF g) : RideOk g r := by
  obtain ⟨k, hk, h⟩ := mem_ridesTo.1 h
  obtain ⟨j, hj, q, _, hq, rfl⟩ := (mem_ridesAt (Nat.le_refl _)).1 h
  exact rideOk_of R hj hq
theorem ride_mem {g : Gr} (R : Right g) {j : Nat} (hj : j < g.edges.length) {d : Int} (hd : 0 ≤ d) {q : Int × Int} (hq : lands g g.edges[j] d = some q) : ((j : Int), d, g.edges[j].1, g.edges[j].2.1, q.1, q.2) ∈ ridesF g := by
  obtain ⟨h1, h2, h3, h4, _, _⟩ := lands_lt R hj hq
  refine mem_ridesTo.2 ⟨d.toNat, by omega, (mem_ridesAt (Nat.le_refl _)).2 ⟨j, hj, q, hj, ?_, ?_⟩⟩
  · rw [show ((d.toNat : Nat) : Int) = d by omega]; exact hq
  · rw [show ((d.toNat : Nat) : Int) = d by omega]
theorem ridesTo_sorted (g : Gr) : ∀ k : Nat, (ridesTo g k).Pairwise fun a b => a.2.1 ≤ b.2.1
  | 0 => by simp [ridesTo]
  | k + 1 => by
    have hd : ∀ a ∈ ridesAt g (k : Int) g.edges.length, a.2.1 = (k : Int) := fun a ha => by
      obtain ⟨j, hj, q, _, _, rfl⟩ := (mem_ridesAt (Nat.le_refl _)).1 ha; rfl
    rw [ridesTo, List.pairwise_append]
    refine ⟨ridesTo_sorted g k, ?_, ?_⟩
    · exact List.pairwise_of_forall_mem_list fun a ha b hb => by rw [hd a ha, hd b hb]; omega
    · intro a ha b hb
      obtain ⟨j, h1, h2⟩ := mem_ridesTo.1 ha
      obtain ⟨i, hi, q, _, _, rfl⟩ := (mem_ridesAt (Nat.le_refl _)).1 h2
      rw [hd b hb]; simp only; omega

/-- one look at a ride forward: the times, and by which ride one came -/
def erT (T : List Int) (r : Ri) : List Int := if T.getD r.2.2.1.toNat 0 ≤ r.2.1 ∧ r.2.2.2.2.1 < T.getD r.2.2.2.1.toNat 0 then T.set r.2.2.2.1.toNat r.2.2.2.2.1 else T
def erL (T : List Int) (L : List Ri) (r : Ri) : List Ri := if T.getD r.2.2.1.toNat 0 ≤ r.2.1 ∧ r.2.2.2.2.1 < T.getD r.2.2.2.1.toNat 0 then L.set r.2.2.2.1.toNat r else L
def erGo (s : List Int × List Ri) (l : List Ri) : List Int × List Ri := l.foldl (fun s r => (erT s.1 r, erL s.1 s.2 r)) s
theorem erGo_nil (s : List Int × List Ri) : erGo s [] = s := rfl
theorem erGo_cons (s : List Int × List Ri) (r : Ri) (l : List Ri) : erGo s (r :: l) = erGo (erT s.1 r, erL s.1 s.2 r) l := rfl
theorem erGo_app (s : List Int × List Ri) (a b : List Ri) : erGo s (a ++ b) = erGo (erGo s a) b := by unfold erGo; rw [List.foldl_append]
theorem erGo_take {s : List Int × List Ri} {l : List Ri} {k : Nat} (hk : k < l.length) : erGo s (l.take (k + 1)) = (erT (erGo s (l.take k)).1 l[k], erL (erGo s (l.take k)).1 (erGo s (l.take k)).2 l[k]) := by
  unfold erGo; rw [List.take_succ_eq_append_getElem hk, List.foldl_append]; rfl
theorem erT_len (T : List Int) (r : Ri) : (erT T r).length = T.length := by unfold erT; split <;> simp
theorem erL_len (T : List Int) (L : List Ri) (r : Ri) : (erL T L r).length = L.length := by unfold erL; split <;> simp
theorem erGo_len (l : List Ri) : ∀ s : List Int × List Ri, (erGo s l).1.length = s.1.length ∧ (erGo s l).2.length = s.2.length := by
  induction l with
  | nil => intro s; exact ⟨rfl, rfl⟩
  | cons r l ih => intro s; rw [erGo_cons]; have := ih (erT s.1 r, erL s.1 s.2 r); simp only [erT_len, erL_len] at this; exact this
theorem getD_setI (T : List Int) (i j : Nat) (x : Int) (h : i < T.length) : (T.set i x).getD j 0 = if j = i then x else T.getD j 0 := by
  simp only [List.getD_eq_getElem?_getD, List.getElem?_set]
  by_cases e : i = j
  · subst e; simp [h]
  · have : ¬ j = i := fun h => e h.symm
    simp [e, this]
theorem getD_setR (T : List Ri) (i j : Nat) (x d : Ri) (h : i < T.length) : (T.set i x).getD j d = if j = i then x else T.getD j d := by
  simp only [List.getD_eq_getElem?_getD, List.getElem?_set]
  by_cases e : i = j
  · subst e; simp [h]
  · have : ¬ j = i := fun h => e h.symm
    simp [e, this]
theorem erT_le (T : List Int) (r : Ri) (v : Nat) : (erT T r).getD v 0 ≤ T.getD v 0 := by
  unfold erT
  split
  · rename_i h
    by_cases hl : r.2.2.2.1.toNat < T.length
    · rw [getD_setI _ _ _ _ hl]; split
      · rename_i e; rw [e]; omega
      · omega
    · rw [List.set_eq_of_length_le (by omega)]; omega
  · omega
theorem erGo_le (l : List Ri) (v : Nat) : ∀ s : List Int × List Ri, (erGo s l).1.getD v 0 ≤ s.1.getD v 0 := by
  induction l with
  | nil => intro s; rw [erGo_nil]; omega
  | cons r l ih => intro s; rw [erGo_cons]; have h1 := ih (erT s.1 r, erL s.1 s.2 r); have h2 := erT_le s.1 r v; simp only at h1; omega
/-- rides that leave at t or later bring nobody anywhere by t -/
theorem erGo_late (t : Int) (v : Nat) : ∀ (l : List Ri) (s : List Int × List Ri), (∀ r ∈ l, t ≤ r.2.1 ∧ r.2.1 < r.2.2.2.2.1) → (erGo s l).1.getD v 0 ≤ t → s.1.getD v 0 ≤ t
  | [], s, _, h => h
  | r :: l, s, hl, h => by
    rw [erGo_cons] at h
    have h1 := erGo_late t v l _ (fun x hx => hl x (by simp [hx])) h
    have h2 := hl r (by simp)
    simp only [erT] at h1
    split at h1
    · by_cases hlen : r.2.2.2.1.toNat < s.1.length
      · rw [getD_setI _ _ _ _ hlen] at h1
        split at h1
        · omega
        · exact h1
      · rw [List.set_eq_of_length_le (by omega)] at h1; exact h1
    · exact h1

/-- what is told at first -/
def er0 (g : Gr) (v t : Int) : List Int × List Ri := ((List.replicate g.lives.length (1099511627776 : Int)).set v.toNat t, List.replicate g.lives.length (0, 0, 0, 0, 0, 0))
/-- the earliest times, and the last rides -/
def erF (g : Gr) (v t : Int) : List Int × List Ri :=
  if aliveB t g.lives v = true then erGo (er0 g v t) (ridesF g) else (List.replicate g.lives.length 1099511627776, List.replicate g.lives.length (0, 0, 0, 0, 0, 0))
theorem erF_len (g : Gr) (v t : Int) : (erF g v t).1.length = g.lives.length ∧ (erF g v t).2.length = g.lives.length := by
  unfold erF
  split
  · have := erGo_len (ridesF g) (er0 g v t); simpa [er0] using this
  · simp
theorem rep_getD (n : Nat) (x : Int) (v : Nat) (hv : v < n) : (List.replicate n x).getD v 0 = x := by simp [List.getD_eq_getElem?_getD, hv]

/-- the state behind some rides: what is told is true, and the last rides lead there -/
structure ErOk (g : Gr) (v0 t0 : Int) (s : List Int × List Ri) : Prop where
  len : s.1.length = g.lives.length
  lenL : s.2.length = g.lives.length
  at0 : s.1.getD v0.toNat 0 = t0
  is : ∀ v : Nat, v < g.lives.length → s.1.getD v 0 = 1099511627776 ∨ Rch g v0 t0 (v : Int) (s.1.getD v 0)
  way : ∀ v : Nat, v < g.lives.length → s.1.getD v 0 ≠ 1099511627776 → (v : Int) ≠ v0 → RideOk g (s.2.getD v (0, 0, 0, 0, 0, 0)) ∧ (s.2.getD v (0, 0, 0, 0, 0, 0)).2.2.2.1 = (v : Int) ∧ (s.2.getD v (0, 0, 0, 0, 0, 0)).2.2.2.2.1 = s.1.getD v 0 ∧ s.1.getD (s.2.getD v (0, 0, 0, 0, 0, 0)).2.2.1.toNat 0 ≤ (s.2.getD v (0, 0, 0, 0, 0, 0)).2.1
theorem er0_ok {g : Gr} (R : Right g) {v t : Int} (h0 : 0 ≤ v) (ha : aliveB t g.lives v = true) : ErOk g v t (er0 g v t) := by
  have hv := alive_hor R ha
  have hg : ∀ x : Nat, x < g.lives.length → (er0 g v t).1.getD x 0 = if x = v.toNat then t else 1099511627776 := fun x hx => by
    unfold er0; simp only; rw [getD_setI _ _ _ _ (by simpa using hv.1), rep_getD _ _ _ hx]
  refine ⟨by simp [er0], by simp [er0], by rw [hg _ hv.1, if_pos rfl], fun x hx => ?_, fun x hx h1 h2 => ?_⟩
  · rw [hg _ hx]
    split
    · rename_i e; right; rw [e, show ((v.toNat : Nat) : Int) = v by omega]; exact .base ha
    · exact .inl rfl
  · rw [hg _ hx] at h1
    rw [if_neg (by omega)] at h1
    exact absurd rfl h1
theorem ErOk.step {g : Gr} (R : Right g) {v0 t0 : Int} {s : List Int × List Ri} (h0 : 0 ≤ v0) (h : ErOk g v0 t0 s) {r : Ri} (hr : RideOk g r) : ErOk g v0 t0 (erT s.1 r, erL s.1 s.2 r) := by
  by_cases hc : s.1.getD r.2.2.1.toNat 0 ≤ r.2.1 ∧ r.2.2.2.2.1 < s.1.getD r.2.2.2.1.toNat 0
  · obtain ⟨c1, c2⟩ := hc
    have eT : erT s.1 r = s.1.set r.2.2.2.1.toNat r.2.2.2.2.1 := by unfold erT; rw [if_pos ⟨c1, c2⟩]
    have eL : erL s.1 s.2 r = s.2.set r.2.2.2.1.toNat r := by unfold erL; rw [if_pos ⟨c1, c2⟩]
    rw [eT, eL]
    have hb : r.2.2.2.1.toNat < s.1.length := by rw [h.len]; have := hr.b0; omega
    have hbL : r.2.2.2.1.toNat < s.2.length := by rw [h.lenL]; have := hr.b0; omega
    have ha : r.2.2.1.toNat < g.lives.length := by have := hr.a0; omega
    have hor := hr.hor
    have hh := R.hor
    have hlt := hr.lt
    have hR : Rch g v0 t0 r.2.2.1 r.2.1 := by
      rcases h.is _ ha with e | e
      · omega
      · rw [show ((r.2.2.1.toNat : Nat) : Int) = r.2.2.1 by have := hr.a0; omega] at e
        exact e.waits R c1 hr.alA
    have hR2 := hr.go hR
    have hb0 := hr.b0
    have hge : ∀ x : Nat, x < g.lives.length → t0 ≤ s.1.getD x 0 := fun x hx => by
      rcases h.is x hx with e | e
      · rw [e]; have := (hR.le R); have := (hR.place R h0).2.2; omega
      · exact e.le R
    refine ⟨by rw [List.length_set]; exact h.len, by rw [List.length_set]; exact h.lenL, ?_, fun x hx => ?_, fun x hx k1 k2 => ?_⟩
    · simp only
      rw [getD_setI _ _ _ _ hb]
      split
      · rename_i e
        have h1 := h.at0
        rw [e] at h1
        have h2 := hR2.le R
        omega
      · exact h.at0
    · simp only
      rw [getD_setI _ _ _ _ hb]
      split
      · rename_i e; right; rw [e, show ((r.2.2.2.1.toNat : Nat) : Int) = r.2.2.2.1 by omega]; exact hR2
      · exact h.is x hx
    · simp only at k1 ⊢
      have hgt : ∀ y : Nat, (s.1.set r.2.2.2.1.toNat r.2.2.2.2.1).getD y 0 ≤ s.1.getD y 0 := fun y => by
        rw [getD_setI _ _ _ _ hb]
        split
        · rename_i e; rw [e]; omega
        · omega
      by_cases e : x = r.2.2.2.1.toNat
      · have eD : (s.2.set r.2.2.2.1.toNat r).getD x (0, 0, 0, 0, 0, 0) = r := by rw [getD_setR _ _ _ _ _ hbL, if_pos e]
        have eX : (s.1.set r.2.2.2.1.toNat r.2.2.2.2.1).getD x 0 = r.2.2.2.2.1 := by rw [getD_setI _ _ _ _ hb, if_pos e]
        rw [eD, eX]
        exact ⟨hr, by omega, rfl, Int.le_trans (hgt _) c1⟩
      · have eD : (s.2.set r.2.2.2.1.toNat r).getD x (0, 0, 0, 0, 0, 0) = s.2.getD x (0, 0, 0, 0, 0, 0) := by rw [getD_setR _ _ _ _ _ hbL, if_neg e]
        have eX : (s.1.set r.2.2.2.1.toNat r.2.2.2.2.1).getD x 0 = s.1.getD x 0 := by rw [getD_setI _ _ _ _ hb, if_neg e]
        rw [eX] at k1
        rw [eD, eX]
        obtain ⟨q1, q2, q3, q4⟩ := h.way x hx k1 k2
        exact ⟨q1, q2, q3, Int.le_trans (hgt _) q4⟩
  · have eT : erT s.1 r = s.1 := by unfold erT; rw [if_neg hc]
    have eL : erL s.1 s.2 r = s.2 := by unfold erL; rw [if_neg hc]
    rw [eT, eL]; exact h
theorem ErOk.go {g : Gr} (R : Right g) {v0 t0 : Int} (h0 : 0 ≤ v0) : ∀ (l : List Ri) (s : List Int × List Ri), (∀ r ∈ l, RideOk g r) → ErOk g v0 t0 s → ErOk g v0 t0 (erGo s l)
  | [], s, _, h => h
  | r :: l, s, hl, h => by
    rw [erGo_cons]
    exact ErOk.go R h0 l _ (fun x hx => hl x (by simp [hx])) (h.step R h0 (hl r (by simp)))
/-- what is told is the earliest -/
theorem er_least {g : Gr} (R : Right g) {v0 t0 v t : Int} (h0 : 0 ≤ v0) (h : Rch g v0 t0 v t) : (erGo (er0 g v0 t0) (ridesF g)).1.getD v.toNat 0 ≤ t := by
  induction h with
  | base ha =>
    have := (er0_ok R h0 ha).at0
    have := erGo_le (ridesF g) v0.toNat (er0 g v0 t0)
    omega
  | wait _ _ ih => omega
  | @ride t q i hi h hq ih =>
    have hp := h.place R h0
    obtain ⟨A, B, hAB⟩ := List.append_of_mem (ride_mem R hi hp.2.2.1 hq)
    have hs : (ridesF g).Pairwise fun a b => a.2.1 ≤ b.2.1 := ridesTo_sorted g _
    have hok : ∀ r ∈ ridesF g, RideOk g r := fun r hr => mem_rides R hr
    rw [hAB] at hs hok
    rw [hAB, erGo_app] at ih ⊢
    have hs2 := (List.pairwise_append.1 hs).2.1
    have h1 := erGo_late t _ _ _ (fun r hr => by
      refine ⟨?_, (hok r (by simp only [List.mem_append]; exact .inr hr)).lt⟩
      rcases List.mem_cons.1 hr with rfl | hr
      · exact Int.le_refl _
      · exact (List.pairwise_cons.1 hs2).1 r hr) ih
    rw [erGo_cons]
    have h2 := erGo_le B g.edges[i].2.1.toNat (erT (erGo (er0 g v0 t0) A).1 ((i : Int), t, g.edges[i].1, g.edges[i].2.1, q.1, q.2), erL (erGo (er0 g v0 t0) A).1 (erGo (er0 g v0 t0) A).2 ((i : Int), t, g.edges[i].1, g.edges[i].2.1, q.1, q.2))
    refine Int.le_trans h2 ?_
    simp only [erT]
    have hb : g.edges[i].2.1.toNat < (erGo (er0 g v0 t0) A).1.length := by
      rw [(erGo_len A _).1]
      have := (R.ends _ (List.getElem_mem hi)).2.1
      simp [er0]; omega
    split
    · rw [getD_setI _ _ _ _ hb, if_pos rfl]; omega
    · rename_i hn
      have := fun k => hn ⟨h1, k⟩
      omega
/-- the earliest times, said once -/
theorem erF_ok {g : Gr} (R : Right g) {v t : Int} (h0 : 0 ≤ v) (ha : aliveB t g.lives v = true) : ErOk g v t (erF g v t) ∧ ∀ x y, Rch g v t x y → (erF g v t).1.getD x.toNat 0 ≤ y := by
  have e : erF g v t = erGo (er0 g v t) (ridesF g) := by unfold erF; rw [if_pos ha]
  rw [e]
  exact ⟨ErOk.go R h0 _ _ (fun r hr => mem_rides R hr) (er0_ok R h0 ha), fun x y h => er_least R h0 h⟩
theorem erF_away {g : Gr} {v t : Int} (ha : ¬ aliveB t g.lives v = true) : (erF g v t).1 = List.replicate g.lives.length 1099511627776 := by unfold erF; rw [if_neg ha]

/-- one look at a ride backward -/
def ltT (T : List Int) (r : Ri) : List Int := if r.2.2.2.2.1 ≤ T.getD r.2.2.2.1.toNat 0 then T.set r.2.2.1.toNat (max (T.getD r.2.2.1.toNat 0) r.2.1) else T
def ltGo (T : List Int) (l : List Ri) : List Int := l.foldl ltT T
theorem ltGo_cons (T : List Int) (r : Ri) (l : List Ri) : ltGo T (r :: l) = ltGo (ltT T r) l := rfl
theorem ltGo_app (T : List Int) (a b : List Ri) : ltGo T (a ++ b) = ltGo (ltGo T a) b := by unfold ltGo; rw [List.foldl_append]
theorem ltT_len (T : List Int) (r : Ri) : (ltT T r).length = T.length := by unfold ltT; split <;> simp
theorem ltGo_len (l : List Ri) : ∀ T : List Int, (ltGo T l).length = T.length := by
  induction l with
  | nil => intro T; rfl
  | cons r l ih => intro T; rw [ltGo_cons, ih, ltT_len]
theorem ltT_ge (T : List Int) (r : Ri) (v : Nat) : T.getD v 0 ≤ (ltT T r).getD v 0 := by
  unfold ltT
  split
  · by_cases hl : r.2.2.1.toNat < T.length
    · rw [getD_setI _ _ _ _ hl]; split
      · rename_i e; rw [e]; omega
      · omega
    · rw [List.set_eq_of_length_le (by omega)]; omega
  · omega
theorem ltGo_ge (l : List Ri) (v : Nat) : ∀ T : List Int, T.getD v 0 ≤ (ltGo T l).getD v 0 := by
  induction l with
  | nil => intro T; exact Int.le_refl _
  | cons r l ih => intro T; rw [ltGo_cons]; have h1 := ih (ltT T r); have h2 := ltT_ge T r v; omega
theorem ltGo_late (t : Int) (v : Nat) : ∀ (l : List Ri) (T : List Int), (∀ r ∈ l, r.2.1 < t) → t ≤ (ltGo T l).getD v 0 → t ≤ T.getD v 0
  | [], T, _, h => h
  | r :: l, T, hl, h => by
    rw [ltGo_cons] at h
    have h1 := ltGo_late t v l _ (fun x hx => hl x (by simp [hx])) h
    have h2 := hl r (by simp)
    simp only [ltT] at h1
    split at h1
    · by_cases hlen : r.2.2.1.toNat < T.length
      · rw [getD_setI _ _ _ _ hlen] at h1
        split at h1
        · rename_i e; rw [e]; omega
        · exact h1
      · rw [List.set_eq_of_length_le (by omega)] at h1; exact h1
    · exact h1
def lt0 (g : Gr) (q d : Int) : List Int := (List.replicate g.lives.length (-1 : Int)).set q.toNat d
/-- the latest times -/
def ltF (g : Gr) (q d : Int) : List Int := if aliveB d g.lives q = true then ltGo (lt0 g q d) (ridesF g).reverse else List.replicate g.lives.length (-1)
theorem ltF_len (g : Gr) (q d : Int) : (ltF g q d).length = g.lives.length := by
  unfold ltF
  split
  · rw [ltGo_len]; simp [lt0]
  · simp
structure LtOk (g : Gr) (q d : Int) (T : List Int) : Prop where
  len : T.length = g.lives.length
  is : ∀ v : Nat, v < g.lives.length → T.getD v 0 = -1 ∨ Rch g (v : Int) (T.getD v 0) q d
theorem lt0_get {g : Gr} {q d : Int} (hq : q.toNat < g.lives.length) (x : Nat) (hx : x < g.lives.length) : (lt0 g q d).getD x 0 = if x = q.toNat then d else -1 := by
  unfold lt0; rw [getD_setI _ _ _ _ (by simpa using hq), rep_getD _ _ _ hx]
theorem lt0_ok {g : Gr} (R : Right g) {q d : Int} (h0 : 0 ≤ q) (ha : aliveB d g.lives q = true) : LtOk g q d (lt0 g q d) := by
  have hv := alive_hor R ha
  refine ⟨by simp [lt0], fun x hx => ?_⟩
  rw [lt0_get hv.1 x hx]
  split
  · rename_i e; right; rw [e, show ((q.toNat : Nat) : Int) = q by omega]; exact .base ha
  · exact .inl rfl
theorem LtOk.step {g : Gr} (R : Right g) {q d : Int} {T : List Int} (h : LtOk g q d T) {r : Ri} (hr : RideOk g r) : LtOk g q d (ltT T r) := by
  unfold ltT
  split
  · rename_i c
    have ha0 := hr.a0
    have hb0 := hr.b0
    have hlt := hr.lt
    have hd0 := hr.d0
    have ha : r.2.2.1.toNat < T.length := by rw [h.len]; omega
    refine ⟨by rw [List.length_set]; exact h.len, fun x hx => ?_⟩
    rw [getD_setI _ _ _ _ ha]
    split
    · rename_i e
      have hR : Rch g r.2.2.1 r.2.1 q d := by
        rcases h.is r.2.2.2.1.toNat (by omega) with e2 | e2
        · omega
        · rw [show ((r.2.2.2.1.toNat : Nat) : Int) = r.2.2.2.1 by omega] at e2
          exact ((hr.go (.base hr.alA)).waits R c e2.src).trans e2
      rw [e, show ((r.2.2.1.toNat : Nat) : Int) = r.2.2.1 by omega]
      right
      rcases Int.le_total (T.getD r.2.2.1.toNat 0) r.2.1 with k | k
      · rw [Int.max_eq_right k]; exact hR
      · rw [Int.max_eq_left k]
        rcases h.is r.2.2.1.toNat (by omega) with e2 | e2
        · omega
        · rw [show ((r.2.2.1.toNat : Nat) : Int) = r.2.2.1 by omega] at e2; exact e2
    · exact h.is x hx
  · exact h
theorem LtOk.go {g : Gr} (R : Right g) {q d : Int} : ∀ (l : List Ri) (T : List Int), (∀ r ∈ l, RideOk g r) → LtOk g q d T → LtOk g q d (ltGo T l)
  | [], T, _, h => h
  | r :: l, T, hl, h => by
    rw [ltGo_cons]
    exact LtOk.go R l _ (fun x hx => hl x (by simp [hx])) (h.step R (hl r (by simp)))
theorem lt_closed {g : Gr} (R : Right g) (T0 : List Int) (hT : T0.length = g.lives.length) {r : Ri} (hr : r ∈ ridesF g) (h : r.2.2.2.2.1 ≤ (ltGo T0 (ridesF g).reverse).getD r.2.2.2.1.toNat 0) : r.2.1 ≤ (ltGo T0 (ridesF g).reverse).getD r.2.2.1.toNat 0 := by
  have hrok := mem_rides R hr
  obtain ⟨A, B, hAB⟩ := List.append_of_mem hr
  have hs : (ridesF g).Pairwise fun a b => a.2.1 ≤ b.2.1 := ridesTo_sorted g _
  have hrev : (ridesF g).reverse = B.reverse ++ r :: A.reverse := by rw [hAB]; simp
  rw [hAB] at hs
  rw [hrev, ltGo_app] at h ⊢
  have hA := (List.pairwise_append.1 hs).2.2
  have hlt := hrok.lt
  have h1 := ltGo_late r.2.2.2.2.1 _ _ _ (fun x hx => by
    rcases List.mem_cons.1 hx with rfl | hx
    · exact hlt
    · have := hA x (List.mem_reverse.1 hx) r (by simp); omega) h
  rw [ltGo_cons]
  refine Int.le_trans ?_ (ltGo_ge A.reverse _ _)
  have ha : r.2.2.1.toNat < (ltGo T0 B.reverse).length := by rw [ltGo_len, hT]; have := hrok.a0; omega
  unfold ltT
  rw [if_pos h1, getD_setI _ _ _ _ ha, if_pos rfl]
  omega
/-- what is told is the latest -/
theorem ltF_ok {g : Gr} (R : Right g) {q d : Int} (h0 : 0 ≤ q) (ha : aliveB d g.lives q = true) : LtOk g q d (ltF g q d) ∧ ∀ x y, 0 ≤ x → Rch g x y q d → y ≤ (ltF g q d).getD x.toNat 0 := by
  have hv := alive_hor R ha
  have e : ltF g q d = ltGo (lt0 g q d) (ridesF g).reverse := by unfold ltF; rw [if_pos ha]
  rw [e]
  refine ⟨LtOk.go R _ _ (fun r hr => mem_rides R (List.mem_reverse.1 hr)) (lt0_ok R h0 ha), fun x y hx h => ?_⟩
  have key : ∀ v t, Rch g x y v t → t ≤ (ltGo (lt0 g q d) (ridesF g).reverse).getD v.toNat 0 → y ≤ (ltGo (lt0 g q d) (ridesF g).reverse).getD x.toNat 0 := by
    intro v t h
    induction h with
    | base _ => exact id
    | wait _ _ ih => exact fun h => ih (by omega)
    | @ride t q' i hi h hq ih =>
      intro h2
      have hp := h.place R hx
      exact ih (lt_closed R _ (by simp [lt0]) (ride_mem R hi hp.2.2.1 hq) h2)
  refine key q d h ?_
  have h1 := lt0_get (d := d) hv.1 q.toNat hv.1
  rw [if_pos rfl] at h1
  have := ltGo_ge (ridesF g).reverse q.toNat (lt0 g q d)
  omega
theorem ltF_away {g : Gr} {q d : Int} (ha : ¬ aliveB d g.lives q = true) : ltF g q d = List.replicate g.lives.length (-1) := by unfold ltF; rw [if_neg ha]

theorem mem_waitA {g : Gr} {t : Nat} {a : JA} : ∀ {k : Nat}, a ∈ waitA g t k ↔ ∃ v : Nat, v < k ∧ ((t : Int) + 1 < g.hor) ∧ aliveB ((t : Int) + 1) g.lives (v : Int) = true ∧ a = (v, t, v, t + 1, 0)
  | 0 => by simp [waitA]
  | k + 1 => by
    rw [waitA, List.mem_append, mem_waitA]
    constructor
    · rintro (⟨j, h1, h2⟩ | h1)
      · exact ⟨j, by omega, h2⟩
      · split at h1
        · rename_i h2
          rw [List.mem_singleton] at h1
          exact ⟨k, by omega, h2.1, h2.2, h1⟩
        · cases h1
    · rintro ⟨j, h1, h2, h3, h4⟩
      rcases Nat.lt_or_ge j k with h5 | h5
      · exact .inl ⟨j, h5, h2, h3, h4⟩
      · have : j = k := by omega
        subst this
        right; rw [if_pos ⟨h2, h3⟩, h4]; simp
theorem mem_legA {g : Gr} {pr : Int → Int} {t : Nat} {a : JA} : ∀ {i : Nat}, i ≤ g.edges.length → (a ∈ legA g pr t i ↔ ∃ (j : Nat) (hj : j < g.edges.length) (q : Int × Int), j < i ∧ lands g g.edges[j] (t : Int) = some q ∧ a = (g.edges[j].1.toNat, t, g.edges[j].2.1.toNat, q.1.toNat, pr q.2))
  | 0, _ => by simp [legA]
  | i + 1, hi => by
    rw [legA, List.mem_append, mem_legA (by omega), edge_getD (show i < g.edges.length by omega)]
    constructor
    · rintro (⟨j, hj, q, h1, h2⟩ | h1)
      · exact ⟨j, hj, q, by omega, h2⟩
      · split at h1
        · cases h1
        · rename_i q hq
          rw [List.mem_singleton] at h1
          exact ⟨i, by omega, q, by omega, hq, h1⟩
    · rintro ⟨j, hj, q, h1, h2, h3⟩
      rcases Nat.lt_or_ge j i with h4 | h4
      · exact .inl ⟨j, hj, q, h4, h2, h3⟩
      · have : j = i := by omega
        subst this
        right; rw [h2, h3]; simp
theorem mem_allA {g : Gr} {pr : Int → Int} {a : JA} : ∀ {k : Nat}, a ∈ allA g pr k ↔ ∃ t : Nat, t < k ∧ (a ∈ waitA g t g.lives.length ∨ a ∈ legA g pr t g.edges.length)
  | 0 => by simp [allA]
  | k + 1 => by
    rw [allA, List.mem_append, List.mem_append, mem_allA]
    constructor
    · rintro (⟨j, h1, h2⟩ | h1)
      · exact ⟨j, by omega, h2⟩
      · exact ⟨k, by omega, h1⟩
    · rintro ⟨j, h1, h2⟩
      rcases Nat.lt_or_ge j k with h4 | h4
      · exact .inl ⟨j, h4, h2⟩
      · have : j = k := by omega
        subst this
        exact .inr h2
open Classical in
/-- Sums tells of a place just if one can be there -/
theorem sum_reach {g : Gr} (R : Right g) {pr : Int → Int} (hpr : ∀ c, 0 ≤ c → c ≤ 1000 → 0 ≤ pr c ∧ pr c ≤ 1000) {v t : Int} (h0 : 0 ≤ v) {X : Tb} (B : JBest g.lives.length g.hor.toNat (firstT g v t) (allA g pr g.hor.toNat) X) (hT : Tm g.lives.length g.hor.toNat X)
    (x y : Nat) (hx : x < g.lives.length) (hy : y < g.hor.toNat) : tat X x y < 1099511627776 ↔ Rch g v t (x : Int) (y : Int) := by
  have hh := R.hor
  have hok := allA_ok R hpr g.hor.toNat (by omega)
  have hlt : ∀ a b : Nat, a < g.lives.length → b < g.hor.toNat → (tat X a b < 1099511627776 ↔ tat X a b ≤ 1000 * 100) := fun a b ha hb => by
    rcases hT a b ha hb with e | e <;> omega
  constructor
  · intro h
    have hadm : JAdm g.lives.length g.hor.toNat (firstT g v t) (allA g pr g.hor.toNat) (fun a b => if Rch g v t (a : Int) (b : Int) then 0 else 1099511627776) := by
      refine ⟨fun a b ha hb => ?_, fun a ha => ?_⟩
      · show (if Rch g v t (a : Int) (b : Int) then (0 : Int) else 1099511627776) ≤ _
        split
        · exact firstT_lo _ _ _ _ _
        · rename_i hn
          unfold firstT
          rw [if_neg (fun k => hn (by rw [k.2.1, k.2.2]; exact .base k.1))]
          omega
      · have hp := (hok a ha).p0
        obtain ⟨k, hk, ha | ha⟩ := mem_allA.1 ha
        · obtain ⟨u, h1, h2, h3, rfl⟩ := mem_waitA.1 ha
          simp only at hp ⊢
          by_cases hR : Rch g v t (u : Int) (k : Int)
          · rw [if_pos hR, if_pos (by have := hR.wait h3; rwa [show (k : Int) + 1 = ((k + 1 : Nat) : Int) by omega] at this)]; omega
          · rw [if_neg hR]; split <;> omega
        · obtain ⟨j, hj, q, _, hq, rfl⟩ := (mem_legA (Nat.le_refl _)).1 ha
          simp only at hp ⊢
          obtain ⟨l1, l2, l3, l4, _, _⟩ := lands_lt R hj hq
          obtain ⟨hA, hB, _⟩ := R.ends _ (List.getElem_mem hj)
          rw [show ((g.edges[j].1.toNat : Nat) : Int) = g.edges[j].1 by omega, show ((g.edges[j].2.1.toNat : Nat) : Int) = g.edges[j].2.1 by omega, show ((q.1.toNat : Nat) : Int) = q.1 by omega]
          by_cases hR : Rch g v t g.edges[j].1 (k : Int)
          · rw [if_pos hR, if_pos (.ride j hj hR hq)]; omega
          · rw [if_neg hR]; split <;> omega
    have hm := B.mid.most _ hadm x y hx hy
    refine Classical.byContradiction fun hn => ?_
    rw [if_neg hn] at hm
    omega
  · intro h
    have key : ∀ a b : Int, Rch g v t a b → tat X a.toNat b.toNat < 1099511627776 := by
      intro a b h
      induction h with
      | base ha =>
        have hv := alive_hor R ha
        have := B.mid.le v.toNat t.toNat hv.1 (by omega)
        unfold firstT at this
        rw [if_pos ⟨ha, by omega, by omega⟩] at this
        omega
      | @wait a b h ha ih =>
        have hp := h.place R h0
        have hp2 := (h.wait ha).place R h0
        have hmem : (a.toNat, b.toNat, a.toNat, b.toNat + 1, (0 : Int)) ∈ allA g pr g.hor.toNat := mem_allA.2 ⟨b.toNat, by omega, .inl (mem_waitA.2 ⟨a.toNat, by omega, by omega, by rw [show ((b.toNat : Nat) : Int) = b by omega, show ((a.toNat : Nat) : Int) = a by omega]; exact ha, rfl⟩)⟩
        have hc := B.cl _ hmem
        unfold dst src at hc
        simp only at hc
        rw [show (b + 1).toNat = b.toNat + 1 by omega]
        omega
      | @ride b q j hj h hq ih =>
        have hp := h.place R h0
        have hp2 := (Rch.ride j hj h hq).place R h0
        have hmem : (g.edges[j].1.toNat, b.toNat, g.edges[j].2.1.toNat, q.1.toNat, pr q.2) ∈ allA g pr g.hor.toNat := mem_allA.2 ⟨b.toNat, by omega, .inr ((mem_legA (Nat.le_refl _)).2 ⟨j, hj, q, hj, by rw [show ((b.toNat : Nat) : Int) = b by omega]; exact hq, rfl⟩)⟩
        have hc := B.cl _ hmem
        have hpp := hpr q.2 (lands_lt R hj hq).2.2.2.2.1 (lands_lt R hj hq).2.2.2.2.2
        have h3 := (hlt _ _ (by omega) (by omega)).1 ih
        unfold dst src at hc
        simp only at hc
        omega
    have := key _ _ h
    simpa using this

end Go.Proofs.Ytkgbgkcbflicmac

namespace Go.Proofs.Ytkgbgkcbflicmac

/-- does a ride leave v at t or later, by one who is there at t? -/
def leavB (g : Gr) (v t : Int) (r : Ri) : Bool := decide (r.2.2.1 = v) && (decide (t ≤ r.2.1) && (aliveB t g.lives v && aliveB r.2.1 g.lives v))
def outR (g : Gr) (v t : Int) (l : List Ri) : List Hp := (l.filter (leavB g v t)).map fun r => (r.1, r.2.1)
theorem outR_nil (g : Gr) (v t : Int) : outR g v t [] = [] := rfl
theorem outR_app (g : Gr) (v t : Int) (a b : List Ri) : outR g v t (a ++ b) = outR g v t a ++ outR g v t b := by simp [outR]
theorem outR_one (g : Gr) (v t : Int) (r : Ri) : outR g v t [r] = if leavB g v t r = true then [(r.1, r.2.1)] else [] := by
  unfold outR; rw [List.filter_cons]; split <;> simp
theorem outR_take {g : Gr} {v t : Int} {l : List Ri} {k : Nat} (hk : k < l.length) : outR g v t (l.take (k + 1)) = outR g v t (l.take k) ++ if leavB g v t l[k] = true then [(l[k].1, l[k].2.1)] else [] := by
  rw [List.take_succ_eq_append_getElem hk, outR_app, outR_one]
theorem outR_len (g : Gr) (v t : Int) (l : List Ri) : (outR g v t l).length ≤ l.length := by unfold outR; rw [List.length_map]; exact List.length_filter_le _ _
theorem outR_at {g : Gr} (R : Right g) {v t d : Int} : ∀ i, i ≤ g.edges.length → outR g v t (ridesAt g d i) = if t ≤ d ∧ aliveB t g.lives v = true then outAt g v d i else []
  | 0, _ => by simp [ridesAt, outAt, outR]
  | i + 1, hi => by
    have hi' : i < g.edges.length := by omega
    rw [ridesAt, outAt, outR_app, outR_at R i (by omega), edge_getD hi']
    cases hq : lands g g.edges[i] d with
    | none => simp [outR_nil]
    | some q =>
      obtain ⟨l1, l2, l3, l4, _⟩ := lands_lt R hi' hq
      simp only [outR_one]
      by_cases hv : g.edges[i].1 = v
      · rw [hv] at l2
        by_cases hc : t ≤ d ∧ aliveB t g.lives v = true
        · have e : leavB g v t ((i : Int), d, g.edges[i].1, g.edges[i].2.1, q.1, q.2) = true := by unfold leavB; simp only [hv, l2, hc.1, hc.2]; simp
          rw [if_pos hc, if_pos hc, if_pos e, if_pos ⟨rfl, hv⟩]
        · have e : ¬ leavB g v t ((i : Int), d, g.edges[i].1, g.edges[i].2.1, q.1, q.2) = true := by
            unfold leavB; simp only [hv, l2]; simp; intro h; exact Classical.byContradiction fun k => hc ⟨h, by simpa using k⟩
          rw [if_neg hc, if_neg hc, if_neg e]; rfl
      · have e : ¬ leavB g v t ((i : Int), d, g.edges[i].1, g.edges[i].2.1, q.1, q.2) = true := by unfold leavB; simp [hv]
        rw [if_neg e, if_neg (fun h => hv h.2 : ¬ ((some q).isSome = true ∧ g.edges[i].1 = v))]; simp
theorem outR_early {g : Gr} (R : Right g) {v t : Int} : ∀ k : Nat, (k : Int) ≤ t → outR g v t (ridesTo g k) = []
  | 0, _ => rfl
  | k + 1, h => by rw [ridesTo, outR_app, outR_early R k (by omega), outR_at R _ (Nat.le_refl _), if_neg (by omega)]; rfl
theorem outR_to {g : Gr} (R : Right g) {v : Int} {t : Nat} : ∀ k : Nat, outR g v (t : Int) (ridesTo g (t + k)) = if aliveB (t : Int) g.lives v = true then outsTo g v (t : Int) k else []
  | 0 => by rw [Nat.add_zero, outR_early R t (by omega)]; simp [outsTo]
  | k + 1 => by
    rw [← Nat.add_assoc, ridesTo, outR_app, outR_to R k, outR_at R _ (Nat.le_refl _), outsTo, show ((t + k : Nat) : Int) = (t : Int) + (k : Int) by omega]
    by_cases ha : aliveB (t : Int) g.lives v = true
    · rw [if_pos ha, if_pos ha, if_pos ⟨by omega, ha⟩]
    · rw [if_neg ha, if_neg ha, if_neg (fun h => ha h.2)]; rfl
theorem outR_all {g : Gr} (R : Right g) {v t : Int} (h0 : 0 ≤ t) (h1 : t < g.hor) : outR g v t (ridesF g) = outsF g v t := by
  have e : t = ((t.toNat : Nat) : Int) := by omega
  have e2 : g.hor.toNat = t.toNat + (g.hor - t).toNat := by omega
  have h := outR_to R (v := v) (t := t.toNat) (g.hor - t).toNat
  rw [← e, ← e2] at h
  exact h

/-- where a hop's edge leads -/
def edB (g : Gr) (h : Hp) : Int := (g.edges.getD h.1.toNat (0, 0, [])).2.1
/-- some hops lead from v, from its time on, to q at its time; each vertex's time is later than that of the one ahead -/
structure WayTo (g : Gr) (T : List Int) (v q : Int) (l : List Hp) : Prop where
  go : ∀ c, ∃ c', goF g (some (v, T.getD v.toNat 0, c)) l = some (q, T.getD q.toNat 0, c')
  up : ∀ h ∈ l, T.getD v.toNat 0 < T.getD (edB g h).toNat 0
  srt : l.Pairwise fun a b => T.getD (edB g a).toNat 0 < T.getD (edB g b).toNat 0
  len : (l.length : Int) + T.getD v.toNat 0 ≤ T.getD q.toNat 0
  rng : ∀ h ∈ l, (0 ≤ h.1 ∧ h.1 < g.edges.length) ∧ 0 ≤ edB g h
theorem wayTo_nil (g : Gr) (T : List Int) (q : Int) : WayTo g T q q [] := ⟨fun c => ⟨c, rfl⟩, fun h hh => by simp at hh, List.Pairwise.nil, by simp, fun h hh => by simp at hh⟩
theorem WayTo.cons {g : Gr} {T : List Int} {v q : Int} {l : List Hp} (W : WayTo g T v q l) {r : Ri} (hr : RideOk g r) (hv : r.2.2.2.1 = v) (ha : r.2.2.2.2.1 = T.getD v.toNat 0) (hd : T.getD r.2.2.1.toNat 0 ≤ r.2.1) : WayTo g T r.2.2.1 q ((r.1, r.2.1) :: l) ∧ T.getD r.2.2.1.toNat 0 < T.getD v.toNat 0 := by
  have hlt := hr.lt
  have hb := hr.b0
  have eB : edB g (r.1, r.2.1) = v := by unfold edB; rw [hr.edB, hv]
  refine ⟨⟨fun c => ?_, fun h hh => ?_, ?_, ?_, fun h hh => ?_⟩, by omega⟩
  · have h1 := hr.hop (c := c) hd
    rw [goF_cons, Option.bind_some, h1, hv, ha]
    exact W.go _
  · rcases List.mem_cons.1 hh with rfl | hh
    · rw [eB]; omega
    · have := W.up h hh; omega
  · rw [List.pairwise_cons]
    refine ⟨fun b hb => ?_, W.srt⟩
    rw [eB]; exact W.up b hb
  · have := W.len
    rw [List.length_cons]; omega
  · rcases List.mem_cons.1 hh with rfl | hh
    · exact ⟨hr.e0, by rw [eB]; omega⟩
    · exact W.rng h hh

end Go.Proofs.Ytkgbgkcbflicmac

namespace Go.Proofs.Ytkgbgkcbflicmac
open Go.RowKit

theorem Try.infoRide : (Try.prog.info? 66).map (fun i => (i.zero, i.size, i.bytes)) = some (some (.agg #[.int .i64 0, .int .i64 0, .int .i64 0, .int .i64 0, .int .i64 0, .int .i64 0]), 6, 48) := by kernel_rfl
theorem stopHereR {p : Prop} (h : Hid p) : p := h

/-- the values of a ride -/
def encR (c : Ri) : List Value := [.int .i64 c.1, .int .i64 c.2.1, .int .i64 c.2.2.1, .int .i64 c.2.2.2.1, .int .i64 c.2.2.2.2.1, .int .i64 c.2.2.2.2.2]
def encRs (l : List Ri) : List Value := l.flatMap encR
theorem encRs_append (a b : List Ri) : encRs (a ++ b) = encRs a ++ encRs b := by simp [encRs]
theorem encRs_length (l : List Ri) : (encRs l).length = l.length * 6 := by
  induction l with
  | nil => rfl
  | cons c l ih => simp only [encRs, List.flatMap_cons, List.length_append, List.length_cons] at ih ⊢; rw [ih]; simp [encR]; omega
def ri0 : Ri := (0, 0, 0, 0, 0, 0)
theorem encRs_get (l : List Ri) (j : Nat) (h : j < l.length) : (encRs l)[j * 6]? = some (.int .i64 (l.getD j ri0).1) ∧ (encRs l)[j * 6 + 1]? = some (.int .i64 (l.getD j ri0).2.1) ∧ (encRs l)[j * 6 + 2]? = some (.int .i64 (l.getD j ri0).2.2.1) ∧ (encRs l)[j * 6 + 3]? = some (.int .i64 (l.getD j ri0).2.2.2.1) ∧ (encRs l)[j * 6 + 4]? = some (.int .i64 (l.getD j ri0).2.2.2.2.1) ∧ (encRs l)[j * 6 + 5]? = some (.int .i64 (l.getD j ri0).2.2.2.2.2) := by
  induction l generalizing j with
  | nil => simp at h
  | cons c l ih =>
    have e : encRs (c :: l) = .int .i64 c.1 :: .int .i64 c.2.1 :: .int .i64 c.2.2.1 :: .int .i64 c.2.2.2.1 :: .int .i64 c.2.2.2.2.1 :: .int .i64 c.2.2.2.2.2 :: encRs l := by simp [encRs, encR]
    rw [e]
    cases j with
    | zero => exact ⟨rfl, rfl, rfl, rfl, rfl, rfl⟩
    | succ j =>
      have := ih j (by simpa using h)
      rw [show (j + 1) * 6 = j * 6 + 1 + 1 + 1 + 1 + 1 + 1 by omega]
      simpa using this
/-- one ride in six cells -/
structure RdOne (w : World) (b o : Nat) (r : Ri) : Prop where
  c0 : w.cell? ⟨b, o, none⟩ = some (.int .i64 r.1)
  c1 : w.cell? ⟨b, o + 1, none⟩ = some (.int .i64 r.2.1)
  c2 : w.cell? ⟨b, o + 2, none⟩ = some (.int .i64 r.2.2.1)
  c3 : w.cell? ⟨b, o + 3, none⟩ = some (.int .i64 r.2.2.2.1)
  c4 : w.cell? ⟨b, o + 4, none⟩ = some (.int .i64 r.2.2.2.2.1)
  c5 : w.cell? ⟨b, o + 5, none⟩ = some (.int .i64 r.2.2.2.2.2)
theorem RdOne.below {w w' : World} {b o : Nat} {r : Ri} (h : RdOne w b o r) (hlt : b < w.heap.size) (hb : Below w.heap.size w w') : RdOne w' b o r :=
  ⟨(hb.cell (p := ⟨b, o, none⟩) hlt).trans h.c0, (hb.cell (p := ⟨b, o + 1, none⟩) hlt).trans h.c1, (hb.cell (p := ⟨b, o + 2, none⟩) hlt).trans h.c2, (hb.cell (p := ⟨b, o + 3, none⟩) hlt).trans h.c3, (hb.cell (p := ⟨b, o + 4, none⟩) hlt).trans h.c4, (hb.cell (p := ⟨b, o + 5, none⟩) hlt).trans h.c5⟩
/-- the rides of l lie at ao, six cells each -/
def RdAt (w : World) (ao : Option Addr) (l : List Ri) : Prop :=
  l = [] ∨ ∃ b off, ao = some ⟨b, off, none⟩ ∧ b < w.heap.size ∧ ∀ j, j < l.length → RdOne w b (off + j * 6) (l.getD j ri0)
theorem RdAt.below {w w' : World} {ao : Option Addr} {l : List Ri} (h : RdAt w ao l) (hb : Below w.heap.size w w') : RdAt w' ao l := by
  rcases h with h | ⟨b, off, rfl, hlt, hc⟩
  · exact .inl h
  · exact .inr ⟨b, off, rfl, Nat.lt_of_lt_of_le hlt hb.size, fun j hj => (hc j hj).below hlt hb⟩
theorem rdAt_of_owns {w : World} {base e : Nat} {v : Value} {n : Nat} {l : List Ri} (h : w.ownsRow base e 6 v n (encRs l)) : ∃ ao cap, v = .slice ao l.length cap ∧ RdAt w ao l := by
  obtain ⟨h1, h2⟩ := h
  simp only [encRs_length] at h1
  have hn : n = l.length := by omega
  subst hn
  rcases h2 with ⟨rfl, h0⟩ | ⟨g, cap, cur, rfl, hb, hh, h3, h4, h5, h6⟩
  · exact ⟨none, 0, by rw [h0], .inl (List.eq_nil_of_length_eq_zero h0)⟩
  · have hown : w.ownsRow base e 6 (.slice (some ⟨g, 0, none⟩) l.length cap) l.length (encRs l) := ⟨by simp [encRs_length], .inr ⟨g, cap, cur, rfl, hb, hh, h3, h4, h5, h6⟩⟩
    refine ⟨_, cap, rfl, .inr ⟨g, 0, rfl, (Array.getElem?_eq_some_iff.1 hh).1, fun j hj => ?_⟩⟩
    obtain ⟨f0, f1, f2, f3, f4, f5⟩ := encRs_get l j hj
    refine ⟨?_, ?_, ?_, ?_, ?_, ?_⟩
    · rw [Nat.zero_add, hown.cellAt (j * 6) (by omega)]; exact f0
    · rw [Nat.zero_add, hown.cellAt (j * 6 + 1) (by omega)]; exact f1
    · rw [Nat.zero_add, hown.cellAt (j * 6 + 2) (by omega)]; exact f2
    · rw [Nat.zero_add, hown.cellAt (j * 6 + 3) (by omega)]; exact f3
    · rw [Nat.zero_add, hown.cellAt (j * 6 + 4) (by omega)]; exact f4
    · rw [Nat.zero_add, hown.cellAt (j * 6 + 5) (by omega)]; exact f5
/-- six cells in a new block -/
theorem cells_six_newR (w : World) (B : Nat) (t : TypeId) (x y z u v s : Value) (hB : B = w.heap.size) : ∀ j q, [x, y, z, u, v, s][j]? = some q → (w.alloc (.cells #[x, y, z, u, v, s] t)).cell? ((⟨B, 0, none⟩ : Addr).add j) = some q := by
  subst hB
  intro j q hj
  match j, hj with
  | 0, hj => simp at hj; subst hj; simp [Addr.add]
  | 1, hj => simp at hj; subst hj; simp [Addr.add]
  | 2, hj => simp at hj; subst hj; simp [Addr.add]
  | 3, hj => simp at hj; subst hj; simp [Addr.add]
  | 4, hj => simp at hj; subst hj; simp [Addr.add]
  | 5, hj => simp at hj; subst hj; simp [Addr.add]

theorem nextF_own {g : Gr} (R : Right g) {j : Nat} (hj : j < g.edges.length) (d : Int) : nextF g (g.edges[j].1, d, 0) ((j : Int), d) = (lands g g.edges[j] d).map fun q => (g.edges[j].2.1, q.1, q.2) := by
  rw [nextF_at (h := ((j : Int), d)) rfl hj]
  cases hl : lands g g.edges[j] d with
  | none => split <;> simp
  | some q => rw [if_pos ⟨(lands_lt R hj hl).2.1, rfl, by simp only; omega⟩]; simp
theorem ridesAt_none {g : Gr} {d : Int} {j : Nat} (hj : j < g.edges.length) (h : lands g g.edges[j] d = none) : ridesAt g d (j + 1) = ridesAt g d j := by rw [ridesAt, edge_getD hj, h]; simp
theorem ridesAt_some {g : Gr} {d : Int} {j : Nat} (hj : j < g.edges.length) {q : Int × Int} (h : lands g g.edges[j] d = some q) : ridesAt g d (j + 1) = ridesAt g d j ++ [((j : Int), d, g.edges[j].1, g.edges[j].2.1, q.1, q.2)] := by rw [ridesAt, edge_getD hj, h]

set_option maxRecDepth 100000 in
set_option maxHeartbeats 8000000 in
theorem Rides_any (g : Gr) (la ea : Option Addr) (lc ec : Nat) (w : World) (hG : GAt w la ea g) (hR : Right g) :
    Calls Try.prog 42 #[.agg #[.int .i64 g.hor, .slice la g.lives.length lc, .slice ea g.edges.length ec]] w fun r w' => ∃ u, r = .returned u ∧ w'.ownsRow w.heap.size 66 6 u (ridesF g).length (encRs (ridesF g)) ∧ Below w.heap.size w w' := by
  obtain ⟨i0, hi, hz0, hz1, hz2⟩ := info_parts Try.infoRide
  obtain ⟨w1, hw1⟩ : ∃ x, x = w.alloc (.cells #[.int .i64 g.hor, .slice la g.lives.length lc, .slice ea g.edges.length ec] 25) := ⟨_, rfl⟩
  have B0 : GBx w w1 w.heap.size g la ea lc ec := by rw [hw1]; exact gbx_start w g la ea lc ec 25
  have hhor := hR.hor
  have hed := hR.eds
  have HRt := hideg hR
  have HG := hideg hG
  have HB1 := hideg B0
  have g0 := B0.c0
  have g2 := B0.c2
  have hw1s := hw1.symm
  have hH : Hid (ridesF g = ridesTo g g.hor.toNat) := rfl
  clear hR hG B0 hw1
  go_enter Try.func42, Try.ntmps42
  go_wp2_with fail
  clear hw1s
  go_loopw [3, 12] (fun u d wr => ∃ k : Nat, (k : Int) ≤ g.hor ∧ d = .int .i64 (k : Int) ∧ wr.ownsRow w1.heap.size 66 6 u (ridesTo g k).length (encRs (ridesTo g k)) ∧ Below w1.heap.size w1 wr) (fun _ d _ => (g.hor - intOf d).toNat)
  case atStart => exact ⟨0, by omega, by simp, World.ownsRow_nil _ _ _ _, Below.refl _ _⟩
  case round =>
    clear g0 g2
    obtain ⟨k, hk, rfl, hown, hb⟩ := hrel
    have BR := HB1.out.below hb
    have g0 := BR.c0
    have g2 := BR.c2
    have hol := ridesTo_len g k
    have hk100 : k ≤ 100 := by omega
    have hol' : (ridesTo g k).length ≤ 3000 := Nat.le_trans hol (Nat.le_trans (Nat.mul_le_mul hk100 hed) (by omega))
    by_cases hlt : (k : Int) < g.hor
    · obtain ⟨out, hout⟩ : ∃ o, o = ridesTo g k := ⟨_, rfl⟩
      rw [← hout] at hown hol'
      have HSucc : Hid (ridesTo g (k + 1) = out ++ ridesAt g (k : Int) g.edges.length) := by show _ = _; rw [hout]; rfl
      clear hout hol
      obtain ⟨wo, hwo⟩ : ∃ x, x = wr := ⟨_, rfl⟩
      have hown0 : wo.ownsRow w1.heap.size 66 6 u3 out.length (encRs out) := by rw [hwo]; exact hown
      have hbo : Below w1.heap.size w1 wo := by rw [hwo]; exact hb
      rw [← hwo] at g0 g2 ⊢
      clear hown hb hwo BR
      have hw1' : IntKind.i64.wrap ((k : Int) + 1) = (k : Int) + 1 := wrap_nj _ (by omega) (by omega)
      go_wp2_with fail
      go_loopw [3, 18] (fun u i wr => ∃ j : Nat, j ≤ g.edges.length ∧ i = .int .i64 j ∧ wr.ownsRow w1.heap.size 66 6 u (out ++ ridesAt g (k : Int) j).length (encRs (out ++ ridesAt g (k : Int) j)) ∧ Below w1.heap.size w1 wr) (fun _ i _ => g.edges.length - (intOf i).toNat)
      case atStart => exact ⟨0, Nat.zero_le _, rfl, by simpa [ridesAt] using hown0, hbo⟩
      case round =>
        clear hown0 hbo g0 g2
        obtain ⟨j, hj, rfl, hown, hb⟩ := hrel
        have BR := HB1.out.below hb
        have hoa := ridesAt_len g (k : Int) j
        by_cases hjl : j < g.edges.length
        · obtain ⟨b, off, lo, lcap, rfl, hbr, e0, e1, e2, _⟩ : ∃ b off lo lcap, ea = some ⟨b, off, none⟩ ∧ b < wr.heap.size ∧ wr.cell? ⟨b, off + j * 3, none⟩ = some (.int .i64 g.edges[j].1) ∧ wr.cell? ⟨b, off + j * 3 + 1, none⟩ = some (.int .i64 g.edges[j].2.1) ∧ wr.cell? ⟨b, off + j * 3 + 2, none⟩ = some (.slice lo g.edges[j].2.2.length lcap) ∧ LgAt wr lo g.edges[j].2.2 := by
            rcases (HG.out.below BR.bel).ed with h0 | ⟨b, off, rfl, hbr, hc⟩
            · rw [h0] at hjl; simp at hjl
            obtain ⟨c0, c1, lo, lcap, c2, hL, _, _⟩ := hc j hjl
            exact ⟨b, off, lo, lcap, rfl, hbr, c0, c1, c2, hL⟩
          obtain ⟨hA, hBe, _⟩ := HRt.out.ends _ (List.getElem_mem hjl)
          obtain ⟨p, hp, hNx⟩ := next_any g la (some ⟨b, off, none⟩) lc ec (g.edges[j].1, (k : Int), 0) ((j : Int), (k : Int)) HRt.out hA.1 hA.2 (by simp) (by simp)
          rw [nextF_own HRt.out hjl] at hp hNx
          simp only at hNx
          unfold nextV at hNx
          obtain ⟨wb, hwb⟩ : ∃ x, x = (wr.alloc (.cells #[.int .i64 g.edges[j].1, .int .i64 g.edges[j].2.1, .slice lo g.edges[j].2.2.length lcap] 51)).alloc (.cells #[.int .i64 (j : Int), .int .i64 (k : Int)] 48) := ⟨_, rfl⟩
          have hbw : Below wr.heap.size wr wb := by rw [hwb]; exact ptg (gal _ _) (gal _ _)
          have hBb := BR.below hbw
          have hNw := hNx wb (HG.out.below hBb.bel)
          have ga0 := hBb.c0
          have ga1 := hBb.c1
          have ga2 := hBb.c2
          have gb0 := BR.c2
          have f0 : wb.cell? ⟨wr.heap.size, 0, none⟩ = some (.int .i64 g.edges[j].1) := by rw [hwb, (gal _ _).cell (by simp)]; exact new_cell rfl rfl
          have f1 : wb.cell? ⟨wr.heap.size + 1, 0, none⟩ = some (.int .i64 (j : Int)) := by rw [hwb]; exact new_cell (by simp) rfl
          have f2 : wb.cell? ⟨wr.heap.size + 1, 1, none⟩ = some (.int .i64 (k : Int)) := by rw [hwb]; exact new_cell (by simp) rfl
          have hwbs : wr.heap.size + 1 < wb.heap.size := by rw [hwb]; simp
          have hll : (out ++ ridesAt g (k : Int) j).length ≤ 4000 := by rw [List.length_append]; omega
          have HOW : Hid (∀ W, Below wb.heap.size wb W → W.ownsRow w1.heap.size 66 6 u3 (out ++ ridesAt g (k : Int) j).length (encRs (out ++ ridesAt g (k : Int) j)) ∧ Below w1.heap.size w1 W) := fun W h => ⟨ownsRow_below hown (ptg hbw h), hb.trans ((ptg hbw h).mono hb.size)⟩
          have HN := hideg (ridesAt_none (g := g) (d := (k : Int)) hjl)
          have HY := hideg (fun q => ridesAt_some (g := g) (d := (k : Int)) hjl (q := q))
          clear hown hb hNx hBb
          generalize hcur : out ++ ridesAt g (k : Int) j = cur at *
          have HCur := hideg hcur
          have hwbs' := hwb.symm
          clear hcur BR hwb
          cases hs : lands g g.edges[j] (k : Int) with
          | none =>
            rw [hs] at hNw
            simp only [Option.map_none, Option.isSome_none] at hNw
            have HE := hideg (HN.out hs)
            clear hs hp HN HY hA hBe
            generalize g.edges[j] = ed at *
            go_wp2_with fail
            refine hNw.mono ?_
            rintro r w3 ⟨rfl, hb3⟩
            have HO2 := hideg (fun o => HOW.out (w3.alloc o) (ptg hb3 (gal w3 o)))
            clear hNw hb3 e0 e1 e2 ga0 ga1 ga2 gb0 HOW f0 f1 f2 hbw
            go_wp2
            go_roundw
            case rel => exact ⟨j + 1, by omega, by go_num, by rw [HE.out, HCur.out]; exact (HO2.out _).1, (HO2.out _).2⟩
            case measure => simp [intOf]; omega
          | some q =>
            rw [hs] at hNw hp
            simp only [Option.map_some, Option.isSome_some] at hNw
            have hp := hp _ rfl
            subst hp
            simp only at hNw
            have HE := hideg (HY.out q hs)
            clear hs HN HY hA hBe
            generalize g.edges[j] = ed at *
            go_wp2_with fail
            refine hNw.mono ?_
            rintro r w3 ⟨rfl, hb3⟩
            obtain ⟨w4, hw4⟩ : ∃ x, x = w3.alloc (.cells #[.int .i64 ed.2.1, .int .i64 q.1, .int .i64 q.2] 92) := ⟨_, rfl⟩
            have hb4 : Below wb.heap.size wb w4 := by rw [hw4]; exact ptg hb3 (gal w3 _)
            obtain ⟨o1, o2⟩ := HOW.out w4 hb4
            have x0 := (hb4.cell (p := ⟨wr.heap.size, 0, none⟩) (by simp only; omega)).trans f0
            have x1 := (hb4.cell (p := ⟨wr.heap.size + 1, 0, none⟩) (by simp only; omega)).trans f1
            have x2 := (hb4.cell (p := ⟨wr.heap.size + 1, 1, none⟩) (by simp only; omega)).trans f2
            have x3 : w4.cell? ⟨w3.heap.size, 0, none⟩ = some (.int .i64 ed.2.1) := by rw [hw4]; exact new_cell rfl rfl
            have x4 : w4.cell? ⟨w3.heap.size, 1, none⟩ = some (.int .i64 q.1) := by rw [hw4]; exact new_cell rfl rfl
            have x5 : w4.cell? ⟨w3.heap.size, 2, none⟩ = some (.int .i64 q.2) := by rw [hw4]; exact new_cell rfl rfl
            have hs4 := hb4.size
            have hs5 := o2.size
            have hs6 : w3.heap.size < w4.heap.size := by rw [hw4]; simp
            have HBg : Hid (∀ (o : Obj) (w5 : World), (w4.alloc o).grownBy w5 u3.ownBlock → Below w1.heap.size w1 w5) := fun o w5 hgr => (o2.alloc o2.size o).grown hgr (by have := o2.size; simp at this ⊢; omega) (fun k hk => (o1.lt k hk).1)
            have hw4s := hw4.symm
            clear hNw hb3 e0 e1 e2 ga0 ga1 ga2 gb0 HOW f0 f1 f2 hbw hb4 hw4 hwbs'
            go_wp2_with (at_builtin; refine stopHereR ?_)
            refine hideg ?_
            refine wpList_append_own _ rfl _ _ 73 rfl w1.heap.size 66 i0 _ 6 48 Try.underlying73 hi hz0 hz1 hz2 rfl (by decide) _ _ _ rfl (World.ownsRow.alloc (w := w4) o1 _) ⟨w4.heap.size, 0, none⟩ 1 1 [.int .i64 j, .int .i64 k, .int .i64 ed.1, .int .i64 ed.2.1, .int .i64 q.1, .int .i64 q.2] rfl rfl (cells_six_newR _ _ _ _ _ _ _ _ _ (by simp)) (by intro u hu; simp at hu; rcases hu with rfl | rfl | rfl | rfl | rfl | rfl <;> rfl) (by unfold maxLen; omega) (by omega) (by simp; omega) ?_
            intro v' w5 hown5 hgrow _
            have hb' := HBg.out _ _ hgrow
            have R : w5.ownsRow w1.heap.size 66 6 v' (out ++ ridesAt g (k : Int) (j + 1)).length (encRs (out ++ ridesAt g (k : Int) (j + 1))) := by
              rw [HE.out, ← List.append_assoc, HCur.out, encRs_append, List.length_append]; exact hown5
            clear hgrow o1 hown5 x0 x1 x2 x3 x4 x5 hw4s
            go_wp2
            go_roundw
            case rel => exact ⟨j + 1, by omega, by go_num, R, hb'⟩
            case measure => simp [intOf]; omega
        · have hjn : j = g.edges.length := by omega
          subst hjn
          rw [← HSucc.out] at hown
          clear BR
          go_wp2
          go_roundw
          case rel => exact ⟨k + 1, by omega, by go_num, hown, hb⟩
          case measure => simp [intOf]; omega
    · have hke : k = g.hor.toNat := by omega
      rw [hke, ← hH.out] at hown
      have R := owns_base2 hown HB1.out.bel.size
      have hbF := BR.bel
      clear hown hke BR
      go_wp2
      go_ret
      exact ⟨_, rfl, R, hbF⟩

end Go.Proofs.Ytkgbgkcbflicmac

namespace Go.Proofs.Ytkgbgkcbflicmac
open Go.RowKit

theorem stopHereP {p : Prop} (h : Hid p) : p := h
theorem wrap_rp (n : Int) (h0 : -9223372036854775808 ≤ n) (h1 : n < 9223372036854775808) : IntKind.i64.wrap n = n := by
  simp only [IntKind.wrap, IntKind.bits, IntKind.signed]
  simp
  omega
theorem run_copy_splice {P : Program} (w : World) (dT sT ty elem : TypeId) (hu : P.underlying dT = some (.slice elem)) (hsz : (P.info? elem).map (·.size) = some 1)
    (dp sp : Option Addr) (dLen dCap sLen sCap : Nat) (g off : Nat) (cur : List Value) (t : TypeId) (hg : w.heap[g]? = some (.cells cur.toArray t (0, 0))) (cs : List Value) (hn : cs.length = Nat.min sLen dLen)
    (hpos : 0 < cs.length → dp = some ⟨g, off, none⟩ ∧ ∃ ad, sp = some ad ∧ ∀ j v, cs[j]? = some v → w.cell? (ad.add j) = some v)
    (hfit : off + cs.length ≤ cur.length) (h1 : ∀ v ∈ cs, v.oneCell' = true) (B : Nat) (w0 : World) (hb : Below B w0 w) (hBg : B ≤ g) :
    ∃ w', (Builtin.copy_ #[dT, sT] ty #[.slice dp dLen dCap, .slice sp sLen sCap]).run P w = .ok (goInt cs.length) w' ∧ Hid (w'.heap[g]? = some (.cells (splice cur off cs).toArray t (0, 0))) ∧ Below B w0 w' := by
  by_cases h0 : cs.length = 0
  · obtain rfl : cs = [] := List.eq_nil_of_length_eq_zero h0
    exact ⟨w, run_copy_none (P := P) w dT sT ty elem dp sp dLen dCap sLen sCap hu hsz (by simpa using hn.symm), (show _ = _ by simpa [splice] using hg), hb⟩
  · obtain ⟨rfl, ad, rfl, hsrc⟩ := hpos (by omega)
    refine ⟨_, run_copy_row (P := P) w dT sT ty elem g off dLen dCap ad sLen sCap cur.toArray t cs hu hsz hg hn hsrc (by simpa using hfit) h1, ?_, below_setRow hb hBg _⟩
    exact (show _ = _ by simpa [splice] using setRow_heap w g _ _ t _ hg)
theorem splice_rep {N k m : Nat} {x : Int} {cur : List Value} (hl : cur.length = N) (hc : cur.take k = (List.replicate k x).map (Value.int .i64)) (hm : k + m ≤ N) :
    (splice cur k ((List.replicate m x).map (Value.int .i64))).length = N ∧ (splice cur k ((List.replicate m x).map (Value.int .i64))).take (k + m) = (List.replicate (k + m) x).map (Value.int .i64) := by
  refine ⟨by rw [length_splice _ _ _ (by simp; omega), hl], ?_⟩
  unfold splice
  rw [hc, ← List.append_assoc, ← List.map_append, List.replicate_append_replicate, List.take_append_of_le_length (by simp)]
  exact List.take_of_length_le (by simp)

set_option maxRecDepth 100000 in
set_option maxHeartbeats 4000000 in
theorem Repeat_any (x : Int) (ab ao cap N : Nat) (hN : N ≤ 12) (w : World) (hx : w.cell? ⟨ab, ao, none⟩ = some (.int .i64 x)) (hab : ab < w.heap.size) :
    Calls Try.prog 45 #[.slice (some ⟨ab, ao, none⟩) 1 cap, .int .i64 N] w fun e w' => e = .returned (.slice (some ⟨w.heap.size, 0, none⟩) N N) ∧ Zo w' w.heap.size w.heap.size N N (List.replicate N x) ∧ Below w.heap.size w w' := by
  obtain ⟨i0, hi, hz0, hz1, hz2⟩ := info_parts Try.infoInt
  have hMul := fun W => Try.bits_Mul 1 N (by omega) (by omega) W
  have e1 : (1 * N / 18446744073709551616 : Nat) = 0 := by omega
  have e2 : (1 * N % 18446744073709551616 : Nat) = N := by omega
  rw [e1, e2] at hMul
  have hszI : (Try.prog.info? 3).map (·.size) = some 1 := by rw [hi]; simp [hz1]
  have hN0 : ¬ (N : Int) < 0 := by omega
  have hwu : IntKind.u64.wrap (N : Int) = (N : Int) := by simp only [IntKind.wrap, IntKind.bits, IntKind.signed]; simp; omega
  have hwi : IntKind.i64.wrap (N : Int) = (N : Int) := wrap_rp _ (by omega) (by omega)
  have HX := hidep hx
  clear hx e1 e2
  go_enter Try.func45, Try.ntmps45
  go_wp2_with fail
  refine (hMul _).mono ?_
  rintro e w' ⟨rfl, hw'⟩
  rw [hw']
  clear hw' hMul
  go_wp2_with (at_make; refine wpList_make_full _ rfl _ _ 28 rfl w.heap.size 3 i0 (.int .i64 0) 1 Try.underlying28 hi hz0 hz1 .i64 .i64 _ _ N rfl rfl rfl rfl (by rw [hz2]; omega) (by unfold maxLen; omega) (by simp) ?_; intro w0 hown0 hgrow0)
  have hb0 : Below w.heap.size w w0 := (Below.refl _ _).grown hgrow0 (Nat.le_refl _) (fun k hk => by cases hk)
  have hx0 : w0.cell? ⟨ab, ao, none⟩ = some (.int .i64 x) := (hb0.cell (p := ⟨ab, ao, none⟩) hab).trans HX.out
  have e1 : (madeCells (Value.int .i64 0).cells (N * 1)).toList = (List.replicate N 0).map (Value.int .i64) := by
    rw [Nat.mul_one]
    show (madeCells #[Value.int .i64 0] N).toList = _
    rw [toList_madeCells_one, List.map_replicate]
  rw [e1] at hown0
  obtain ⟨cur0, hcl0, hg0⟩ : ∃ cur0 : List Value, cur0.length = N ∧ w0.heap[w.heap.size]? = some (.cells cur0.toArray 3 (0, 0)) := by
    rcases hown0.2 with ⟨h, _⟩ | ⟨g, cap', cur, e, _, hg, _, _, hcs, _⟩
    · cases h
    · cases e; exact ⟨cur.toList, by simpa using hcs, by simpa using hg⟩
  clear hown0 hgrow0 e1
  obtain ⟨m, hm⟩ : ∃ m, m = Nat.min 1 N := ⟨_, rfl⟩
  have hm1 : m ≤ 1 ∧ m ≤ N ∧ (N = 0 ∨ 1 ≤ m) := by
    have hm' : m = min 1 N := hm
    omega
  obtain ⟨cs, hcs⟩ : ∃ cs, cs = (List.replicate m x).map (Value.int .i64) := ⟨_, rfl⟩
  have hcl : cs.length = m := by rw [hcs]; simp
  have hc1 : ∀ v ∈ cs, v.oneCell' = true := by rw [hcs]; intro v hv; simp at hv; rw [hv.2]; rfl
  have hcg : ∀ j v, cs[j]? = some v → w0.cell? ((⟨ab, ao, none⟩ : Addr).add j) = some v := by
    intro j v hv
    rw [hcs] at hv
    have h0 : j = 0 := by
      have := (List.getElem?_eq_some_iff.1 hv).1
      simp at this; omega
    subst h0
    have := (List.getElem?_eq_some_iff.1 hv).2
    simp at this
    rw [← this]; simpa [Addr.add] using hx0
  have HCs := hidep hcs
  have HS := hidep (splice_rep (k := 0) (m := m) (x := x) hcl0 (by simp) (by omega))
  have HM := hidep hm
  have hm1i : (m : Int) ≤ N := by omega
  clear hcs hm
  obtain ⟨w1, hrun, hg1, hb1⟩ := run_copy_splice (P := Try.prog) w0 28 28 3 3 Try.underlying28 hszI (some ⟨w.heap.size, 0, none⟩) (some ⟨ab, ao, none⟩) N N 1 cap w.heap.size 0 cur0 3 hg0 cs (by rw [hcl, HM.out]) (fun _ => ⟨rfl, _, rfl, hcg⟩) (by omega) hc1 w.heap.size w hb0 (Nat.le_refl _)
  rw [hrun, hcl]
  clear hrun hc1 hcg hcl hg0 hb0 hx0
  simp only [Result.andThen]
  go_wp2_with fail
  go_loopw [8] (fun n wr => ∃ (k : Nat) (cur : List Value), k ≤ N ∧ (N = 0 ∨ 1 ≤ k) ∧ n = .int .i64 k ∧ cur.length = N ∧ cur.take k = (List.replicate k x).map (Value.int .i64) ∧ Hid (wr.heap[w.heap.size]? = some (.cells cur.toArray 3 (0, 0))) ∧ Below w.heap.size w wr) (fun n _ => N - (intOf n).toNat)
  case atStart =>
    refine ⟨m, splice cur0 0 cs, by omega, by omega, rfl, ?_, ?_, hg1, hb1⟩
    · rw [HCs.out]; exact HS.out.1
    · rw [HCs.out]; have := HS.out.2; rwa [Nat.zero_add] at this
  case round =>
    clear hg1 hb1 HCs HS HM
    obtain ⟨k, cur, hk, hk1, rfl, hcl, hct, hg, hb⟩ := hrel
    by_cases hkN : k < N
    · have hkNi : (k : Int) < (N : Int) := by omega
      have hne : ¬ N = k := by omega
      obtain ⟨m2, hm2⟩ : ∃ m, m = Nat.min k (N - k) := ⟨_, rfl⟩
      have hm2' : m2 ≤ k ∧ k + m2 ≤ N ∧ 1 ≤ m2 := by
        have hm' : m2 = min k (N - k) := hm2
        omega
      obtain ⟨cs2, hcs2⟩ : ∃ cs, cs = (List.replicate m2 x).map (Value.int .i64) := ⟨_, rfl⟩
      have hcl2 : cs2.length = m2 := by rw [hcs2]; simp
      have hc12 : ∀ v ∈ cs2, v.oneCell' = true := by rw [hcs2]; intro v hv; simp at hv; rw [hv.2]; rfl
      have hcg2 : ∀ j v, cs2[j]? = some v → wr.cell? ((⟨w.heap.size, 0, none⟩ : Addr).add j) = some v := by
        intro j v hv
        have hj := (List.getElem?_eq_some_iff.1 hv).1
        rw [hcl2] at hj
        rw [hcs2] at hv
        have h1 : (cur.take k)[j]? = some v := by
          rw [hct]
          simp [show j < k by omega, show j < m2 by omega] at hv ⊢
          exact hv
        rw [List.getElem?_take_of_lt (by omega)] at h1
        have hgo := hg.out
        have ea : (⟨w.heap.size, 0, none⟩ : Addr).add j = ⟨w.heap.size, j, none⟩ := by unfold Addr.add; split <;> simp_all
        rw [ea]
        simp [World.cell?, hgo, h1]
      have HE2 : Hid ((splice cur k cs2).length = N ∧ (splice cur k cs2).take (k + m2) = (List.replicate (k + m2) x).map (Value.int .i64)) := by
        rw [hcs2]; exact splice_rep hcl hct hm2'.2.1
      have hfit2 : k + cs2.length ≤ cur.length := by omega
      have hwk : IntKind.i64.wrap ((k : Int) + (m2 : Int)) = (k : Int) + (m2 : Int) := wrap_rp _ (by omega) (by omega)
      have HM2 := hidep hm2
      have hsub : ((N : Int) - (k : Int)).toNat = N - k := by omega
      clear hcs2 hm2 hct
      go_wp2_with fail
      refine Go.wp_region_held (S := fun _ => True) (by kernel_rfl) ?_
      have hSw : True := trivial
      refine take_lit (i := 0) (v := ?_) rfl (by kernel_rfl) (by kernel_rfl) (by kernel_rfl) (fun _ _ _ h => h) (Or.inl ⟨by rfl, ?hy0⟩) (by assumption) ?_
      case hy0 => (intro w hSw; (try dsimp only at hSw); go_simp; try with_reducible rfl)
      try simp only [Act.put, List.setIfInBounds_toArray, List.set_cons_zero, List.set_cons_succ]
      refine take_lit (i := 1) (v := ?_) rfl (by kernel_rfl) (by kernel_rfl) (by kernel_rfl) (fun _ _ _ h => h) (Or.inl ⟨by rfl, ?hy1⟩) (by assumption) ?_
      case hy1 => (intro w hSw; (try dsimp only at hSw); go_simp; try with_reducible rfl)
      try simp only [Act.put, List.setIfInBounds_toArray, List.set_cons_zero, List.set_cons_succ]
      refine take_lit (i := 2) (v := ?_) rfl (by kernel_rfl) (by kernel_rfl) (by kernel_rfl) (fun _ _ _ h => h) (Or.inl ⟨by rfl, ?hy2⟩) (by assumption) ?_
      case hy2 => (intro w hSw; (try dsimp only at hSw); go_simp; try with_reducible rfl)
      try simp only [Act.put, List.setIfInBounds_toArray, List.set_cons_zero, List.set_cons_succ]
      refine take_lit (i := 3) (v := ?_) rfl (by kernel_rfl) (by kernel_rfl) (by kernel_rfl) (fun _ _ _ h => h) (Or.inl ⟨by rfl, ?hy3⟩) (by assumption) ?_
      case hy3 => (intro w hSw; (try dsimp only at hSw); go_simp; try with_reducible rfl)
      try simp only [Act.put, List.setIfInBounds_toArray, List.set_cons_zero, List.set_cons_succ]
      refine take_lit (i := 4) (v := ?_) rfl (by kernel_rfl) (by kernel_rfl) (by kernel_rfl) (fun _ _ _ h => h) (Or.inl ⟨by rfl, ?hy4⟩) (by assumption) ?_
      case hy4 => (intro w hSw; (try dsimp only at hSw); go_simp; try with_reducible rfl)
      try simp only [Act.put, List.setIfInBounds_toArray, List.set_cons_zero, List.set_cons_succ]
      refine take_lit (i := 5) (v := ?_) rfl (by kernel_rfl) (by kernel_rfl) (by kernel_rfl) (fun _ _ _ h => h) (Or.inl ⟨by rfl, ?hy5⟩) (by assumption) ?_
      case hy5 => (intro w hSw; (try dsimp only at hSw); go_simp; try with_reducible rfl)
      try simp only [Act.put, List.setIfInBounds_toArray, List.set_cons_zero, List.set_cons_succ]
      refine take_lit (i := 6) (v := ?_) rfl (by kernel_rfl) (by kernel_rfl) (by kernel_rfl) (fun _ _ _ h => h) (Or.inl ⟨by rfl, ?hy6⟩) (by assumption) ?_
      case hy6 => (intro w hSw; (try dsimp only at hSw); go_simp; try with_reducible rfl)
      try simp only [Act.put, List.setIfInBounds_toArray, List.set_cons_zero, List.set_cons_succ]
      refine next_lit (i := 7) rfl (by kernel_rfl) (fun K hK => ?_)
      go_simp
      obtain ⟨w4, hrun, hg4, hb4⟩ := run_copy_splice (P := Try.prog) wr.drew 28 28 3 3 Try.underlying28 hszI (some ⟨w.heap.size, k, none⟩) (some ⟨w.heap.size, 0, none⟩) (N - k) (N - k) k N w.heap.size k cur 3 hg.out cs2 (by rw [hcl2, HM2.out]) (fun _ => ⟨rfl, _, rfl, hcg2⟩) hfit2 hc12 w.heap.size w (below_drewN hb 1) (Nat.le_refl _)
      rw [hrun, hcl2]
      clear hrun
      simp only [Result.andThen]
      go_simp
      refine hK.out _ _ trivial (fun _ => ?_)
      clear hK K
      try simp only [Act.put, List.setIfInBounds_toArray, List.set_cons_zero, List.set_cons_succ]
      refine take_lit (i := 8) (v := ?_) rfl (by kernel_rfl) (by kernel_rfl) (by kernel_rfl) (fun _ _ _ h => h) (Or.inl ⟨by rfl, ?hy8⟩) (by assumption) ?_
      case hy8 => (intro w hSw; (try dsimp only at hSw); go_simp; try with_reducible rfl)
      try simp only [Act.put, List.setIfInBounds_toArray, List.set_cons_zero, List.set_cons_succ]
      refine take_lit (i := 9) (v := ?_) rfl (by kernel_rfl) (by kernel_rfl) (by kernel_rfl) (fun _ _ _ h => h) (Or.inl ⟨by rfl, ?hy9⟩) (by assumption) ?_
      case hy9 => (intro w hSw; (try dsimp only at hSw); go_simp; try with_reducible rfl)
      try simp only [Act.put, List.setIfInBounds_toArray, List.set_cons_zero, List.set_cons_succ]
      refine wpAnyH_done (by kernel_rfl) ?_ _
      go_wp2
      go_roundw
      case rel => exact ⟨k + m2, splice cur k cs2, by omega, by omega, by go_num, HE2.out.1, HE2.out.2, hg4, hb4⟩
      case measure => simp [intOf]; omega
    · have hke : N = k := by omega
      subst hke
      have HZ : Hid (Zo wr w.heap.size w.heap.size N N (List.replicate N x)) := by
        refine ⟨by simp, .inr ⟨w.heap.size, N, cur.toArray, rfl, Nat.le_refl _, hg.out, Nat.le_refl _, by unfold maxLen; omega, by simp [hcl], by simpa using hct⟩⟩
      clear hct hg hcl
      go_wp2
      go_ret
      exact ⟨rfl, HZ.out, hb⟩

end Go.Proofs.Ytkgbgkcbflicmac

namespace Go.Proofs.Ytkgbgkcbflicmac
open Go.RowKit

set_option maxRecDepth 100000 in
set_option maxHeartbeats 4000000 in
theorem rleg_any (A B : Int) (lo : Option Addr) (lcap : Nat) (legs : List Lg) (t : Int) (w : World) (hL : LgAt w lo legs) (hn : legs.length ≤ 9223372036854775806) :
    Calls Try.prog 38 #[.agg #[.int .i64 A, .int .i64 B, .slice lo legs.length lcap], .int .i64 t] w fun r w' => r = .returned (legV (lgFind t legs)) ∧ Below w.heap.size w w' := by
  have HB : Hid (∀ o o', Below w.heap.size w ((w.alloc o).alloc o')) := fun o o' => ptg (gal w o) (gal _ o')
  go_enter Try.func38, Try.ntmps38
  go_wp2
  go_loopw [6] (fun i wr => ∃ k : Nat, k ≤ legs.length ∧ i = .int .i64 k ∧ lgFind t legs = lgFind t (legs.drop k) ∧ Below (w.heap.size + 2) ((w.alloc (.cells #[.int .i64 A, .int .i64 B, .slice lo legs.length lcap] 51)).alloc (.cells #[.int .i64 0, .int .i64 0, .int .i64 0, .int .i64 0] 61)) wr) (fun i _ => legs.length - (intOf i).toNat)
  case atStart => exact ⟨0, Nat.zero_le _, rfl, rfl, Below.refl _ _⟩
  case round =>
    obtain ⟨k, hk, rfl, hI, hb⟩ := hrel
    have HI := hideg hI
    clear hI
    have hbw : Below w.heap.size w wr := (HB.out _ _).trans (hb.mono (by omega))
    have hz := hb.size
    simp only [World.size_alloc] at hz
    have hz0 : w.heap.size < wr.heap.size := by omega
    have hz1 : w.heap.size + 1 < wr.heap.size := by omega
    have q2 : wr.cell? ⟨w.heap.size, 2, none⟩ = some (.slice lo legs.length lcap) := by rw [hb.cell (p := ⟨w.heap.size, 2, none⟩) (by simp)]; simp
    have r0 : wr.cell? ⟨w.heap.size + 1, 0, none⟩ = some (.int .i64 0) := by rw [hb.cell (p := ⟨w.heap.size + 1, 0, none⟩) (by simp)]; simp
    have r1 : wr.cell? ⟨w.heap.size + 1, 1, none⟩ = some (.int .i64 0) := by rw [hb.cell (p := ⟨w.heap.size + 1, 1, none⟩) (by simp)]; simp
    have r2 : wr.cell? ⟨w.heap.size + 1, 2, none⟩ = some (.int .i64 0) := by rw [hb.cell (p := ⟨w.heap.size + 1, 2, none⟩) (by simp)]; simp
    have r3 : wr.cell? ⟨w.heap.size + 1, 3, none⟩ = some (.int .i64 0) := by rw [hb.cell (p := ⟨w.heap.size + 1, 3, none⟩) (by simp)]; simp
    have f0 : ∀ j, wr.frozen? ⟨w.heap.size + 1, j, none⟩ = false := fun j => by rw [hb.frozen (p := ⟨w.heap.size + 1, j, none⟩) (by simp)]; simp
    by_cases hlt : k < legs.length
    · rcases hL.below hbw with h0 | ⟨b, off, rfl, hbr, hc⟩
      · subst h0; simp at hlt
      obtain ⟨c0, c1, c2, c3⟩ := LgAt.get hlt hc
      clear hc hL
      by_cases g1 : legs[k].1 ≤ t
      · by_cases g2 : t < legs[k].2.1
        · have HR := hideg (lgFind_hit hlt HI.out ((hasB_iff _ _ _).2 ⟨g1, g2⟩))
          go_wp2
          refine bodyPost_ret (v := legV (some legs[k])) (by simp [results, Try.results38, go_sem, legV, r0, r1, r2, r3]) rfl ⟨by rw [HR.out], ?_⟩
          exact ((((hbw.setCell (p := ⟨w.heap.size + 1, 0, none⟩) (by simp) _).setCell (p := ⟨w.heap.size + 1, 1, none⟩) (by simp) _).setCell (p := ⟨w.heap.size + 1, 2, none⟩) (by simp) _).setCell (p := ⟨w.heap.size + 1, 3, none⟩) (by simp) _)
        · have HR := hideg (lgFind_next hlt HI.out (hasB_no (by omega)))
          go_wp2
          go_roundw
          case rel => exact ⟨k + 1, by omega, by go_num, HR.out, hb⟩
          case measure => simp [intOf]; omega
      · have HR := hideg (lgFind_next hlt HI.out (hasB_no (by omega)))
        go_wp2
        go_roundw
        case rel => exact ⟨k + 1, by omega, by go_num, HR.out, hb⟩
        case measure => simp [intOf]; omega
    · have hkl : k = legs.length := by omega
      subst hkl
      have HR := hideg (lgFind_end HI.out)
      go_wp2
      refine bodyPost_ret (v := legV none) (by simp [results, Try.results38, go_sem, legV, r0, r1, r2, r3]) rfl ⟨by rw [HR.out], ?_⟩
      exact ((((hbw.setCell (p := ⟨w.heap.size + 1, 0, none⟩) (by simp) _).setCell (p := ⟨w.heap.size + 1, 1, none⟩) (by simp) _).setCell (p := ⟨w.heap.size + 1, 2, none⟩) (by simp) _).setCell (p := ⟨w.heap.size + 1, 3, none⟩) (by simp) _)

set_option maxRecDepth 100000 in
set_option maxHeartbeats 1000000 in
theorem Alive_any (h : Int) (la ea : Option Addr) (lc ne ec : Nat) (lives : List (Int × Int)) (v : Nat) (t : Int) (w : World) (hl : IvAt w la lives) (hv : v < lives.length) (hn : lives.length ≤ 9223372036854775807) :
    Calls Try.prog 21 #[.agg #[.int .i64 h, .slice la lives.length lc, .slice ea ne ec], .int .i64 v, .int .i64 t] w fun r w' => r = .returned (.bool (aliveB t lives v)) ∧ Below w.heap.size w w' := by
  have HB := hideg (gal w)
  rcases hl with h0 | ⟨b, off, rfl, hbr, hc⟩
  · subst h0; simp at hv
  obtain ⟨c0, c1⟩ := IvAt.get hv hc
  have HA := hideg (aliveB_at t lives v hv)
  clear hc
  have i1 : (v : Int) < (lives.length : Int) := by omega
  have i2 : (0 : Int) ≤ (v : Int) := by omega
  by_cases g1 : lives[v].1 ≤ t
  · by_cases g2 : t < lives[v].2
    · have HR := hideg ((hasB_iff _ _ _).2 ⟨g1, g2⟩)
      go_enter Try.func21, Try.ntmps21
      go_wp2
      go_ret
      exact ⟨ret_bool (by rw [HA.out, HR.out]), HB.out _⟩
    · have HR := hideg (hasB_no (a := lives[v].1) (b := lives[v].2) (t := t) (by omega))
      go_enter Try.func21, Try.ntmps21
      go_wp2
      go_ret
      exact ⟨ret_bool (by rw [HA.out, HR.out]), HB.out _⟩
  · have HR := hideg (hasB_no (a := lives[v].1) (b := lives[v].2) (t := t) (by omega))
    go_enter Try.func21, Try.ntmps21
    go_wp2
    go_ret
    exact ⟨ret_bool (by rw [HA.out, HR.out]), HB.out _⟩

end Go.Proofs.Ytkgbgkcbflicmac

namespace Go.Proofs.Ytkgbgkcbflicmac
open Go.RowKit

theorem wrap_nr (n : Int) (h0 : -9223372036854775808 ≤ n) (h1 : n < 9223372036854775808) : IntKind.i64.wrap n = n := by
  simp only [IntKind.wrap, IntKind.bits, IntKind.signed]
  simp
  omega

/-- a graph in a box -/
structure GBox (w W : World) (B : Nat) (g : Gr) (la ea : Option Addr) (lc ec : Nat) : Prop where
  c0 : W.cell? ⟨B, 0, none⟩ = some (.int .i64 g.hor)
  c1 : W.cell? ⟨B, 1, none⟩ = some (.slice la g.lives.length lc)
  c2 : W.cell? ⟨B, 2, none⟩ = some (.slice ea g.edges.length ec)
  bel : Below w.heap.size w W
  lt : B < W.heap.size
theorem gbox_start (w : World) (g : Gr) (la ea : Option Addr) (lc ec : Nat) (T : TypeId) : GBox w (w.alloc (.cells #[.int .i64 g.hor, .slice la g.lives.length lc, .slice ea g.edges.length ec] T)) w.heap.size g la ea lc ec :=
  ⟨by simp, by simp, by simp, gal w _, by simp⟩
theorem GBox.below {w W W' : World} {B : Nat} {g : Gr} {la ea : Option Addr} {lc ec : Nat} (h : GBox w W B g la ea lc ec) (hb : Below W.heap.size W W') : GBox w W' B g la ea lc ec :=
  ⟨(hb.cell (p := ⟨B, 0, none⟩) h.lt).trans h.c0, (hb.cell (p := ⟨B, 1, none⟩) h.lt).trans h.c1, (hb.cell (p := ⟨B, 2, none⟩) h.lt).trans h.c2, ptg h.bel hb, Nat.lt_of_lt_of_le h.lt hb.size⟩
theorem GBox.drewN {w W : World} {B : Nat} {g : Gr} {la ea : Option Addr} {lc ec : Nat} (h : GBox w W B g la ea lc ec) (n : Nat) : GBox w (W.drewN n) B g la ea lc ec := ⟨h.c0, h.c1, h.c2, below_drewN h.bel n, h.lt⟩

set_option maxRecDepth 100000 in
set_option maxHeartbeats 2000000 in
theorem Place_any (g : Gr) (la ea : Option Addr) (lc ec : Nat) (v t : Int) (w : World) (hG : GAt w la ea g) :
    Calls Try.prog 6 #[.agg #[.int .i64 g.hor, .slice la g.lives.length lc, .slice ea g.edges.length ec], .int .i64 v, .int .i64 t] w fun r w' => r = .returned (.int .i64 (placeE g v t)) ∧ Below w.heap.size w w' := by
  have B0 := gbox_start w g la ea lc ec 25
  have h1 := RGraph_any g la ea lc ec _ (hG.below B0.bel)
  by_cases e1 : gChk g = 0
  · have hR := gChk_right e1
    have hhor := hR.hor
    have hlv := hR.lvs
    have hw1 : IntKind.i64.wrap ((g.lives.length : Int) - 1) = (g.lives.length : Int) - 1 := wrap_nr _ (by omega) (by omega)
    have hw2 : IntKind.i64.wrap (g.hor - 1) = g.hor - 1 := wrap_nr _ (by omega) (by omega)
    have i1 := fun W => In_any v 0 ((g.lives.length : Int) - 1) W
    have i2 := fun W => In_any t 0 (g.hor - 1) W
    have HP : Hid (placeE g v t = if inR v 0 ((g.lives.length : Int) - 1) = true then if inR t 0 (g.hor - 1) = true then 0 else 1 else 4) := by show _ = _; unfold placeE; rw [if_pos e1]
    rw [e1] at h1
    clear hG hR e1
    cases q1 : inR v 0 ((g.lives.length : Int) - 1) with
    | false =>
      rw [q1] at HP i1
      clear q1 i2
      go_enter Try.func6, Try.ntmps6
      go_wp2_with fail
      refine h1.mono ?_
      rintro e w1 ⟨rfl, hb1⟩
      have B1 := B0.below hb1
      have cc1 := B1.c1
      have hbF := B1.bel
      clear h1 hb1 B1 B0
      go_wp2_with (go_at_call 13; refine (i1 _).mono ?_; rintro e w' ⟨rfl, rfl⟩)
      go_ret
      exact ⟨ret_int HP.out.symm, by assumption⟩
    | true =>
      rw [q1] at HP i1
      clear q1
      cases q2 : inR t 0 (g.hor - 1) with
      | false =>
        rw [q2] at HP i2
        clear q2
        go_enter Try.func6, Try.ntmps6
        go_wp2_with fail
        refine h1.mono ?_
        rintro e w1 ⟨rfl, hb1⟩
        have B1 := B0.below hb1
        have cc0 := B1.c0
        have cc1 := B1.c1
        have hbF := B1.bel
        clear h1 hb1 B1 B0
        go_wp2_with fail
        refine (i1 _).mono ?_
        rintro e w' ⟨rfl, hw'⟩
        have hws := hw'.symm
        subst hws
        clear hw'
        go_wp2_with (go_at_call 13; refine (i2 _).mono ?_; rintro e w' ⟨rfl, rfl⟩)
        go_ret
        exact ⟨ret_int HP.out.symm, by assumption⟩
      | true =>
        rw [q2] at HP i2
        clear q2
        go_enter Try.func6, Try.ntmps6
        go_wp2_with fail
        refine h1.mono ?_
        rintro e w1 ⟨rfl, hb1⟩
        have B1 := B0.below hb1
        have cc0 := B1.c0
        have cc1 := B1.c1
        have hbF := B1.bel
        clear h1 hb1 B1 B0
        go_wp2_with fail
        refine (i1 _).mono ?_
        rintro e w' ⟨rfl, hw'⟩
        have hws := hw'.symm
        subst hws
        clear hw'
        go_wp2_with (go_at_call 13; refine (i2 _).mono ?_; rintro e w' ⟨rfl, rfl⟩)
        go_ret
        exact ⟨ret_int HP.out.symm, by assumption⟩
  · have HP : Hid (placeE g v t = gChk g) := by show _ = _; unfold placeE; rw [if_neg e1]
    have d1 : (gChk g != 0) = true := by simpa using e1
    generalize gChk g = n at *
    clear hG e1
    go_enter Try.func6, Try.ntmps6
    go_wp2_with fail
    refine h1.mono ?_
    rintro e w1 ⟨rfl, hb1⟩
    have hbF := (B0.below hb1).bel
    clear h1 hb1 B0
    go_wp2
    go_ret
    exact ⟨ret_int HP.out.symm, hbF⟩

/-- a graph, an edge and a leg in boxes -/
structure LBox (w W : World) (B E K : Nat) (g : Gr) (la ea : Option Addr) (lc ec : Nat) (e : Ed) (l : Lg) : Prop where
  gb : GBox w W B g la ea lc ec
  e0 : W.cell? ⟨E, 0, none⟩ = some (.int .i64 e.1)
  e1 : W.cell? ⟨E, 1, none⟩ = some (.int .i64 e.2.1)
  l2 : W.cell? ⟨K, 2, none⟩ = some (.int .i64 l.2.2.1)
  l3 : W.cell? ⟨K, 3, none⟩ = some (.int .i64 l.2.2.2)
  ltE : E < W.heap.size
  ltK : K < W.heap.size
theorem LBox.below {w W W' : World} {B E K : Nat} {g : Gr} {la ea : Option Addr} {lc ec : Nat} {e : Ed} {l : Lg} (h : LBox w W B E K g la ea lc ec e l) (hb : Below W.heap.size W W') : LBox w W' B E K g la ea lc ec e l :=
  ⟨h.gb.below hb, (hb.cell (p := ⟨E, 0, none⟩) h.ltE).trans h.e0, (hb.cell (p := ⟨E, 1, none⟩) h.ltE).trans h.e1, (hb.cell (p := ⟨K, 2, none⟩) h.ltK).trans h.l2, (hb.cell (p := ⟨K, 3, none⟩) h.ltK).trans h.l3, Nat.lt_of_lt_of_le h.ltE hb.size, Nat.lt_of_lt_of_le h.ltK hb.size⟩

/-- what Lands tells -/
def landsV (o : Option (Int × Int)) : Value := .tuple #[.int .i64 (o.getD (0, 0)).1, .int .i64 (o.getD (0, 0)).2, .bool o.isSome]

set_option maxRecDepth 100000 in
set_option maxHeartbeats 4000000 in
theorem Lands_any (g : Gr) (la ea : Option Addr) (lc ec : Nat) (i : Nat) (t : Int) (w : World) (hG : GAt w la ea g) (R : Right g) (hi : i < g.edges.length) :
    Calls Try.prog 23 #[.agg #[.int .i64 g.hor, .slice la g.lives.length lc, .slice ea g.edges.length ec], .int .i64 i, .int .i64 t] w fun r w' => r = .returned (landsV (lands g g.edges[i] t)) ∧ Below w.heap.size w w' := by
  have B0 := gbox_start w g la ea lc ec 25
  obtain ⟨e, he⟩ : ∃ e, e = g.edges[i] := ⟨_, rfl⟩
  rw [← he]
  have hem : e ∈ g.edges := by rw [he]; exact List.getElem_mem hi
  obtain ⟨hA, hB, hln⟩ := R.ends e hem
  have hlegs := R.legs e hem
  have hhor := R.hor
  have heds := R.eds
  obtain ⟨A, eA⟩ : ∃ A : Nat, e.1 = (A : Int) := ⟨e.1.toNat, by omega⟩
  obtain ⟨Bv, eB⟩ : ∃ A : Nat, e.2.1 = (A : Int) := ⟨e.2.1.toNat, by omega⟩
  rcases hG.ed.below B0.bel with h0 | ⟨b, off, rfl, hbr, hc⟩
  · rw [h0] at hi; simp at hi
  have hce := hc i hi
  rw [← he] at hce
  obtain ⟨c0, c1, lo, lcap, c2, hL, _, _⟩ := hce
  have hlvl := R.lvs
  have hAl := fun W (h : Below w.heap.size w W) => Alive_any g.hor la (some ⟨b, off, none⟩) lc g.edges.length ec g.lives A t W ((hG.below h).lv) (by omega) (by omega)
  have hBl := fun tt W (h : Below w.heap.size w W) => Alive_any g.hor la (some ⟨b, off, none⟩) lc g.edges.length ec g.lives Bv tt W ((hG.below h).lv) (by omega) (by omega)
  have hii : (i : Int) < (g.edges.length : Int) := by omega
  have hii0 : (0 : Int) ≤ (i : Int) := by omega
  rw [← eA] at hAl
  rw [← eB] at hBl
  have hLg := fun W (h : Below (w.alloc (.cells #[.int .i64 g.hor, .slice la g.lives.length lc, .slice (some ⟨b, off, none⟩) g.edges.length ec] 25)).heap.size (w.alloc (.cells #[.int .i64 g.hor, .slice la g.lives.length lc, .slice (some ⟨b, off, none⟩) g.edges.length ec] 25)) W) => rleg_any e.1 e.2.1 lo lcap e.2.2 t W (hL.below h) (by omega)
  have HLN := hideg (fun h => lands_none (g := g) (e := e) (t := t) h)
  have HLO := hideg (fun l h => lands_no (g := g) (e := e) (t := t) (l := l) h)
  have HLY := hideg (fun l h => lands_yes (g := g) (e := e) (t := t) (l := l) h)
  have HLM := hideg (fun l h => lgFind_mem (t := t) (ls := e.2.2) (l := l) h)
  have HLF := hideg hlegs
  clear hG R hem hc he hlegs hA hB eA eB
  have hbb0 := B0.bel
  cases hf : lgFind t e.2.2 with
  | none =>
    have HR := hideg (HLN.out hf)
    simp only [hf] at hLg
    unfold legV at hLg
    simp only [Option.getD_none, Option.isSome_none] at hLg
    clear hf hAl hBl
    go_enter Try.func23, Try.ntmps23
    go_wp2_with fail
    refine (hLg _ (gal _ _)).mono ?_
    rintro r w1 ⟨rfl, hb1⟩
    have hbF : Below w.heap.size w w1 := ptg hbb0 (ptg (gal _ _) hb1)
    have HB := hideg (fun o => ptg hbF (gal w1 o))
    clear hLg hb1 c0 c1 c2 B0 hbb0
    go_wp2
    go_ret3
    exact ⟨by rw [HR.out]; rfl, HB.out _⟩
  | some l =>
    obtain ⟨hlm, hl1, hl2⟩ := HLM.out l hf
    have hfit := (fitB_iff _ _).1 (HLF.out l hlm)
    have hw1 : IntKind.i64.wrap (t + l.2.2.1) = t + l.2.2.1 := wrap_nr _ (by omega) (by omega)
    simp only [hf] at hLg
    unfold legV at hLg
    simp only [Option.getD_some, Option.isSome_some] at hLg
    have HNo := hideg (HLO.out l hf)
    have HYe := hideg (HLY.out l hf)
    clear hf hlm HLM HLN HLO HLY HLF
    have step : ∀ (w1 : World), Below ((w.alloc (.cells #[.int .i64 g.hor, .slice la g.lives.length lc, .slice (some ⟨b, off, none⟩) g.edges.length ec] 25)).alloc (.cells #[.int .i64 e.1, .int .i64 e.2.1, .slice lo e.2.2.length lcap] 51)).heap.size ((w.alloc (.cells #[.int .i64 g.hor, .slice la g.lives.length lc, .slice (some ⟨b, off, none⟩) g.edges.length ec] 25)).alloc (.cells #[.int .i64 e.1, .int .i64 e.2.1, .slice lo e.2.2.length lcap] 51)) w1 →
        LBox w (w1.alloc (.cells #[.int .i64 l.1, .int .i64 l.2.1, .int .i64 l.2.2.1, .int .i64 l.2.2.2] 61)) w.heap.size (w.heap.size + 1) w1.heap.size g la (some ⟨b, off, none⟩) lc ec e l := by
      intro w1 hb1
      have hG1 := (B0.below (gal _ (.cells #[.int .i64 e.1, .int .i64 e.2.1, .slice lo e.2.2.length lcap] 51))).below hb1
      have hs := hb1.size
      simp only [World.size_alloc] at hs
      have a0 : w1.cell? ⟨w.heap.size + 1, 0, none⟩ = some (.int .i64 e.1) := by rw [hb1.cell (p := ⟨w.heap.size + 1, 0, none⟩) (by simp)]; simp
      have a1 : w1.cell? ⟨w.heap.size + 1, 1, none⟩ = some (.int .i64 e.2.1) := by rw [hb1.cell (p := ⟨w.heap.size + 1, 1, none⟩) (by simp)]; simp
      have hal := gal w1 (.cells #[.int .i64 l.1, .int .i64 l.2.1, .int .i64 l.2.2.1, .int .i64 l.2.2.2] 61)
      exact ⟨hG1.below hal, (hal.cell (p := ⟨w.heap.size + 1, 0, none⟩) (by show w.heap.size + 1 < _; omega)).trans a0, (hal.cell (p := ⟨w.heap.size + 1, 1, none⟩) (by show w.heap.size + 1 < _; omega)).trans a1, by simp, by simp, by simp; omega, by simp⟩
    have HSt := hideg step
    clear step
    cases a1 : aliveB t g.lives e.1 with
    | false =>
      have HR : Hid (lands g e t = none) := HNo.out (by rw [a1]; rfl)
      go_enter Try.func23, Try.ntmps23
      go_wp2_with fail
      refine (hLg _ (gal _ _)).mono ?_
      rintro r w1 ⟨rfl, hb1⟩
      have LB2 := HSt.out w1 hb1
      generalize hw2 : w1.alloc (.cells #[.int .i64 l.1, .int .i64 l.2.1, .int .i64 l.2.2.1, .int .i64 l.2.2.2] 61) = w2 at LB2
      have g0 := LB2.gb.c0
      have g1 := LB2.gb.c1
      have g2 := LB2.gb.c2
      have q0 := LB2.e0
      have hbx := LB2.gb.bel
      clear hLg hb1 c0 c1 c2 hbb0 B0 HSt
      go_wp2_with fail
      clear hw2
      refine (hAl _ hbx).mono ?_
      rintro r w3 ⟨rfl, hb3⟩
      rw [a1]
      have hbF := ptg hbx hb3
      clear hb3 LB2 hbx g0 g1 g2 q0
      go_wp2
      go_ret3
      exact ⟨by rw [HR.out]; rfl, hbF⟩
    | true =>
      by_cases h3 : g.hor ≤ t + l.2.2.1
      · have HR : Hid (lands g e t = none) := HNo.out (by rw [a1, show decide (t + l.2.2.1 < g.hor) = false from by simp; omega]; rfl)
        have d3 : decide (g.hor ≤ t + l.2.2.1) = true := by simpa using h3
        clear h3
        go_enter Try.func23, Try.ntmps23
        go_wp2_with fail
        refine (hLg _ (gal _ _)).mono ?_
        rintro r w1 ⟨rfl, hb1⟩
        have LB2 := HSt.out w1 hb1
        generalize hw2 : w1.alloc (.cells #[.int .i64 l.1, .int .i64 l.2.1, .int .i64 l.2.2.1, .int .i64 l.2.2.2] 61) = w2 at LB2
        have g0 := LB2.gb.c0
        have g1 := LB2.gb.c1
        have g2 := LB2.gb.c2
        have q0 := LB2.e0
        have hbx := LB2.gb.bel
        clear hLg hb1 c0 c1 c2 hbb0 B0 HSt
        go_wp2_with fail
        clear hw2
        refine (hAl _ hbx).mono ?_
        rintro r w3 ⟨rfl, hb3⟩
        rw [a1]
        have L3 := LB2.below hb3
        clear hb3 LB2 hbx g0 g1 g2 q0
        have g0 := L3.gb.c0
        have g1 := L3.gb.c1
        have g2 := L3.gb.c2
        have q1 := L3.e1
        have z2 := L3.l2
        have hbx := L3.gb.bel
        go_wp2
        go_ret3
        exact ⟨by rw [HR.out]; rfl, hbx⟩
      · have d3 : decide (g.hor ≤ t + l.2.2.1) = false := by simpa using h3
        have d4 : decide (t + l.2.2.1 < g.hor) = true := by simp; omega
        clear h3
        cases a2 : aliveB (t + l.2.2.1) g.lives e.2.1 with
        | false =>
          have HR : Hid (lands g e t = none) := HNo.out (by rw [a1, a2, d4]; rfl)
          clear d4
          go_enter Try.func23, Try.ntmps23
          go_wp2_with fail
          refine (hLg _ (gal _ _)).mono ?_
          rintro r w1 ⟨rfl, hb1⟩
          have LB2 := HSt.out w1 hb1
          generalize hw2 : w1.alloc (.cells #[.int .i64 l.1, .int .i64 l.2.1, .int .i64 l.2.2.1, .int .i64 l.2.2.2] 61) = w2 at LB2
          have g0 := LB2.gb.c0
          have g1 := LB2.gb.c1
          have g2 := LB2.gb.c2
          have q0 := LB2.e0
          have hbx := LB2.gb.bel
          clear hLg hb1 c0 c1 c2 hbb0 B0 HSt
          go_wp2_with fail
          clear hw2
          refine (hAl _ hbx).mono ?_
          rintro r w3 ⟨rfl, hb3⟩
          rw [a1]
          have L3 := LB2.below hb3
          clear hb3 LB2 hbx g0 g1 g2 q0
          have g0 := L3.gb.c0
          have g1 := L3.gb.c1
          have g2 := L3.gb.c2
          have q1 := L3.e1
          have z2 := L3.l2
          have hbx := L3.gb.bel
          go_wp2_with fail
          refine (hBl _ _ hbx).mono ?_
          rintro r w4 ⟨rfl, hb4⟩
          rw [a2]
          have hbF := ptg hbx hb4
          clear hb4 L3 hbx g0 g1 g2 q1 z2
          go_wp2
          go_ret3
          exact ⟨by rw [HR.out]; rfl, hbF⟩
        | true =>
          have HR : Hid (lands g e t = some (t + l.2.2.1, l.2.2.2)) := HYe.out (by rw [a1, a2, d4]; rfl)
          clear d4
          go_enter Try.func23, Try.ntmps23
          go_wp2_with fail
          refine (hLg _ (gal _ _)).mono ?_
          rintro r w1 ⟨rfl, hb1⟩
          have LB2 := HSt.out w1 hb1
          generalize hw2 : w1.alloc (.cells #[.int .i64 l.1, .int .i64 l.2.1, .int .i64 l.2.2.1, .int .i64 l.2.2.2] 61) = w2 at LB2
          have g0 := LB2.gb.c0
          have g1 := LB2.gb.c1
          have g2 := LB2.gb.c2
          have q0 := LB2.e0
          have hbx := LB2.gb.bel
          clear hLg hb1 c0 c1 c2 hbb0 B0 HSt
          go_wp2_with fail
          clear hw2
          refine (hAl _ hbx).mono ?_
          rintro r w3 ⟨rfl, hb3⟩
          rw [a1]
          have L3 := LB2.below hb3
          clear hb3 LB2 hbx g0 g1 g2 q0
          have g0 := L3.gb.c0
          have g1 := L3.gb.c1
          have g2 := L3.gb.c2
          have q1 := L3.e1
          have z2 := L3.l2
          have hbx := L3.gb.bel
          go_wp2_with fail
          refine (hBl _ _ hbx).mono ?_
          rintro r w4 ⟨rfl, hb4⟩
          rw [a2]
          have L4 := L3.below hb4
          have hbF := L4.gb.bel
          clear hb4 L3 hbx g0 g1 g2 q1 z2
          have z2 := L4.l2
          have z3 := L4.l3
          go_wp2
          go_quiet (fail)
          go_wp2
          go_ret3
          exact ⟨by rw [HR.out]; rfl, below_drewN hbF _⟩

end Go.Proofs.Ytkgbgkcbflicmac

namespace Go.Proofs.Ytkgbgkcbflicmac
open Go.RowKit

theorem results_two_e {fn : Func} {t u : Tmp} (h : fn.results = #[.tmp t, .tmp u]) (tmps : Array Value) (P : Program) (w : World) :
    (results fn tmps).run P w = .ok (.tuple #[tmps.getD t undef, tmps.getD u undef]) w := by
  simp [results, h]
theorem made_six (n : Nat) : (madeCells (Value.agg #[.int .i64 0, .int .i64 0, .int .i64 0, .int .i64 0, .int .i64 0, .int .i64 0]).cells (n * 6)).toList = encRs (List.replicate n (0, 0, 0, 0, 0, 0)) := by
  apply List.ext_getElem?
  intro j
  have hl : (madeCells (Value.agg #[.int .i64 0, .int .i64 0, .int .i64 0, .int .i64 0, .int .i64 0, .int .i64 0]).cells (n * 6)).toList.length = n * 6 := by rw [Array.length_toList, size_madeCells]
  by_cases hj : j < n * 6
  · have e0 : ∀ x ∈ encRs (List.replicate n ((0 : Int), (0 : Int), (0 : Int), (0 : Int), (0 : Int), (0 : Int))), x = Value.int .i64 0 := by
      intro x hx
      unfold encRs at hx
      simp only [List.mem_flatMap, List.mem_replicate] at hx
      obtain ⟨y, ⟨_, rfl⟩, hy⟩ := hx
      simp [encR] at hy
      exact hy
    have hj2 : j < (encRs (List.replicate n ((0 : Int), (0 : Int), (0 : Int), (0 : Int), (0 : Int), (0 : Int)))).length := by rw [encRs_length, List.length_replicate]; exact hj
    rw [List.getElem?_eq_getElem (by omega), List.getElem?_eq_getElem hj2, e0 _ (List.getElem_mem hj2)]
    congr 1
    have h3 : (Value.agg #[.int .i64 0, .int .i64 0, .int .i64 0, .int .i64 0, .int .i64 0, .int .i64 0]).cells = #[Value.int .i64 0, .int .i64 0, .int .i64 0, .int .i64 0, .int .i64 0, .int .i64 0] := by rfl
    simp only [madeCells, h3, Array.getElem_toList, Array.getElem_map, Array.getElem_range]
    have : j % 6 = 0 ∨ j % 6 = 1 ∨ j % 6 = 2 ∨ j % 6 = 3 ∨ j % 6 = 4 ∨ j % 6 = 5 := by omega
    rcases this with e | e | e | e | e | e <;> simp [e]
  · rw [List.getElem?_eq_none (by omega), List.getElem?_eq_none (by rw [encRs_length, List.length_replicate]; omega)]
theorem encRs_cons (x : Ri) (l : List Ri) : encRs (x :: l) = .int .i64 x.1 :: .int .i64 x.2.1 :: .int .i64 x.2.2.1 :: .int .i64 x.2.2.2.1 :: .int .i64 x.2.2.2.2.1 :: .int .i64 x.2.2.2.2.2 :: encRs l := by simp [encRs, encR]
theorem encRs_set : ∀ (m : List Ri) (k : Nat) (q : Ri), k < m.length → ((((((encRs m).set (k * 6) (.int .i64 q.1)).set (k * 6 + 1) (.int .i64 q.2.1)).set (k * 6 + 2) (.int .i64 q.2.2.1)).set (k * 6 + 3) (.int .i64 q.2.2.2.1)).set (k * 6 + 4) (.int .i64 q.2.2.2.2.1)).set (k * 6 + 5) (.int .i64 q.2.2.2.2.2) = encRs (m.set k q)
  | [], k, q, h => by simp at h
  | x :: m, 0, q, _ => by
    have e : (x :: m).set 0 q = q :: m := rfl
    rw [e, encRs_cons, encRs_cons]; rfl
  | x :: m, k + 1, q, h => by
    have ih := encRs_set m k q (by simpa using h)
    have e : (x :: m).set (k + 1) q = x :: m.set k q := rfl
    rw [e, encRs_cons, encRs_cons, ← ih, show (k + 1) * 6 = k * 6 + 1 + 1 + 1 + 1 + 1 + 1 from by omega]
    rfl
/-- a row of rides, in memory of the call's own -/
abbrev Ro (w : World) (base gb n cap : Nat) (x : List Ri) : Prop := w.ownsRow base 66 6 (.slice (some ⟨gb, 0, none⟩) n cap) n (encRs x)
theorem Ro.len {w : World} {base gb n cap : Nat} {x : List Ri} (h : Ro w base gb n cap x) : x.length = n := by have := h.1; rw [encRs_length] at this; omega
theorem Ro.one {w : World} {base gb n cap : Nat} {x : List Ri} (h : Ro w base gb n cap x) {k : Nat} (hk : k < n) : RdOne w gb (k * 6) (x.getD k ri0) := by
  have hl := h.len
  obtain ⟨f0, f1, f2, f3, f4, f5⟩ := encRs_get x k (by omega)
  refine ⟨?_, ?_, ?_, ?_, ?_, ?_⟩
  · rw [World.ownsRow.cellAt h (k * 6) (by omega)]; exact f0
  · rw [World.ownsRow.cellAt h (k * 6 + 1) (by omega)]; exact f1
  · rw [World.ownsRow.cellAt h (k * 6 + 2) (by omega)]; exact f2
  · rw [World.ownsRow.cellAt h (k * 6 + 3) (by omega)]; exact f3
  · rw [World.ownsRow.cellAt h (k * 6 + 4) (by omega)]; exact f4
  · rw [World.ownsRow.cellAt h (k * 6 + 5) (by omega)]; exact f5
/-- a ride written into five cells -/
def setR (w : World) (gb k : Nat) (q : Ri) : World := (((((w.setCell ⟨gb, k * 6, none⟩ (.int .i64 q.1)).setCell ⟨gb, k * 6 + 1, none⟩ (.int .i64 q.2.1)).setCell ⟨gb, k * 6 + 2, none⟩ (.int .i64 q.2.2.1)).setCell ⟨gb, k * 6 + 3, none⟩ (.int .i64 q.2.2.2.1)).setCell ⟨gb, k * 6 + 4, none⟩ (.int .i64 q.2.2.2.2.1)).setCell ⟨gb, k * 6 + 5, none⟩ (.int .i64 q.2.2.2.2.2)
theorem Ro.set {w : World} {base gb n cap : Nat} {x : List Ri} (h : Ro w base gb n cap x) {k : Nat} (hk : k < n) (q : Ri) : Ro (setR w gb k q) base gb n cap (x.set k q) := by
  have hl := h.len
  have h5 := (World.ownsRow.stored ((World.ownsRow.stored ((World.ownsRow.stored ((World.ownsRow.stored ((World.ownsRow.stored ((World.ownsRow.stored h (k * 6) (.int .i64 q.1)).1) (k * 6 + 1) (.int .i64 q.2.1)).1) (k * 6 + 2) (.int .i64 q.2.2.1)).1) (k * 6 + 3) (.int .i64 q.2.2.2.1)).1) (k * 6 + 4) (.int .i64 q.2.2.2.2.1)).1) (k * 6 + 5) (.int .i64 q.2.2.2.2.2)).1
  rw [encRs_set x k q (by omega)] at h5
  exact h5
theorem setR_other {w : World} {base : Nat} {e : TypeId} {size : Nat} {v : Value} {n : Nat} {xs : List Value} (h : w.ownsRow base e size v n xs) {gb k : Nat} (ha : v.ownBlock ≠ some gb) (q : Ri) : (setR w gb k q).ownsRow base e size v n xs :=
  ownsRow_setCell_other (ownsRow_setCell_other (ownsRow_setCell_other (ownsRow_setCell_other (ownsRow_setCell_other (ownsRow_setCell_other h ha _) ha _) ha _) ha _) ha _) ha _
theorem setR_below {B : Nat} {w0 w : World} (h : Below B w0 w) {gb : Nat} (hg : B ≤ gb) (k : Nat) (q : Ri) : Below B w0 (setR w gb k q) :=
  (((((h.setCell (p := ⟨gb, k * 6, none⟩) hg _).setCell (p := ⟨gb, k * 6 + 1, none⟩) hg _).setCell (p := ⟨gb, k * 6 + 2, none⟩) hg _).setCell (p := ⟨gb, k * 6 + 3, none⟩) hg _).setCell (p := ⟨gb, k * 6 + 4, none⟩) hg _).setCell (p := ⟨gb, k * 6 + 5, none⟩) hg _
theorem cellFar {w : World} {b j b' j' : Nat} {v : Value} (h : b' ≠ b) : (w.setCell ⟨b, j, none⟩ v).cell? ⟨b', j', none⟩ = w.cell? ⟨b', j', none⟩ := by
  refine World.cell?_setCell_other _ _ _ _ (fun e => h ?_)
  have := congrArg Addr.block e
  exact this.symm
theorem own_none {v : Value} {b : Nat} (h : ∀ k, v.ownBlock = some k → b < k) : v.ownBlock ≠ some b := fun e => Nat.lt_irrefl _ (h b e)

/-- what earliest holds while it looks at the rides -/
structure ErSt (w0 w : World) (m1 m2 m3 n : Nat) (u : Value) (rides : List Ri) (T : List Int) (L : List Ri) : Prop where
  t : Zo w w0.heap.size m1 n n T
  l : Ro w w0.heap.size m2 n n L
  r : w.ownsRow m3 66 6 u rides.length (encRs rides)
  b : Below w0.heap.size w0 w
theorem ErSt.below {w0 w w' : World} {m1 m2 m3 n : Nat} {u : Value} {rides : List Ri} {T : List Int} {L : List Ri} (h : ErSt w0 w m1 m2 m3 n u rides T L) (hb : Below w.heap.size w w') : ErSt w0 w' m1 m2 m3 n u rides T L :=
  ⟨ownsRow_below h.t hb, ownsRow_below h.l hb, ownsRow_below h.r hb, h.b.trans (hb.mono h.b.size)⟩
theorem ErSt.set {w0 w : World} {m1 m2 m3 n : Nat} {u : Value} {rides : List Ri} {T : List Int} {L : List Ri} (h : ErSt w0 w m1 m2 m3 n u rides T L) (h12 : m1 < m2) (h23 : m2 < m3) {k : Nat} (hk : k < n) (x : Int) (q : Ri) :
    ErSt w0 (setR (w.setCell ⟨m1, k, none⟩ (.int .i64 x)) m2 k q) m1 m2 m3 n u rides (T.set k x) (L.set k q) := by
  have hm1 : w0.heap.size ≤ m1 := (h.t.lt m1 rfl).1
  have hu : ∀ b, b < m3 → u.ownBlock ≠ some b := fun b hb => own_none fun k hk => Nat.lt_of_lt_of_le hb (h.r.lt k hk).1
  refine ⟨setR_other (h.t.set k x) (by simp [Value.ownBlock]; omega) q, ?_, setR_other (ownsRow_setCell_other h.r (hu m1 (by omega)) _) (hu m2 h23) q, setR_below (h.b.setCell (p := ⟨m1, k, none⟩) hm1 _) (by omega) k q⟩
  exact Ro.set (ownsRow_setCell_other h.l (by simp [Value.ownBlock]; omega) _) hk q
theorem ErSt.ride {w0 w : World} {m1 m2 m3 n : Nat} {u : Value} {rides : List Ri} {T : List Int} {L : List Ri} (h : ErSt w0 w m1 m2 m3 n u rides T L) {k : Nat} (hk : k < rides.length) : ∃ rb cap, u = .slice (some ⟨rb, 0, none⟩) rides.length cap ∧ rb < w.heap.size ∧ RdOne w rb (k * 6) (rides.getD k ri0) := by
  have hr := h.r
  rcases hr.2 with ⟨_, h0⟩ | ⟨rb, cap, cur, e, _, hh, _⟩
  · omega
  · rw [e] at hr
    exact ⟨rb, cap, e, (Array.getElem?_eq_some_iff.1 hh).1, Ro.one hr hk⟩

set_option maxRecDepth 100000 in
set_option maxHeartbeats 400000 in
theorem earliest_any (g : Gr) (la ea : Option Addr) (lc ec : Nat) (v t : Int) (w : World) (hG : GAt w la ea g) (hpl : placeE g v t = 0) :
    Calls Try.prog 32 #[.agg #[.int .i64 g.hor, .slice la g.lives.length lc, .slice ea g.edges.length ec], .int .i64 v, .int .i64 t] w fun r w' => ∃ m1 m2, r = .returned (.tuple #[.slice (some ⟨m1, 0, none⟩) g.lives.length g.lives.length, .slice (some ⟨m2, 0, none⟩) g.lives.length g.lives.length]) ∧ Zo w' w.heap.size m1 g.lives.length g.lives.length (erF g v t).1 ∧ Ro w' w.heap.size m2 g.lives.length g.lives.length (erF g v t).2 ∧ Below w.heap.size w w' := by
  obtain ⟨i0, hi, hz0, hz1, hz2⟩ := info_parts Try.infoRide
  obtain ⟨hg0, ⟨hv0, hv1⟩, ht0, ht1⟩ := placeE_zero hpl
  have hR := gChk_right hg0
  have hn12 := hR.lvs
  obtain ⟨V, rfl⟩ : ∃ V : Nat, v = (V : Int) := ⟨v.toNat, by omega⟩
  have hVg : V < g.lives.length := by omega
  obtain ⟨w1, hw1⟩ : ∃ x, x = w.alloc (.cells #[.int .i64 g.hor, .slice la g.lives.length lc, .slice ea g.edges.length ec] 25) := ⟨_, rfl⟩
  have B1 : GBx w w1 w.heap.size g la ea lc ec := by rw [hw1]; exact gbx_start w g la ea lc ec 25
  obtain ⟨w2, hw2⟩ : ∃ x, x = w1.alloc (.cells #[.int .i64 1099511627776] 3) := ⟨_, rfl⟩
  have B2 : GBx w w2 w.heap.size g la ea lc ec := by rw [hw2]; exact B1.below (gal w1 _)
  have hs1 : w1.heap.size = w.heap.size + 1 := by rw [hw1]; simp
  have hs2 : w2.heap.size = w.heap.size + 1 + 1 := by rw [hw2]; simp [hs1]
  have hRep := Repeat_any 1099511627776 (w.heap.size + 1) 0 1 g.lives.length (by omega) w2 (by rw [hw2]; exact new_cell hs1.symm rfl) (by omega)
  have g1 := B2.c1
  have HG := hideg hG
  have HB2 := hideg B2
  have HRt := hideg hR
  have hw1s := hw1.symm
  have hw2s := hw2.symm
  clear hG hpl hg0 hR B1 B2 hw1 hw2
  go_enter Try.func32, Try.ntmps32
  go_wp2_with fail
  refine hRep.mono ?_
  rintro r w3 ⟨rfl, hZ3, hb3⟩
  have B3 := HB2.out.below hb3
  have g1' := B3.c1
  have hs3 := (World.ownsRow.lt hZ3 _ rfl).2
  clear hRep hw1s hw2s g1 HB2
  go_wp2_with (at_make; refine wpList_make_full _ rfl _ _ 73 rfl w.heap.size 66 i0 _ 6 Try.underlying73 hi hz0 hz1 .i64 .i64 _ _ g.lives.length rfl rfl rfl rfl (by rw [hz2]; omega) (by unfold maxLen; omega) (by omega) ?_; intro w4 hown4 hgrow4; refine stopHereR ?_)
  refine hideg ?_
  rw [made_six] at hown4
  have hb4 : Below w3.heap.size w3 w4 := (Below.refl _ _).grown hgrow4 (Nat.le_refl _) (fun k hk => by cases hk)
  have B4 := B3.below hb4
  have hZ4 := owns_base2 (ownsRow_below hZ3 hb4) (show w.heap.size ≤ w2.heap.size by omega)
  have hGA := HG.out.below B4.bel
  obtain ⟨lb, lof, rfl, hlb, hlc⟩ : ∃ b off, la = some ⟨b, off, none⟩ ∧ b < w4.heap.size ∧ (w4.cell? ⟨b, off + V * 2, none⟩ = some (.int .i64 g.lives[V].1) ∧ w4.cell? ⟨b, off + V * 2 + 1, none⟩ = some (.int .i64 g.lives[V].2)) := by
    rcases hGA.lv with h0 | ⟨b, off, rfl, hbr, hc⟩
    · rw [h0] at hVg; simp at hVg
    exact ⟨b, off, rfl, hbr, IvAt.get hVg hc⟩
  obtain ⟨lc0, lc1⟩ := hlc
  have g1 := B4.c1
  have hs4 := (World.ownsRow.lt hown4 _ rfl).2
  have hal := fun W => jalive_any g.lives[V].1 g.lives[V].2 t W
  rw [← aliveB_at t g.lives V hVg] at hal
  have HB4 := hideg B4
  clear hgrow4 hb4 B3 B4 hZ3 hb3 g1' hGA
  cases ha : aliveB t g.lives (V : Int) with
  | false =>
    rw [ha] at hal
    have HE : Hid (erF g (V : Int) t = (List.replicate g.lives.length 1099511627776, List.replicate g.lives.length (0, 0, 0, 0, 0, 0))) := by show _ = _; unfold erF; rw [if_neg (by rw [ha]; simp)]
    clear ha
    go_wp2_with fail
    refine (hal _).mono ?_
    rintro r w5 ⟨rfl, hb5⟩
    have hZ5 := ownsRow_below hZ4 hb5
    rw [hs2] at hZ5
    have HZ5 := hideg hZ5
    have HL5 := hideg (ownsRow_below hown4 hb5)
    have HB5 := hideg (HB4.out.below hb5).bel
    clear hal hb5 hZ4 hown4 HB4 lc0 lc1 g1 hZ5
    go_wp2
    (try simp only [Exit.inBlock, Exit.then]); refine bodyPost_ret (results_two_e rfl _ _ _) rfl ?_
    exact ⟨_, _, rfl, by rw [HE.out]; exact HZ5.out, by rw [HE.out]; exact HL5.out, HB5.out⟩
  | true =>
    rw [ha] at hal
    have HE : Hid (erF g (V : Int) t = erGo (er0 g (V : Int) t) (ridesF g)) := by show _ = _; unfold erF; rw [if_pos ha]
    clear ha
    go_wp2_with fail
    refine (hal _).mono ?_
    rintro r w5 ⟨rfl, hb5⟩
    have hZ5 := ownsRow_below hZ4 hb5
    have hL5 := ownsRow_below hown4 hb5
    have B5 := HB4.out.below hb5
    have hs5 := hb5.size
    have fz := World.ownsRow.frozenAt hZ5 V
    have cv := Zo.cell hZ5 hVg
    rw [hs2] at fz cv
    clear hal hb5 hZ4 hown4 HB4 lc0 lc1 g1
    obtain ⟨w6, hw6⟩ : ∃ x, x = w5.setCell ⟨w.heap.size + 1 + 1, V, none⟩ (.int .i64 t) := ⟨_, rfl⟩
    have hZ6 : Zo w6 w.heap.size (w.heap.size + 1 + 1) g.lives.length g.lives.length (er0 g (V : Int) t).1 := by
      rw [hw6]; rw [hs2] at hZ5
      have := Zo.set hZ5 V t
      simpa [er0] using this
    have hL6 : Ro w6 w.heap.size w3.heap.size g.lives.length g.lives.length (er0 g (V : Int) t).2 := by
      rw [hw6]; exact ownsRow_setCell_other hL5 (by simp [Value.ownBlock]; omega) _
    have hb6 : Below w.heap.size w w6 := by rw [hw6]; exact B5.bel.setCell (p := ⟨w.heap.size + 1 + 1, V, none⟩) (by simp only; omega) _
    have hs6 : w5.heap.size = w6.heap.size := by rw [hw6]; simp [World.setCell]
    have k0 : w6.cell? ⟨w.heap.size, 0, none⟩ = some (.int .i64 g.hor) := by rw [hw6, cellFar (by omega)]; exact B5.c0
    have k1 : w6.cell? ⟨w.heap.size, 1, none⟩ = some (.slice (some ⟨lb, lof, none⟩) g.lives.length lc) := by rw [hw6, cellFar (by omega)]; exact B5.c1
    have k2 : w6.cell? ⟨w.heap.size, 2, none⟩ = some (.slice ea g.edges.length ec) := by rw [hw6, cellFar (by omega)]; exact B5.c2
    have hRd := Rides_any g (some ⟨lb, lof, none⟩) ea lc ec w6 (HG.out.below hb6) HRt.out
    have hw6s := hw6.symm
    clear hw6 hZ5 hL5 B5
    obtain ⟨M1, hM1⟩ : ∃ M, M = w.heap.size + 1 + 1 := ⟨_, rfl⟩
    obtain ⟨M2, hM2⟩ : ∃ M, M = w3.heap.size := ⟨_, rfl⟩
    obtain ⟨M3, hM3⟩ : ∃ M, M = w6.heap.size := ⟨_, rfl⟩
    have h12 : M1 < M2 := by omega
    have h23 : M2 < M3 := by omega
    go_wp2_with fail
    refine hRd.mono ?_
    rintro r w7 ⟨u, rfl, hu7, hb7⟩
    rw [← hM1, ← hM2]
    rw [← hM1] at hZ6
    rw [← hM2] at hL6
    rw [← hM3] at hu7
    have S7 : ErSt w w7 M1 M2 M3 g.lives.length u (ridesF g) (erGo (er0 g (V : Int) t) ((ridesF g).take 0)).1 (erGo (er0 g (V : Int) t) ((ridesF g).take 0)).2 := ⟨ownsRow_below hZ6 hb7, ownsRow_below hL6 hb7, hu7, hb6.trans (hb7.mono hb6.size)⟩
    have hok : ∀ r ∈ ridesF g, RideOk g r := fun r hr => mem_rides HRt.out hr
    have hll : (ridesF g).length ≤ 3000 := Nat.le_trans (ridesTo_len g _) (Nat.le_trans (Nat.mul_le_mul (show g.hor.toNat ≤ 100 by have := HRt.out.hor; omega) HRt.out.eds) (by omega))
    obtain ⟨ao, cap, rfl, _⟩ := rdAt_of_owns hu7
    generalize ridesF g = rides at *
    have HOk := hideg hok
    clear hRd hw6s hZ6 hL6 hb6 hu7 hb7 k0 k1 k2 fz cv hM1 hM2 hM3 hs6 hs5 hs4 hs3 hs2 hs1 HG HRt hok hlb
    go_wp2_with fail
    go_loopw [38] (fun i wr => ∃ k : Nat, k ≤ rides.length ∧ i = .int .i64 k ∧ ErSt w wr M1 M2 M3 g.lives.length (.slice ao rides.length cap) rides (erGo (er0 g (V : Int) t) (rides.take k)).1 (erGo (er0 g (V : Int) t) (rides.take k)).2) (fun i _ => rides.length - (intOf i).toNat)
    case atStart => exact ⟨0, Nat.zero_le _, rfl, S7⟩
    case round =>
      clear S7
      obtain ⟨k, hk, rfl, S⟩ := hrel
      by_cases hkl : k < rides.length
      · have hkli : (k : Int) < (rides.length : Int) := by omega
        have hkw : IntKind.i64.wrap ((k : Int) + 1) = (k : Int) + 1 := wrap_nj _ (by omega) (by omega)
        obtain ⟨rb, cap', e, hrb, hRo⟩ := S.ride hkl
        simp only [Value.slice.injEq, true_and] at e
        obtain ⟨rfl, rfl⟩ := e
        have hmem := HOk.out rides[k] (List.getElem_mem hkl)
        have hgd : rides.getD k ri0 = rides[k] := by rw [List.getD_eq_getElem?_getD, List.getElem?_eq_getElem hkl]; rfl
        have HT := hideg (erGo_take (s := er0 g (V : Int) t) hkl)
        rw [hgd] at hRo
        generalize rides[k] = rr at *
        obtain ⟨E, d, a, b, ar, c⟩ := rr
        have ha0 := hmem.a0
        have hb0 := hmem.b0
        simp only at ha0 hb0
        obtain ⟨A, rfl⟩ : ∃ A : Nat, a = (A : Int) := ⟨a.toNat, by omega⟩
        obtain ⟨B, rfl⟩ : ∃ B : Nat, b = (B : Int) := ⟨b.toNat, by omega⟩
        have hA : A < g.lives.length := by omega
        have hB : B < g.lives.length := by omega
        generalize (erGo (er0 g (V : Int) t) (rides.take k)).1 = T at *
        generalize (erGo (er0 g (V : Int) t) (rides.take k)).2 = L at *
        obtain ⟨wa, hwa⟩ : ∃ x, x = wr.alloc (.cells #[.int .i64 E, .int .i64 d, .int .i64 (A : Int), .int .i64 (B : Int), .int .i64 ar, .int .i64 c] 66) := ⟨_, rfl⟩
        have c0 := hRo.c0
        have c1 := hRo.c1
        have c2 := hRo.c2
        have c3 := hRo.c3
        have c4 := hRo.c4
        have c5 := hRo.c5
        simp only at c0 c1 c2 c3 c4 c5
        have Sa : ErSt w wa M1 M2 M3 g.lives.length (.slice (some ⟨rb, 0, none⟩) rides.length cap) rides T L := by rw [hwa]; exact S.below (gal wr _)
        have xa := Zo.cell Sa.t hA
        have xb := Zo.cell Sa.t hB
        have y0 : wa.cell? ⟨wr.heap.size, 0, none⟩ = some (.int .i64 E) := by rw [hwa]; exact new_cell rfl rfl
        have y1 : wa.cell? ⟨wr.heap.size, 1, none⟩ = some (.int .i64 d) := by rw [hwa]; exact new_cell rfl rfl
        have y2 : wa.cell? ⟨wr.heap.size, 2, none⟩ = some (.int .i64 (A : Int)) := by rw [hwa]; exact new_cell rfl rfl
        have y3 : wa.cell? ⟨wr.heap.size, 3, none⟩ = some (.int .i64 (B : Int)) := by rw [hwa]; exact new_cell rfl rfl
        have y4 : wa.cell? ⟨wr.heap.size, 4, none⟩ = some (.int .i64 ar) := by rw [hwa]; exact new_cell rfl rfl
        have y5 : wa.cell? ⟨wr.heap.size, 5, none⟩ = some (.int .i64 c) := by rw [hwa]; exact new_cell rfl rfl
        have hwas := hwa.symm
        have HSa := hideg Sa
        have HS0 : Hid (M1 < wr.heap.size ∧ M2 < wr.heap.size) := ⟨(World.ownsRow.lt S.t _ rfl).2, (World.ownsRow.lt S.l _ rfl).2⟩
        clear hRo S Sa hmem hgd hwa
        obtain ⟨x1, hx1⟩ : ∃ x, x = T.getD A 0 := ⟨_, rfl⟩
        obtain ⟨x2, hx2⟩ : ∃ x, x = T.getD B 0 := ⟨_, rfl⟩
        rw [← hx1] at xa
        rw [← hx2] at xb
        have HX1 := hideg hx1
        have HX2 := hideg hx2
        have hAi : (A : Int) < (g.lives.length : Int) := by omega
        have hBi : (B : Int) < (g.lives.length : Int) := by omega
        have HNo : Hid (¬ (x1 ≤ d ∧ ar < x2) → erGo (er0 g (V : Int) t) (rides.take (k + 1)) = (T, L)) := by
          intro h
          rw [HT.out]
          unfold erT erL
          simp only [Int.toNat_natCast]
          rw [← HX1.out, ← HX2.out, if_neg h, if_neg h]
        have HYes : Hid (x1 ≤ d ∧ ar < x2 → erGo (er0 g (V : Int) t) (rides.take (k + 1)) = (T.set B ar, L.set B (E, d, (A : Int), (B : Int), ar, c))) := by
          intro h
          rw [HT.out]
          unfold erT erL
          simp only [Int.toNat_natCast]
          rw [← HX1.out, ← HX2.out, if_pos h, if_pos h]
        have HSn : Hid (¬ (x1 ≤ d ∧ ar < x2) → ∀ N, ErSt w (wa.drewN N) M1 M2 M3 g.lives.length (.slice (some ⟨rb, 0, none⟩) rides.length cap) rides (erGo (er0 g (V : Int) t) (rides.take (k + 1))).1 (erGo (er0 g (V : Int) t) (rides.take (k + 1))).2) := by
          intro h N
          rw [HNo.out h]
          exact HSa.out.below (below_drewN (Below.refl _ _) N)
        clear hx1 hx2 HT HNo
        by_cases q1 : x1 ≤ d
        · have d1 : decide (x1 ≤ d) = true := by simpa using q1
          by_cases q2 : ar < x2
          · have d2 : decide (ar < x2) = true := by simpa using q2
            have HE2 := hideg (HYes.out ⟨q1, q2⟩)
            have hne1 : wr.heap.size ≠ M1 := by have := HS0.out.1; omega
            have hne2 : wr.heap.size ≠ M2 := by have := HS0.out.2; omega
            have HSet := hideg (fun (W : World) (h : ErSt w W M1 M2 M3 g.lives.length (.slice (some ⟨rb, 0, none⟩) rides.length cap) rides T L) => h.set h12 h23 hB ar (E, d, (A : Int), (B : Int), ar, c))
            clear HSn HYes
            go_wp2_with fail
            go_quiet (fail)
            clear xa xb q1 q2 d1 d2 c0 c1 c2 c3 c4 c5
            go_wp2_with fail
            refine Go.wp_region_held (S := fun w3 => w3.cell? ⟨wr.heap.size, 0, none⟩ = some (.int .i64 E) ∧ w3.cell? ⟨wr.heap.size, 1, none⟩ = some (.int .i64 d) ∧ w3.cell? ⟨wr.heap.size, 2, none⟩ = some (.int .i64 (A : Int)) ∧ w3.cell? ⟨wr.heap.size, 3, none⟩ = some (.int .i64 (B : Int)) ∧ w3.cell? ⟨wr.heap.size, 4, none⟩ = some (.int .i64 ar) ∧ w3.cell? ⟨wr.heap.size, 5, none⟩ = some (.int .i64 c)) (by kernel_rfl) ?_
            generalize hw8 : ({ wa.drewN nq with drawn := (wa.drewN nq).drawn + 1 } : World) = w8
            have S8 : ErSt w w8 M1 M2 M3 g.lives.length (.slice (some ⟨rb, 0, none⟩) rides.length cap) rides T L := by rw [← hw8]; exact HSa.out.below (below_drewN (Below.refl _ _) (nq + 1))
            have hS0 : w8.cell? ⟨wr.heap.size, 0, none⟩ = some (.int .i64 E) ∧ w8.cell? ⟨wr.heap.size, 1, none⟩ = some (.int .i64 d) ∧ w8.cell? ⟨wr.heap.size, 2, none⟩ = some (.int .i64 (A : Int)) ∧ w8.cell? ⟨wr.heap.size, 3, none⟩ = some (.int .i64 (B : Int)) ∧ w8.cell? ⟨wr.heap.size, 4, none⟩ = some (.int .i64 ar) ∧ w8.cell? ⟨wr.heap.size, 5, none⟩ = some (.int .i64 c) := by rw [← hw8]; exact ⟨y0, y1, y2, y3, y4, y5⟩
            clear hw8 y0 y1 y2 y3 y4 y5
            refine take_lit (i := 0) (v := ?_) rfl (by kernel_rfl) (by kernel_rfl) (by kernel_rfl) (fun _ _ _ h => h) (Or.inl ⟨by rfl, ?hy0⟩) (by assumption) ?_
            case hy0 => (intro w hSw; (try dsimp only at hSw); go_simp; try with_reducible rfl)
            try simp only [Act.put, List.setIfInBounds_toArray, List.set_cons_zero, List.set_cons_succ]
            refine take_lit (i := 1) (v := ?_) rfl (by kernel_rfl) (by kernel_rfl) (by kernel_rfl) (fun _ _ _ h => h) (Or.inl ⟨by rfl, ?hy1⟩) (by assumption) ?_
            case hy1 => (intro w hSw; (try dsimp only at hSw); go_simp; try with_reducible rfl)
            try simp only [Act.put, List.setIfInBounds_toArray, List.set_cons_zero, List.set_cons_succ]
            refine take_lit (i := 2) (v := ?_) rfl (by kernel_rfl) (by kernel_rfl) (by kernel_rfl) (fun _ _ _ h => h) (Or.inl ⟨by rfl, ?hy2⟩) (by assumption) ?_
            case hy2 => (intro w hSw; (try dsimp only at hSw); go_simp; try with_reducible rfl)
            try simp only [Act.put, List.setIfInBounds_toArray, List.set_cons_zero, List.set_cons_succ]
            refine take_lit (i := 3) (v := ?_) rfl (by kernel_rfl) (by kernel_rfl) (by kernel_rfl) (fun _ _ _ h => h) (Or.inl ⟨by rfl, ?hy3⟩) (by assumption) ?_
            case hy3 => (intro w hSw; (try dsimp only at hSw); go_simp; try with_reducible rfl)
            try simp only [Act.put, List.setIfInBounds_toArray, List.set_cons_zero, List.set_cons_succ]
            refine take_lit (i := 4) (v := ?_) rfl (by kernel_rfl) (by kernel_rfl) (by kernel_rfl) (fun _ _ _ h => h) (Or.inl ⟨by rfl, ?hy4⟩) (by assumption) ?_
            case hy4 => (intro w hSw; (try dsimp only at hSw); go_simp; try with_reducible rfl)
            try simp only [Act.put, List.setIfInBounds_toArray, List.set_cons_zero, List.set_cons_succ]
            refine take_lit (i := 5) (v := ?_) rfl (by kernel_rfl) (by kernel_rfl) (by kernel_rfl) (fun _ _ _ h => h) (Or.inl ⟨by rfl, ?hy5⟩) (by assumption) ?_
            case hy5 => (intro w hSw; (try dsimp only at hSw); go_simp; try with_reducible rfl)
            try simp only [Act.put, List.setIfInBounds_toArray, List.set_cons_zero, List.set_cons_succ]
            refine take_lit (i := 6) (v := ?_) rfl (by kernel_rfl) (by kernel_rfl) (by kernel_rfl) (fun _ _ _ h => h) (Or.inl ⟨by rfl, ?hy6⟩) (by assumption) ?_
            case hy6 => (intro w hSw; (try dsimp only at hSw); go_simp; try with_reducible rfl)
            try simp only [Act.put, List.setIfInBounds_toArray, List.set_cons_zero, List.set_cons_succ]
            refine take_lit (i := 7) (v := ?_) rfl (by kernel_rfl) (by kernel_rfl) (by kernel_rfl) (fun _ _ _ h => h) (Or.inl ⟨by rfl, ?hy7⟩) (by assumption) ?_
            case hy7 => (intro w hSw; (try dsimp only at hSw); go_simp; try with_reducible rfl)
            try simp only [Act.put, List.setIfInBounds_toArray, List.set_cons_zero, List.set_cons_succ]
            refine take_lit (i := 8) (v := ?_) rfl (by kernel_rfl) (by kernel_rfl) (by kernel_rfl) (fun _ _ _ h => h) (Or.inl ⟨by rfl, ?hy8⟩) (by assumption) ?_
            case hy8 => (intro w hSw; (try dsimp only at hSw); go_simp; try with_reducible rfl)
            try simp only [Act.put, List.setIfInBounds_toArray, List.set_cons_zero, List.set_cons_succ]
            refine take_lit (i := 9) (v := ?_) rfl (by kernel_rfl) (by kernel_rfl) (by kernel_rfl) (fun _ _ _ h => h) (Or.inl ⟨by rfl, ?hy9⟩) (by assumption) ?_
            case hy9 => (intro w hSw; (try dsimp only at hSw); go_simp; try with_reducible rfl)
            try simp only [Act.put, List.setIfInBounds_toArray, List.set_cons_zero, List.set_cons_succ]
            refine next_lit (i := 10) rfl (by kernel_rfl) (fun K hK => ?_)
            have fB := World.ownsRow.frozenAt S8.t B
            have xB := Zo.cell S8.t hB
            go_simp
            have hS9 : (w8.setCell ⟨M1, B, none⟩ (.int .i64 ar)).cell? ⟨wr.heap.size, 0, none⟩ = some (.int .i64 E) ∧ (w8.setCell ⟨M1, B, none⟩ (.int .i64 ar)).cell? ⟨wr.heap.size, 1, none⟩ = some (.int .i64 d) ∧ (w8.setCell ⟨M1, B, none⟩ (.int .i64 ar)).cell? ⟨wr.heap.size, 2, none⟩ = some (.int .i64 (A : Int)) ∧ (w8.setCell ⟨M1, B, none⟩ (.int .i64 ar)).cell? ⟨wr.heap.size, 3, none⟩ = some (.int .i64 (B : Int)) ∧ (w8.setCell ⟨M1, B, none⟩ (.int .i64 ar)).cell? ⟨wr.heap.size, 4, none⟩ = some (.int .i64 ar) ∧ (w8.setCell ⟨M1, B, none⟩ (.int .i64 ar)).cell? ⟨wr.heap.size, 5, none⟩ = some (.int .i64 c) := by
              rw [cellFar hne1, cellFar hne1, cellFar hne1, cellFar hne1, cellFar hne1, cellFar hne1]; exact hS0
            refine hK.out _ _ hS9 (fun _ => ?_)
            clear hK K fB xB
            try simp only [Act.put, List.setIfInBounds_toArray, List.set_cons_zero, List.set_cons_succ]
            refine take_lit (i := 11) (v := ?_) rfl (by kernel_rfl) (by kernel_rfl) (by kernel_rfl) (fun _ _ _ h => h) (Or.inl ⟨by rfl, ?hy11⟩) (by assumption) ?_
            case hy11 => (intro w hSw; (try dsimp only at hSw); go_simp; try with_reducible rfl)
            try simp only [Act.put, List.setIfInBounds_toArray, List.set_cons_zero, List.set_cons_succ]
            refine next_lit (i := 12) rfl (by kernel_rfl) (fun K hK => ?_)
            have l9 := ownsRow_setCell_other S8.l (a := ⟨M1, B, none⟩) (by simp [Value.ownBlock]; omega) (.int .i64 ar)
            have l5 := Ro.one l9 hB
            have fL := fun j => World.ownsRow.frozenAt l9 j
            have z0 := l5.c0
            have z1 := l5.c1
            have z2 := l5.c2
            have z3 := l5.c3
            have z4 := l5.c4
            have z5 := l5.c5
            have hS10 := HSet.out _ S8
            clear l5 l9
            unfold setR at hS10
            simp only at hS10
            generalize w8.setCell ⟨M1, B, none⟩ (.int .i64 ar) = w9 at *
            go_simp
            refine hK.out _ _ (by simp only [cellFar hne2]; exact hS9) (fun _ => ?_)
            clear hK K z0 z1 z2 z3 z4 z5 fL hS0 hS9
            refine wpAnyH_done (by kernel_rfl) ?_ _
            generalize (((((w9.setCell ⟨M2, B * 6, none⟩ (.int .i64 E)).setCell ⟨M2, B * 6 + 1, none⟩ (.int .i64 d)).setCell ⟨M2, B * 6 + 2, none⟩ (.int .i64 (A : Int))).setCell ⟨M2, B * 6 + 3, none⟩ (.int .i64 (B : Int))).setCell ⟨M2, B * 6 + 4, none⟩ (.int .i64 ar)).setCell ⟨M2, B * 6 + 5, none⟩ (.int .i64 c) = w10 at *
            have HS10 : Hid (ErSt w w10 M1 M2 M3 g.lives.length (.slice (some ⟨rb, 0, none⟩) rides.length cap) rides (erGo (er0 g (V : Int) t) (rides.take (k + 1))).1 (erGo (er0 g (V : Int) t) (rides.take (k + 1))).2) := by rw [HE2.out]; exact hS10
            clear hS10 S8 HE2
            go_wp2
            go_roundw
            case rel => exact ⟨k + 1, by omega, by go_num, HS10.out⟩
            case measure => simp [intOf]; omega
          · have d2 : decide (ar < x2) = false := by simpa using q2
            have HS2 := hideg (HSn.out (fun h => q2 h.2))
            clear HSn HYes
            go_wp2_with fail
            go_quiet (fail)
            clear xa xb c0 c1 c2 c3 c4 c5 y0 y1 y2 y3 y4 y5 hwas q1 q2 d1 d2
            go_wp2
            go_roundw
            case rel => exact ⟨k + 1, by omega, by go_num, HS2.out _⟩
            case measure => simp [intOf]; omega
        · have d1 : decide (x1 ≤ d) = false := by simpa using q1
          have HS2 := hideg (HSn.out (fun h => q1 h.1))
          clear HSn HYes
          go_wp2_with fail
          go_quiet (fail)
          clear xa xb c0 c1 c2 c3 c4 c5 y0 y1 y2 y3 y4 y5 hwas q1 d1
          go_wp2
          go_roundw
          case rel => exact ⟨k + 1, by omega, by go_num, HS2.out _⟩
          case measure => simp [intOf]; omega
      · have hke : rides.length = k := by omega
        subst hke
        rw [List.take_length, ← HE.out] at S
        have HS := hideg S
        clear S
        go_wp2
        (try simp only [Exit.inBlock, Exit.then]); refine bodyPost_ret (results_two_e rfl _ _ _) rfl ?_
        exact ⟨_, _, rfl, HS.out.t, HS.out.l, HS.out.b⟩

end Go.Proofs.Ytkgbgkcbflicmac

namespace Go.Proofs.Ytkgbgkcbflicmac
open Go.RowKit

theorem ltGo_take {T : List Int} {l : List Ri} {k : Nat} (hk : k < l.length) : ltGo T (l.take (k + 1)) = ltT (ltGo T (l.take k)) l[k] := by
  unfold ltGo; rw [List.take_succ_eq_append_getElem hk, List.foldl_append]; rfl
/-- what latest holds while it looks at the rides -/
structure LtSt (w0 w : World) (m1 m3 n : Nat) (u : Value) (rides : List Ri) (T : List Int) : Prop where
  t : Zo w w0.heap.size m1 n n T
  r : w.ownsRow m3 66 6 u rides.length (encRs rides)
  b : Below w0.heap.size w0 w
theorem LtSt.below {w0 w w' : World} {m1 m3 n : Nat} {u : Value} {rides : List Ri} {T : List Int} (h : LtSt w0 w m1 m3 n u rides T) (hb : Below w.heap.size w w') : LtSt w0 w' m1 m3 n u rides T :=
  ⟨ownsRow_below h.t hb, ownsRow_below h.r hb, h.b.trans (hb.mono h.b.size)⟩
theorem LtSt.set {w0 w : World} {m1 m3 n : Nat} {u : Value} {rides : List Ri} {T : List Int} (h : LtSt w0 w m1 m3 n u rides T) (h13 : m1 < m3) (k : Nat) (x : Int) : LtSt w0 (w.setCell ⟨m1, k, none⟩ (.int .i64 x)) m1 m3 n u rides (T.set k x) := by
  have hm1 : w0.heap.size ≤ m1 := (World.ownsRow.lt h.t m1 rfl).1
  have hu : u.ownBlock ≠ some m1 := own_none fun k hk => Nat.lt_of_lt_of_le h13 (World.ownsRow.lt h.r k hk).1
  exact ⟨Zo.set h.t k x, ownsRow_setCell_other h.r hu _, h.b.setCell (p := ⟨m1, k, none⟩) hm1 _⟩
theorem LtSt.ride {w0 w : World} {m1 m3 n : Nat} {u : Value} {rides : List Ri} {T : List Int} (h : LtSt w0 w m1 m3 n u rides T) {k : Nat} (hk : k < rides.length) : ∃ rb cap, u = .slice (some ⟨rb, 0, none⟩) rides.length cap ∧ rb < w.heap.size ∧ RdOne w rb (k * 6) (rides.getD k ri0) := by
  have hr := h.r
  rcases hr.2 with ⟨_, h0⟩ | ⟨rb, cap, cur, e, _, hh, _⟩
  · omega
  · rw [e] at hr
    exact ⟨rb, cap, e, (Array.getElem?_eq_some_iff.1 hh).1, Ro.one hr hk⟩

/-- what Arrivals and Departures answer -/
def arrA (g : Gr) (v t : Int) : List Int := if placeE g v t = 0 then (erF g v t).1 else []
def depA (g : Gr) (v t : Int) : List Int := if placeE g v t = 0 then ltF g v t else []

end Go.Proofs.Ytkgbgkcbflicmac

namespace Go.Proofs.Ytkgbgkcbflicmac
open Go.RowKit

/-- the first k and the last k of a list are turned round -/
def RevTo (l m : List Hp) (k : Nat) : Prop := m.length = l.length ∧ ∀ x, x < l.length → m.getD x (0, 0) = if x < k ∨ l.length ≤ x + k then l.getD (l.length - 1 - x) (0, 0) else l.getD x (0, 0)
theorem revTo_zero (l : List Hp) : RevTo l l 0 := ⟨rfl, fun x hx => by rw [if_neg (by omega)]⟩
theorem getD_setH (T : List Hp) (i j : Nat) (x d : Hp) (h : i < T.length) : (T.set i x).getD j d = if j = i then x else T.getD j d := by
  simp only [List.getD_eq_getElem?_getD, List.getElem?_set]
  by_cases e : i = j
  · subst e; simp [h]
  · have : ¬ j = i := fun h => e h.symm
    simp [e, this]
theorem revTo_step {l m : List Hp} {k J : Nat} (h : RevTo l m k) (hJ : J = l.length - 1 - k) (hk : k < J) : RevTo l ((m.set k (m.getD J (0, 0))).set J (m.getD k (0, 0))) (k + 1) := by
  have hl := h.1
  refine ⟨by simp [hl], fun x hx => ?_⟩
  rw [getD_setH _ _ _ _ _ (by simp [hl]; omega), getD_setH _ _ _ _ _ (by omega)]
  by_cases e1 : x = J
  · rw [if_pos e1, h.2 k (by omega), if_neg (by omega), if_pos (by omega)]
    congr 1; omega
  · rw [if_neg e1]
    by_cases e2 : x = k
    · rw [if_pos e2, h.2 J (by omega), if_neg (by omega), if_pos (by omega)]
      congr 1; omega
    · rw [if_neg e2, h.2 x hx]
      by_cases e3 : x < k ∨ l.length ≤ x + k
      · rw [if_pos e3, if_pos (by omega)]
      · rw [if_neg e3, if_neg (by omega)]
theorem revTo_end {l m : List Hp} {k : Nat} (h : RevTo l m k) (hk : l.length ≤ k + k + 1) : m = l.reverse := by
  apply List.ext_getElem (by simp [h.1])
  intro x h1 h2
  have hx : x < l.length := by rw [← h.1]; exact h1
  have := h.2 x hx
  rw [List.getD_eq_getElem?_getD, List.getElem?_eq_getElem h1, Option.getD_some] at this
  rw [this, List.getElem_reverse]
  have e : ∀ y (hy : y < l.length), l.getD y (0, 0) = l[y] := fun y hy => by rw [List.getD_eq_getElem?_getD, List.getElem?_eq_getElem hy]; rfl
  split
  · exact e _ (by omega)
  · rw [e x hx]
    congr 1
    omega
theorem encs_cons (x : Hp) (l : List Hp) : encs (x :: l) = .int .i64 x.1 :: .int .i64 x.2 :: encs l := by simp [encs, flat]
theorem encs_set : ∀ (m : List Hp) (k : Nat) (q : Hp), k < m.length → ((encs m).set (k * 2) (.int .i64 q.1)).set (k * 2 + 1) (.int .i64 q.2) = encs (m.set k q)
  | [], k, q, h => by simp at h
  | x :: m, 0, q, _ => by
    have e : (x :: m).set 0 q = q :: m := rfl
    rw [e, encs_cons, encs_cons]; rfl
  | x :: m, k + 1, q, h => by
    have ih := encs_set m k q (by simpa using h)
    have e : (x :: m).set (k + 1) q = x :: m.set k q := rfl
    rw [e, encs_cons, encs_cons, ← ih, show (k + 1) * 2 = k * 2 + 1 + 1 from by omega]
    rfl
/-- a row of hops, in memory of the call's own -/
abbrev Ho (w : World) (base gb n cap : Nat) (x : List Hp) : Prop := w.ownsRow base 48 2 (.slice (some ⟨gb, 0, none⟩) n cap) n (encs x)
theorem encs_len (l : List Hp) : (encs l).length = l.length * 2 := by
  induction l with
  | nil => rfl
  | cons x l ih => rw [encs_cons]; simp only [List.length_cons, ih]; omega
theorem Ho.len {w : World} {base gb n cap : Nat} {x : List Hp} (h : Ho w base gb n cap x) : x.length = n := by have := h.1; rw [encs_len] at this; omega
theorem encs_get (l : List Hp) (j : Nat) (h : j < l.length) : (encs l)[j * 2]? = some (.int .i64 (l.getD j (0, 0)).1) ∧ (encs l)[j * 2 + 1]? = some (.int .i64 (l.getD j (0, 0)).2) := by
  induction l generalizing j with
  | nil => simp at h
  | cons c l ih =>
    rw [encs_cons]
    cases j with
    | zero => exact ⟨rfl, rfl⟩
    | succ j =>
      have := ih j (by simpa using h)
      rw [show (j + 1) * 2 = j * 2 + 1 + 1 by omega]
      simpa using this
theorem Ho.one {w : World} {base gb n cap : Nat} {x : List Hp} (h : Ho w base gb n cap x) {k : Nat} (hk : k < n) : w.cell? ⟨gb, k * 2, none⟩ = some (.int .i64 (x.getD k (0, 0)).1) ∧ w.cell? ⟨gb, k * 2 + 1, none⟩ = some (.int .i64 (x.getD k (0, 0)).2) := by
  have hl := h.len
  obtain ⟨f0, f1⟩ := encs_get x k (by omega)
  exact ⟨by rw [World.ownsRow.cellAt h (k * 2) (by omega)]; exact f0, by rw [World.ownsRow.cellAt h (k * 2 + 1) (by omega)]; exact f1⟩
theorem Ho.set {w : World} {base gb n cap : Nat} {x : List Hp} (h : Ho w base gb n cap x) {k : Nat} (hk : k < n) (q : Hp) : Ho ((w.setCell ⟨gb, k * 2, none⟩ (.int .i64 q.1)).setCell ⟨gb, k * 2 + 1, none⟩ (.int .i64 q.2)) base gb n cap (x.set k q) := by
  have hl := h.len
  have h5 := (World.ownsRow.stored ((World.ownsRow.stored h (k * 2) (.int .i64 q.1)).1) (k * 2 + 1) (.int .i64 q.2)).1
  rw [encs_set x k q (by omega)] at h5
  exact h5

set_option maxRecDepth 100000 in
set_option maxHeartbeats 1000000 in
theorem Reverse_any (base gb cap : Nat) (l : List Hp) (w : World) (h : Ho w base gb l.length cap l) (hl : l.length ≤ 4000) :
    Calls Try.prog 33 #[.slice (some ⟨gb, 0, none⟩) l.length cap] w fun r w' => (∃ v, r = .returned v) ∧ Ho w' base gb l.length cap l.reverse ∧ Below base w w' := by
  have hbg : base ≤ gb := (World.ownsRow.lt h _ rfl).1
  have hwl : IntKind.i64.wrap ((l.length : Int) - 1) = (l.length : Int) - 1 := wrap_nj _ (by omega) (by omega)
  have HH := hideg h
  clear h
  go_enter Try.func33, Try.ntmps33
  go_wp2_with fail
  go_loopw [2, 3] (fun i j wr => ∃ (k : Nat) (m : List Hp), k ≤ l.length ∧ i = .int .i64 k ∧ j = .int .i64 ((l.length : Int) - 1 - (k : Int)) ∧ RevTo l m k ∧ Ho wr base gb l.length cap m ∧ Below base w wr) (fun i j _ => (intOf j + 1 - intOf i).toNat)
  case atStart => exact ⟨0, l, Nat.zero_le _, rfl, by simp, revTo_zero l, HH.out, Below.refl _ _⟩
  case round =>
    clear HH hwl
    obtain ⟨k, m, hk, rfl, rfl, hR, hO, hb⟩ := hrel
    have hml := hO.len
    by_cases hkJ : (k : Int) < (l.length : Int) - 1 - (k : Int)
    · obtain ⟨J, hJ⟩ : ∃ J : Nat, J = l.length - 1 - k := ⟨_, rfl⟩
      have hJi : (l.length : Int) - 1 - (k : Int) = (J : Int) := by omega
      have HJn : Hid ((J : Int) - 1 = (l.length : Int) - 1 - ((k + 1 : Nat) : Int)) := by show _ = _; omega
      have hkJn : k < J := by omega
      have hkl : k < l.length := by omega
      have hJl : J < l.length := by omega
      rw [hJi] at hkJ ⊢
      have HR2 := hideg (revTo_step hR hJ hkJn)
      have hO1 := hideg (fun (p q : Hp) => (hO.set hkl p).set hJl q)
      obtain ⟨ck0, ck1⟩ := hO.one hkl
      obtain ⟨cj0, cj1⟩ := hO.one hJl
      have fz := fun j => World.ownsRow.frozenAt hO j
      have hkli : (k : Int) < (l.length : Int) := by omega
      have hJli : (J : Int) < (l.length : Int) := by omega
      have hw1 : IntKind.i64.wrap ((k : Int) + 1) = (k : Int) + 1 := wrap_nj _ (by omega) (by omega)
      have hw2 : IntKind.i64.wrap ((J : Int) - 1) = (J : Int) - 1 := wrap_nj _ (by omega) (by omega)
      generalize m.getD k (0, 0) = P at *
      generalize m.getD J (0, 0) = Q at *
      clear hJ hJi hR
      have hBel : Hid (∀ x y z v, Below base w ((((wr.setCell ⟨gb, k * 2, none⟩ x).setCell ⟨gb, k * 2 + 1, none⟩ y).setCell ⟨gb, J * 2, none⟩ z).setCell ⟨gb, J * 2 + 1, none⟩ v).drew) := fun x y z v => ((((hb.setCell (p := ⟨gb, k * 2, none⟩) hbg x).setCell (p := ⟨gb, k * 2 + 1, none⟩) hbg y).setCell (p := ⟨gb, J * 2, none⟩) hbg z).setCell (p := ⟨gb, J * 2 + 1, none⟩) hbg v).drew
      obtain ⟨p1, p2⟩ := P
      obtain ⟨q1, q2⟩ := Q
      simp only at ck0 ck1 cj0 cj1 HR2
      go_wp2_with fail
      go_region
      have HF : Hid (Ho ((((wr.setCell ⟨gb, k * 2, none⟩ (.int .i64 q1)).setCell ⟨gb, k * 2 + 1, none⟩ (.int .i64 q2)).setCell ⟨gb, J * 2, none⟩ (.int .i64 p1)).setCell ⟨gb, J * 2 + 1, none⟩ (.int .i64 p2)).drew base gb l.length cap ((m.set k (q1, q2)).set J (p1, p2)) ∧ Below base w ((((wr.setCell ⟨gb, k * 2, none⟩ (.int .i64 q1)).setCell ⟨gb, k * 2 + 1, none⟩ (.int .i64 q2)).setCell ⟨gb, J * 2, none⟩ (.int .i64 p1)).setCell ⟨gb, J * 2 + 1, none⟩ (.int .i64 p2)).drew) := ⟨(hO1.out (q1, q2) (p1, p2)).drew, hBel.out _ _ _ _⟩
      clear hO1 hBel hO fz ck0 ck1 cj0 cj1
      generalize ((((wr.setCell ⟨gb, k * 2, none⟩ (.int .i64 q1)).setCell ⟨gb, k * 2 + 1, none⟩ (.int .i64 q2)).setCell ⟨gb, J * 2, none⟩ (.int .i64 p1)).setCell ⟨gb, J * 2 + 1, none⟩ (.int .i64 p2)).drew = w9 at *
      go_wp2
      go_roundw
      case rel => exact ⟨k + 1, _, by omega, by go_num, by rw [← HJn.out], HR2.out, HF.out.1, HF.out.2⟩
      case measure => simp [intOf] <;> omega
    · have hend : l.length ≤ k + k + 1 := by omega
      have HE : Hid (Ho wr base gb l.length cap l.reverse) := by rw [← revTo_end hR hend]; exact hO
      have hnk : ¬ (k : Int) < (l.length : Int) - 1 - (k : Int) := hkJ
      clear hR hO hend
      go_wp2_with fail
      refine bodyPost_end (results_none rfl _ _ _) rfl ⟨⟨_, rfl⟩, HE.out, hb⟩

set_option maxRecDepth 100000 in
theorem Reverse_nil (w : World) : Calls Try.prog 33 #[.slice none 0 0] w fun r w' => (∃ v, r = .returned v) ∧ w' = w := by
  go_enter Try.func33, Try.ntmps33
  go_wp2_with fail
  go_loopw [2, 3] (fun i j wr => i = .int .i64 0 ∧ j = .int .i64 (-1) ∧ wr = w) (fun i j _ => (intOf j + 1 - intOf i).toNat)
  case atStart => exact ⟨rfl, by simp, rfl⟩
  case round =>
    obtain ⟨rfl, rfl, rfl⟩ := hrel
    go_wp2_with fail
    refine bodyPost_end (results_none rfl _ _ _) rfl ⟨⟨_, rfl⟩, rfl⟩

end Go.Proofs.Ytkgbgkcbflicmac

namespace Go.Proofs.Ytkgbgkcbflicmac
open Go.RowKit

theorem Try.infoHopE : (Try.prog.info? 48).map (fun i => (i.zero, i.size, i.bytes)) = some (some (.agg #[.int .i64 0, .int .i64 0]), 2, 16) := by kernel_rfl
/-- the way back from a vertex, along the last rides: hop by hop -/
def trF (L : List Ri) (v : Int) : Nat → Int → List Hp
  | 0, _ => []
  | f + 1, x => if x = v then [] else ((L.getD x.toNat (0, 0, 0, 0, 0, 0)).1, (L.getD x.toNat (0, 0, 0, 0, 0, 0)).2.1) :: trF L v f (L.getD x.toNat (0, 0, 0, 0, 0, 0)).2.2.1
theorem trF_at (L : List Ri) (v : Int) (f : Nat) : trF L v f v = [] := by cases f <;> simp [trF]
theorem trF_step (L : List Ri) {v x : Int} (f : Nat) (h : x ≠ v) : trF L v (f + 1) x = ((L.getD x.toNat (0, 0, 0, 0, 0, 0)).1, (L.getD x.toNat (0, 0, 0, 0, 0, 0)).2.1) :: trF L v f (L.getD x.toNat (0, 0, 0, 0, 0, 0)).2.2.1 := by rw [trF, if_neg h]
/-- what Way tells -/
def WayIs (g : Gr) (v t q e : Int) (l : List Hp) : Prop :=
  (placeE g v t ≠ 0 ∧ e = placeE g v t ∧ l = []) ∨
  (placeE g v t = 0 ∧ (¬ (0 ≤ q ∧ q < g.lives.length) ∨ (erF g v t).1.getD q.toNat 0 = 1099511627776) ∧ e = 4 ∧ l = []) ∨
  (placeE g v t = 0 ∧ (0 ≤ q ∧ q < g.lives.length) ∧ (erF g v t).1.getD q.toNat 0 ≠ 1099511627776 ∧ e = 0 ∧ WayTo g (erF g v t).1 v q l ∧ l = (trF (erF g v t).2 v 300 q).reverse)

set_option maxRecDepth 100000 in
set_option maxHeartbeats 400000 in
theorem eWay_any (g : Gr) (la ea : Option Addr) (lc ec : Nat) (v t q : Int) (w : World) (hG : GAt w la ea g) :
    Calls Try.prog 16 #[.agg #[.int .i64 g.hor, .slice la g.lives.length lc, .slice ea g.edges.length ec], .int .i64 v, .int .i64 t, .int .i64 q] w fun r w' => ∃ u e l, r = .returned (.tuple #[u, .int .i64 e]) ∧ WayIs g v t q e l ∧ w'.ownsRow w.heap.size 48 2 u l.length (encs l) ∧ Below w.heap.size w w' := by
  obtain ⟨i0, hi, hz0, hz1, hz2⟩ := info_parts Try.infoHopE
  have B0 := gbx_start w g la ea lc ec 25
  have h1 := jcheck_any g la ea lc ec v t _ (hG.below B0.bel)
  by_cases e1 : placeE g v t = 0
  case neg =>
    have HP : Hid (WayIs g v t q (placeE g v t) []) := .inl ⟨e1, rfl, rfl⟩
    have d1 : (placeE g v t != 0) = true := by simpa using e1
    generalize placeE g v t = n at *
    clear e1 hG
    go_enter Try.func16, Try.ntmps16
    go_wp2_with fail
    refine h1.mono ?_
    rintro r w1 ⟨rfl, hb1⟩
    have hbF := (B0.below hb1).bel
    clear h1 hb1 B0
    go_wp2
    (try simp only [Exit.inBlock, Exit.then]); refine bodyPost_ret (results_two_e rfl _ _ _) rfl ?_
    exact ⟨_, _, _, rfl, HP.out, World.ownsRow_nil _ _ _ _, hbF⟩
  have HP2 : Hid ((¬ (0 ≤ q ∧ q < g.lives.length) ∨ (erF g v t).1.getD q.toNat 0 = 1099511627776) → WayIs g v t q 4 []) := fun h => .inr (.inl ⟨e1, h, rfl, rfl⟩)
  have HP3 : Hid ((0 ≤ q ∧ q < g.lives.length) → (erF g v t).1.getD q.toNat 0 ≠ 1099511627776 → ∀ l, WayTo g (erF g v t).1 v q l → l = (trF (erF g v t).2 v 300 q).reverse → WayIs g v t q 0 l) := fun h1 h2 l h h' => .inr (.inr ⟨e1, h1, h2, rfl, h, h'⟩)
  have h2 := fun W (hb : Below w.heap.size w W) => earliest_any g la ea lc ec v t W (hG.below hb) e1
  obtain ⟨hg0, ⟨hv0, hv1⟩, ht0, ht1⟩ := placeE_zero e1
  have hR := gChk_right hg0
  have hn12 := hR.lvs
  have hhor := hR.hor
  have HEr : Hid (aliveB t g.lives v = true → ErOk g v t (erF g v t)) := fun ha => (erF_ok hR hv0 ha).1
  have HAw : Hid (¬ aliveB t g.lives v = true → (erF g v t).1 = List.replicate g.lives.length 1099511627776) := fun ha => erF_away ha
  rw [e1] at h1
  have HRt := hideg hR
  clear hG e1 hg0 hR
  have hq3 : q < 0 ∨ (¬ q < 0 ∧ (g.lives.length : Int) ≤ q) ∨ (¬ q < 0 ∧ ¬ (g.lives.length : Int) ≤ q) := by omega
  rcases hq3 with q1 | ⟨q1, q2⟩ | ⟨q1, q2⟩
  · have HW := hideg (HP2.out (.inl (by omega)))
    clear HP2 HP3 h2 HEr HAw
    go_enter Try.func16, Try.ntmps16
    go_wp2_with fail
    refine h1.mono ?_
    rintro r w1 ⟨rfl, hb1⟩
    have B1 := B0.below hb1
    have g1 := B1.c1
    have hbF := B1.bel
    clear h1 hb1 B0 B1
    go_wp2
    (try simp only [Exit.inBlock, Exit.then]); refine bodyPost_ret (results_two_e rfl _ _ _) rfl ?_
    exact ⟨_, _, _, rfl, HW.out, World.ownsRow_nil _ _ _ _, hbF⟩
  · have HW := hideg (HP2.out (.inl (by omega)))
    clear HP2 HP3 h2 HEr HAw
    go_enter Try.func16, Try.ntmps16
    go_wp2_with fail
    refine h1.mono ?_
    rintro r w1 ⟨rfl, hb1⟩
    have B1 := B0.below hb1
    have g1 := B1.c1
    have hbF := B1.bel
    clear h1 hb1 B0 B1
    go_wp2
    (try simp only [Exit.inBlock, Exit.then]); refine bodyPost_ret (results_two_e rfl _ _ _) rfl ?_
    exact ⟨_, _, _, rfl, HW.out, World.ownsRow_nil _ _ _ _, hbF⟩
  obtain ⟨Y, rfl⟩ : ∃ Y : Nat, q = (Y : Int) := ⟨q.toNat, by omega⟩
  have hY : Y < g.lives.length := by omega
  have hlT := (erF_len g v t).1
  have hlL := (erF_len g v t).2
  simp only [Int.toNat_natCast] at HP2 HP3
  obtain ⟨T, hT⟩ : ∃ T, T = (erF g v t).1 := ⟨_, rfl⟩
  obtain ⟨L, hL⟩ : ∃ L, L = (erF g v t).2 := ⟨_, rfl⟩
  have hTL : erF g v t = (T, L) := by rw [hT, hL]
  rw [← hT] at h2 HP2 HP3 HAw hlT
  rw [← hL] at h2 hlL HP3
  rw [hTL] at HEr
  clear hT hL hTL
  obtain ⟨y, hy⟩ : ∃ y, y = T.getD Y 0 := ⟨_, rfl⟩
  rw [← hy] at HP2 HP3
  by_cases e2 : y = 1099511627776
  · have HW := hideg (HP2.out (.inr e2))
    subst e2
    clear HP2 HP3 HEr HAw
    go_enter Try.func16, Try.ntmps16
    go_wp2_with fail
    refine h1.mono ?_
    rintro r w1 ⟨rfl, hb1⟩
    have B1 := B0.below hb1
    have g0 := B1.c0
    have g1 := B1.c1
    have g2 := B1.c2
    have hbx := B1.bel
    clear h1 hb1 B0
    go_wp2_with fail
    refine (h2 _ hbx).mono ?_
    rintro r w2 ⟨m1, m2, rfl, hZ, _, hb2⟩
    have cY := hZ.cell hY
    rw [← hy] at cY
    have hbF := ptg hbx hb2
    clear h2 hZ hb2 g0 g1 g2 hbx B1 hy
    go_wp2
    (try simp only [Exit.inBlock, Exit.then]); refine bodyPost_ret (results_two_e rfl _ _ _) rfl ?_
    exact ⟨_, _, _, rfl, HW.out, World.ownsRow_nil _ _ _ _, hbF⟩
  have d2 : (y == 1099511627776) = false := by simpa using e2
  have hal : aliveB t g.lives v = true := by
    refine Classical.byContradiction fun h => e2 ?_
    rw [hy, HAw.out h, rep_getD _ _ _ hY]
  have HE := hideg (HEr.out hal)
  have HW := hideg (HP3.out ⟨by omega, by omega⟩ e2)
  have HY : Hid (T.getD Y 0 ≠ 1099511627776) := by rw [← hy]; exact e2
  clear HP2 HP3 HEr HAw hal e2
  obtain ⟨V, rfl⟩ : ∃ V : Nat, v = (V : Int) := ⟨v.toNat, by omega⟩
  go_enter Try.func16, Try.ntmps16
  go_wp2_with fail
  refine h1.mono ?_
  rintro r w1 ⟨rfl, hb1⟩
  have B1 := B0.below hb1
  have g0 := B1.c0
  have g1 := B1.c1
  have g2 := B1.c2
  have hbx := B1.bel
  clear h1 hb1 B0
  go_wp2_with fail
  refine (h2 _ hbx).mono ?_
  rintro r w2 ⟨m1, m2, rfl, hZ, hLr, hb2⟩
  have cY := hZ.cell hY
  rw [← hy] at cY
  have HbF := hideg (ptg hbx hb2)
  have HLr := hideg hLr
  have HS1 := hideg hbx.size
  clear h2 hZ hb2 g0 g1 g2 hbx B1 hy hLr hlT hlL
  go_wp2_with fail
  go_loopw [13, 14] (fun u x wr => ∃ (X : Nat) (l : List Hp), X < g.lives.length ∧ x = .int .i64 X ∧ T.getD X 0 ≠ 1099511627776 ∧ WayTo g T X Y l.reverse ∧ (∀ f, trF L (V : Int) (f + l.length) (Y : Int) = l ++ trF L (V : Int) f (X : Int)) ∧ wr.ownsRow w2.heap.size 48 2 u l.length (encs l) ∧ Below w2.heap.size w2 wr) (fun _ x _ => (T.getD (intOf x).toNat 0).toNat)
  case atStart => exact ⟨Y, [], hY, rfl, HY.out, wayTo_nil g T Y, fun f => rfl, World.ownsRow_nil _ _ _ _, Below.refl _ _⟩
  case round =>
    clear cY d2
    obtain ⟨X, l, hX, rfl, hXi, hW, hTr, hown, hb⟩ := hrel
    have HTr := hideg hTr
    clear hTr
    have hTx : 0 ≤ T.getD X 0 ∧ T.getD X 0 < g.hor := by
      rcases HE.out.is X hX with e | e
      · exact absurd e hXi
      · have := e.place HRt.out (by omega); exact this.2.2
    have hTy : T.getD Y 0 < g.hor := by
      rcases HE.out.is Y hY with e | e
      · exact absurd e HY.out
      · have := e.place HRt.out (by omega); exact this.2.2.2
    have hll : l.length ≤ 200 := by
      have := hW.len
      simp only [Int.toNat_natCast, List.length_reverse] at this
      omega
    by_cases hXV : X = V
    · subst hXV
      have HWl := hideg (HW.out _ hW (by
        have h9 := HTr.out (300 - l.length)
        rw [trF_at, List.append_nil, show 300 - l.length + l.length = 300 by omega] at h9
        rw [h9]))
      have hbF : Below w.heap.size w wr := HbF.out.trans (hb.mono HbF.out.size)
      clear hW hXi hTx hTy
      rcases hown.2 with ⟨hu, h0⟩ | ⟨gb, cap, cur, hu, hgb, hh, h3, h4, h5, h6⟩
      · have hl0 : l = [] := List.eq_nil_of_length_eq_zero h0
        subst hl0
        subst hu
        have hRv := fun W => Reverse_nil W
        clear hown h0
        go_wp2_with fail
        refine (hRv _).mono ?_
        rintro r w5 ⟨⟨vv, rfl⟩, rfl⟩
        clear hRv
        go_wp2
        (try simp only [Exit.inBlock, Exit.then]); refine bodyPost_ret (results_two_e rfl _ _ _) rfl ?_
        exact ⟨_, _, _, rfl, HWl.out, World.ownsRow_nil _ _ _ _, hbF⟩
      · subst hu
        have hRv := Reverse_any w2.heap.size gb cap l wr hown (by omega)
        clear hown hh h6 h5 h3 h4 hgb
        go_wp2_with fail
        refine hRv.mono ?_
        rintro r w5 ⟨⟨vv, rfl⟩, hO5, hb5⟩
        have HO5 : Hid (w5.ownsRow w.heap.size 48 2 (.slice (some ⟨gb, 0, none⟩) l.length cap) l.reverse.length (encs l.reverse)) := by
          rw [List.length_reverse]; exact owns_base2 hO5 HbF.out.size
        have HB5 := hideg (HbF.out.trans ((hb.trans hb5).mono HbF.out.size))
        clear hRv hO5 hb5
        go_wp2
        (try simp only [Exit.inBlock, Exit.then]); refine bodyPost_ret (results_two_e rfl _ _ _) rfl ?_
        exact ⟨_, _, _, rfl, HWl.out, HO5.out, HB5.out⟩
    · have hXVi : ((X : Int) != (V : Int)) = true := by simp; omega
      obtain ⟨rOk, rTo, rAr, rFr⟩ := HE.out.way X hX hXi (by omega)
      simp only at rOk rTo rAr rFr
      have hLx := (HLr.out.one hX)
      unfold ri0 at hLx
      have HTs := hideg (fun f => trF_step L (v := (V : Int)) (x := (X : Int)) f (by omega))
      simp only [Int.toNat_natCast] at HTs
      generalize L.getD X (0, 0, 0, 0, 0, 0) = rr at *
      obtain ⟨E, d, a, b, ar, c⟩ := rr
      simp only at rTo rAr rFr
      have ha0 := rOk.a0
      simp only at ha0
      obtain ⟨A, rfl⟩ : ∃ A : Nat, a = (A : Int) := ⟨a.toNat, by omega⟩
      have hA : A < g.lives.length := by omega
      obtain ⟨hW2, hlt⟩ := hW.cons rOk rTo (by simpa using rAr) (by simpa using rFr)
      simp only [Int.toNat_natCast] at hlt hW2
      have HW2 : Hid (WayTo g T (A : Int) (Y : Int) (l ++ [(E, d)]).reverse) := by rw [List.reverse_append]; exact hW2
      have hAi : T.getD A 0 ≠ 1099511627776 := by omega
      have HTr2 : Hid (∀ f, trF L (V : Int) (f + (l ++ [(E, d)]).length) (Y : Int) = (l ++ [(E, d)]) ++ trF L (V : Int) f (A : Int)) := fun f => by
        have h9 := HTr.out (f + 1)
        have h10 := HTs.out f
        simp only at h10
        rw [h10] at h9
        rw [List.length_append, List.length_singleton, show f + (l.length + 1) = f + 1 + l.length by omega, h9, List.append_assoc]
        rfl
      clear HTs HTr
      have hTA : 0 ≤ T.getD A 0 := by
        rcases HE.out.is A hA with e | e
        · exact absurd e hAi
        · have := e.place HRt.out (by omega); exact this.2.2.1
      have hm2 := (World.ownsRow.lt HLr.out _ rfl).2
      have L5 := hLx.below hm2 hb
      have c0 := L5.c0
      have c1 := L5.c1
      have c2 := L5.c2
      simp only at c0 c1 c2
      have hXi2 : (X : Int) < (g.lives.length : Int) := by omega
      have hXn : (X : Int) ≠ (V : Int) := by omega
      have HBg : Hid (∀ (o : Obj) (w5 : World), (wr.alloc o).grownBy w5 u13.ownBlock → Below w2.heap.size w2 w5) := fun o w5 hgr => (hb.alloc hb.size o).grown hgr (by have := hb.size; simp at this ⊢; omega) (fun k hk => (hown.lt k hk).1)
      have HC : Hid (∀ w5, Below w2.heap.size w2 w5 → w5.cell? ⟨m2, X * 6 + 2, none⟩ = some (.int .i64 (A : Int))) := fun w5 h => (hLx.below hm2 h).c2
      have hs2 := hb.size
      have HT : Hid ((T.getD A 0).toNat < (T.getD X 0).toNat) := by show _ < _; omega
      clear hLx L5 rOk rTo rAr rFr hW hW2 hTy HE
      go_wp2_with (at_builtin; refine stopHereR ?_)
      refine hideg ?_
      refine wpList_append_own _ rfl _ _ 41 rfl w2.heap.size 48 i0 _ 2 16 Try.underlying41 hi hz0 hz1 hz2 rfl (by decide) _ _ _ rfl (World.ownsRow.alloc (w := wr) hown _) ⟨wr.heap.size, 0, none⟩ 1 1 [.int .i64 E, .int .i64 d] rfl rfl (cells_two_new _ _ _ _ _ (by simp)) (by intro u hu; simp at hu; rcases hu with rfl | rfl <;> rfl) (by unfold maxLen; omega) (by omega) (by simp; omega) ?_
      intro v' w5 hown5 hgrow _
      have hb' := HBg.out _ _ hgrow
      have c2' := HC.out _ hb'
      have R5 : w5.ownsRow w2.heap.size 48 2 v' (l ++ [(E, d)]).length (encs (l ++ [(E, d)])) := by
        rw [show encs (l ++ [(E, d)]) = encs l ++ [.int .i64 E, .int .i64 d] from by simp [encs, flat], List.length_append]; exact hown5
      have HR5 := hideg R5
      clear hgrow hown5 c0 c1 c2 HBg HC R5
      go_wp2
      go_roundw
      case rel => exact ⟨A, _, hA, rfl, hAi, HW2.out, HTr2.out, HR5.out, hb'⟩
      case measure => simpa [intOf] using HT.out

end Go.Proofs.Ytkgbgkcbflicmac

namespace Go.Proofs.Ytkgbgkcbflicmac
open Go.RowKit

theorem Try.infoInts : (Try.prog.info? 28).map (fun i => (i.zero, i.size, i.bytes)) = some (some (.slice none 0 0), 1, 24) := by kernel_rfl

/-- the block of row v -/
def bk (bl : List (Nat × Nat)) (v : Nat) : Nat := (bl.getD v (0, 0)).1
def ck (bl : List (Nat × Nat)) (v : Nat) : Nat := (bl.getD v (0, 0)).2
/-- the slices of some rows -/
def sls (h : Nat) (bl : List (Nat × Nat)) : List Value := bl.map fun p => .slice (some ⟨p.1, 0, none⟩) h p.2
theorem sls_len (h : Nat) (bl : List (Nat × Nat)) : (sls h bl).length = bl.length := by simp [sls]
theorem sls_snoc (h : Nat) (bl : List (Nat × Nat)) (p : Nat × Nat) : sls h (bl ++ [p]) = sls h bl ++ [.slice (some ⟨p.1, 0, none⟩) h p.2] := by simp [sls]
theorem sls_get (h : Nat) (bl : List (Nat × Nat)) (v : Nat) (hv : v < bl.length) : (sls h bl)[v]? = some (.slice (some ⟨bk bl v, 0, none⟩) h (ck bl v)) := by
  simp [sls, bk, ck, List.getD_eq_getElem?_getD, hv]

/-- a table in memory -/
structure TabM (W : World) (base go : Nat) (bl : List (Nat × Nat)) (h : Nat) (T : Tb) : Prop where
  out : ∀ v, v < bl.length → W.cell? ⟨go, v, none⟩ = some (.slice (some ⟨bk bl v, 0, none⟩) h (ck bl v))
  inn : ∀ v, v < bl.length → Zo W base (bk bl v) h (ck bl v) (T.getD v [])
  lt : go < W.heap.size
theorem TabM.below {W W' : World} {base go : Nat} {bl : List (Nat × Nat)} {h : Nat} {T : Tb} (M : TabM W base go bl h T) (hb : Below W.heap.size W W') : TabM W' base go bl h T :=
  ⟨fun v hv => (hb.cell (p := ⟨go, v, none⟩) M.lt).trans (M.out v hv), fun v hv => (M.inn v hv).below hb, Nat.lt_of_lt_of_le M.lt hb.size⟩
theorem TabM.kept {W W' : World} {base go : Nat} {bl : List (Nat × Nat)} {h : Nat} {T : Tb} {g : Nat} (M : TabM W base go bl h T) (hg : W.grownBy W' (some g)) (h1 : go ≠ g) (h2 : ∀ v, v < bl.length → bk bl v ≠ g) : TabM W' base go bl h T :=
  ⟨fun v hv => (hg.cell_far ⟨go, v, none⟩ M.lt (fun e => h1 (Option.some.inj e))).trans (M.out v hv), fun v hv => World.ownsRow.kept (M.inn v hv) hg (.inr (fun e => h2 v hv (Option.some.inj e))), Nat.lt_of_lt_of_le M.lt hg.size⟩
theorem TabM.cell {W : World} {base go : Nat} {bl : List (Nat × Nat)} {h : Nat} {T : Tb} (M : TabM W base go bl h T) {v t : Nat} (hv : v < bl.length) (ht : t < h) : W.cell? ⟨bk bl v, t, none⟩ = some (.int .i64 (tat T v t)) := (M.inn v hv).cell ht
theorem TabM.set {W : World} {base go : Nat} {bl : List (Nat × Nat)} {h : Nat} {T : Tb} (M : TabM W base go bl h T) {v t : Nat} (hv : v < bl.length) (hT : T.length = bl.length) (m : Int) (h1 : go ≠ bk bl v) (h2 : ∀ v', v' < bl.length → v' ≠ v → bk bl v' ≠ bk bl v) : TabM (W.setCell ⟨bk bl v, t, none⟩ (.int .i64 m)) base go bl h (tset T v t m) := by
  have hg := gby_set W (bk bl v) t (.int .i64 m)
  refine ⟨fun v' hv' => (hg.cell_far ⟨go, v', none⟩ M.lt (fun e => h1 (Option.some.inj e))).trans (M.out v' hv'), fun v' hv' => ?_, Nat.lt_of_lt_of_le M.lt hg.size⟩
  unfold tset
  rw [getD_set_row _ _ _ _ (by rw [hT]; exact hv)]
  by_cases e : v' = v
  · subst e
    rw [if_pos rfl]
    exact (M.inn v' hv').set t m
  · rw [if_neg e]
    exact World.ownsRow.kept (M.inn v' hv') hg (.inr (fun e' => h2 v' hv' e (Option.some.inj e')))

/-- which rows are apart -/
structure Dis (n goC goH : Nat) (bc bh : List (Nat × Nat)) : Prop where
  lc : bc.length = n
  lh : bh.length = n
  cc : ∀ v v', v < n → v' < n → v' ≠ v → bk bc v' ≠ bk bc v
  hh : ∀ v v', v < n → v' < n → v' ≠ v → bk bh v' ≠ bk bh v
  ch : ∀ v v', v < n → v' < n → bk bc v ≠ bk bh v'
  gc : ∀ v, v < n → goC ≠ bk bc v ∧ goH ≠ bk bc v
  gh : ∀ v, v < n → goC ≠ bk bh v ∧ goH ≠ bk bh v
/-- the state of Sums: both tables, and whether something has turned -/
structure SS (w1 : World) (n h goC goH : Nat) (bc bh : List (Nat × Nat)) (Bm : Nat) (X Y : Tb) (ch : Bool) (W : World) : Prop where
  c : TabM W w1.heap.size goC bc h X
  y : TabM W w1.heap.size goH bh h Y
  m : W.heap[Bm]? = some (.cells #[.bool ch] 4 (0, 0))
  far : goC ≠ Bm ∧ goH ≠ Bm ∧ ∀ v, v < n → bk bc v ≠ Bm ∧ bk bh v ≠ Bm
  bel : Below w1.heap.size w1 W
  ge : w1.heap.size ≤ Bm
theorem SS.lt {w1 : World} {n h goC goH : Nat} {bc bh : List (Nat × Nat)} {Bm : Nat} {X Y : Tb} {ch : Bool} {W : World} (S : SS w1 n h goC goH bc bh Bm X Y ch W) : Bm < W.heap.size := (Array.getElem?_eq_some_iff.1 S.m).1
theorem SS.below {w1 : World} {n h goC goH : Nat} {bc bh : List (Nat × Nat)} {Bm : Nat} {X Y : Tb} {ch : Bool} {W W' : World} (S : SS w1 n h goC goH bc bh Bm X Y ch W) (hb : Below W.heap.size W W') : SS w1 n h goC goH bc bh Bm X Y ch W' :=
  ⟨S.c.below hb, S.y.below hb, by rw [hb.block Bm S.lt]; exact S.m, S.far, S.bel.trans (hb.mono S.bel.size), S.ge⟩
/-- what the closure leaves -/
def putW (W : World) (b t Bm : Nat) (m x : Int) : World := if m < x then (W.setCell ⟨b, t, none⟩ (.int .i64 m)).setCell ⟨Bm, 0, none⟩ (.bool true) else W
theorem SS.putC {w1 : World} {n h goC goH : Nat} {bc bh : List (Nat × Nat)} {Bm : Nat} {X Y : Tb} {ch : Bool} {W : World} (S : SS w1 n h goC goH bc bh Bm X Y ch W) (D : Dis n goC goH bc bh) (hX : X.length = n) {v t : Nat} (hv : v < n) (m : Int) (hge : w1.heap.size ≤ bk bc v) :
    SS w1 n h goC goH bc bh Bm (putT X v t m) Y (ch || decide (m < tat X v t)) (putW W (bk bc v) t Bm m (tat X v t)) := by
  unfold putT putW
  by_cases hm : m < tat X v t
  · rw [if_pos hm, if_pos hm, show decide (m < tat X v t) = true from by simpa using hm, Bool.or_true]
    have f := S.far
    have hc1 := S.c.set (t := t) (v := v) (by rw [D.lc]; exact hv) (by rw [D.lc]; exact hX) m (D.gc v hv).1 (fun v' hv' hne => D.cc v v' hv (by rw [← D.lc]; exact hv') hne)
    have hy1 := S.y.kept (gby_set W (bk bc v) t (.int .i64 m)) (D.gc v hv).2 (fun v' hv' => (D.ch v v' hv (by rw [← D.lh]; exact hv')).symm)
    have hm1 : (W.setCell ⟨bk bc v, t, none⟩ (.int .i64 m)).heap[Bm]? = some (.cells #[.bool ch] 4 (0, 0)) := by rw [heap_setCell_other W _ Bm _ (fun e => (f.2.2 v hv).1 e.symm)]; exact S.m
    have g2 := gby_set (W.setCell ⟨bk bc v, t, none⟩ (.int .i64 m)) Bm 0 (.bool true)
    refine ⟨hc1.kept g2 f.1 (fun v' hv' => (f.2.2 v' (by rw [← D.lc]; exact hv')).1), hy1.kept g2 f.2.1 (fun v' hv' => (f.2.2 v' (by rw [← D.lh]; exact hv')).2), heap_setCell_same _ Bm 0 _ _ (.bool true) hm1, f, (S.bel.setCell (p := ⟨bk bc v, t, none⟩) hge _).setCell (p := ⟨Bm, 0, none⟩) S.ge _, S.ge⟩
  · rw [if_neg hm, if_neg hm, show decide (m < tat X v t) = false from by simpa using hm, Bool.or_false]
    exact S
theorem SS.putH {w1 : World} {n h goC goH : Nat} {bc bh : List (Nat × Nat)} {Bm : Nat} {X Y : Tb} {ch : Bool} {W : World} (S : SS w1 n h goC goH bc bh Bm X Y ch W) (D : Dis n goC goH bc bh) (hY : Y.length = n) {v t : Nat} (hv : v < n) (m : Int) (hge : w1.heap.size ≤ bk bh v) :
    SS w1 n h goC goH bc bh Bm X (putT Y v t m) (ch || decide (m < tat Y v t)) (putW W (bk bh v) t Bm m (tat Y v t)) := by
  unfold putT putW
  by_cases hm : m < tat Y v t
  · rw [if_pos hm, if_pos hm, show decide (m < tat Y v t) = true from by simpa using hm, Bool.or_true]
    have f := S.far
    have hy1 := S.y.set (t := t) (v := v) (by rw [D.lh]; exact hv) (by rw [D.lh]; exact hY) m (D.gh v hv).2 (fun v' hv' hne => D.hh v v' hv (by rw [← D.lh]; exact hv') hne)
    have hc1 := S.c.kept (gby_set W (bk bh v) t (.int .i64 m)) (D.gh v hv).1 (fun v' hv' => D.ch v' v (by rw [← D.lc]; exact hv') hv)
    have hm1 : (W.setCell ⟨bk bh v, t, none⟩ (.int .i64 m)).heap[Bm]? = some (.cells #[.bool ch] 4 (0, 0)) := by rw [heap_setCell_other W _ Bm _ (fun e => (f.2.2 v hv).2 e.symm)]; exact S.m
    have g2 := gby_set (W.setCell ⟨bk bh v, t, none⟩ (.int .i64 m)) Bm 0 (.bool true)
    refine ⟨hc1.kept g2 f.1 (fun v' hv' => (f.2.2 v' (by rw [← D.lc]; exact hv')).1), hy1.kept g2 f.2.1 (fun v' hv' => (f.2.2 v' (by rw [← D.lh]; exact hv')).2), heap_setCell_same _ Bm 0 _ _ (.bool true) hm1, f, (S.bel.setCell (p := ⟨bk bh v, t, none⟩) hge _).setCell (p := ⟨Bm, 0, none⟩) S.ge _, S.ge⟩
  · rw [if_neg hm, if_neg hm, show decide (m < tat Y v t) = false from by simpa using hm, Bool.or_false]
    exact S

set_option maxRecDepth 100000 in
set_option maxHeartbeats 2000000 in
theorem sums1_any (base go cap : Nat) (bl : List (Nat × Nat)) (h : Nat) (T : Tb) (v t : Nat) (m : Int) (Bm : Nat) (ch : Bool) (w : World) (M : TabM w base go bl h T) (hv : v < bl.length) (ht : t < h) (hm : w.heap[Bm]? = some (.cells #[.bool ch] 4 (0, 0))) (hne : bk bl v ≠ Bm) :
    Calls Try.prog 22 #[.slice (some ⟨go, 0, none⟩) bl.length cap, .int .i64 v, .int .i64 t, .int .i64 m, .pointer (some ⟨Bm, 0, none⟩)] w fun e w' => e = .returned (.tuple #[]) ∧ w' = putW w (bk bl v) t Bm m (tat T v t) := by
  have c0 := M.out v hv
  have c1 := M.cell hv ht
  have fz := World.ownsRow.frozenAt (M.inn v hv) t
  have fm : (w.setCell ⟨bk bl v, t, none⟩ (.int .i64 m)).frozen? ⟨Bm, 0, none⟩ = false := by rw [World.frozen?_setCell]; exact frozen_of_row w Bm 0 _ _ hm
  have cm : (w.setCell ⟨bk bl v, t, none⟩ (.int .i64 m)).cell? ⟨Bm, 0, none⟩ = some (.bool ch) := by
    rw [World.cell?_of_block (w := w) (a := ⟨Bm, 0, none⟩) (heap_setCell_other w ⟨bk bl v, t, none⟩ Bm _ (fun e => hne e.symm))]
    exact cell_of_row w Bm 0 _ _ (0, 0) hm
  have i1 : (v : Int) < (bl.length : Int) := by omega
  have i2 : (0 : Int) ≤ (v : Int) := by omega
  have i3 : (t : Int) < (h : Int) := by omega
  have i4 : (0 : Int) ≤ (t : Int) := by omega
  clear M hm
  generalize bk bl v = b at *
  generalize ck bl v = c at *
  generalize tat T v t = x at *
  by_cases hlt : m < x
  · have HP : Hid (putW w b t Bm m x = (w.setCell ⟨b, t, none⟩ (.int .i64 m)).setCell ⟨Bm, 0, none⟩ (.bool true)) := by show _ = _; unfold putW; rw [if_pos hlt]
    have d1 : decide (m < x) = true := by simpa using hlt
    clear hlt
    go_enter Try.func22, Try.ntmps22
    go_wp2
    go_end0
    exact ⟨rfl, HP.out.symm⟩
  · have HP : Hid (putW w b t Bm m x = w) := by show _ = _; unfold putW; rw [if_neg hlt]
    have d1 : decide (m < x) = false := by simpa using hlt
    clear hlt
    go_enter Try.func22, Try.ntmps22
    go_wp2
    go_end0
    exact ⟨rfl, HP.out.symm⟩

end Go.Proofs.Ytkgbgkcbflicmac

namespace Go.Proofs.Ytkgbgkcbflicmac
open Go.RowKit

/-- a row in which nothing is told -/
def infR (k : Nat) : List Int := List.replicate k 1099511627776
theorem infR_len (k : Nat) : (infR k).length = k := by simp [infR]
theorem infR_succ (k : Nat) : (infR (k + 1)).map (Value.int .i64) = (infR k).map (Value.int .i64) ++ [.int .i64 1099511627776] := by
  unfold infR; rw [List.replicate_succ', List.map_append]; rfl
/-- rows of other types lie apart -/
theorem su_apart {W : World} {base e size base' e' size' n n' : Nat} {v v' : Value} {xs xs' : List Value} (h : W.ownsRow base e size v n xs) (h' : W.ownsRow base' e' size' v' n' xs') (he : e ≠ e') : v.ownBlock = none ∨ v.ownBlock ≠ v'.ownBlock := by
  rcases h.2 with ⟨rfl, _⟩ | ⟨g, cap, cur, rfl, _, hh, _⟩
  · exact .inl rfl
  · right
    intro e
    rcases h'.2 with ⟨rfl, _⟩ | ⟨g', cap', cur', rfl, _, hh', _⟩
    · cases e
    · have : g = g' := Option.some.inj e
      subst this
      rw [hh] at hh'
      simp only [Option.some.injEq, Obj.cells.injEq] at hh'
      exact he hh'.2.1
theorem zo_kept {W W' : World} {base g n cap : Nat} {x : List Int} {base' size n' : Nat} {v : Value} {xs : List Value} (h : Zo W base g n cap x) (h' : W.ownsRow base' 28 size v n' xs) (hg : W.grownBy W' v.ownBlock) : Zo W' base g n cap x :=
  World.ownsRow.kept h hg (su_apart h h' (by decide))

structure Hf (w1 : World) (h : Nat) (uc uh : Value) (bc bh : List (Nat × Nat)) (kc kh : Nat) (W : World) : Prop where
  lc : bc.length = kc
  lh : bh.length = kh
  oc : W.ownsRow w1.heap.size 28 1 uc kc (sls h bc)
  oh : W.ownsRow w1.heap.size 28 1 uh kh (sls h bh)
  ap : uc.ownBlock = none ∨ uh.ownBlock = none ∨ uc.ownBlock ≠ uh.ownBlock
  ic : ∀ p ∈ bc, Zo W w1.heap.size p.1 h p.2 (infR h)
  ih : ∀ p ∈ bh, Zo W w1.heap.size p.1 h p.2 (infR h)
  nd : (bc.map Prod.fst ++ bh.map Prod.fst).Nodup
  bel : Below w1.heap.size w1 W
theorem hf_start (w1 : World) (h : Nat) : Hf w1 h (.slice none 0 0) (.slice none 0 0) [] [] 0 0 w1 :=
  ⟨rfl, rfl, World.ownsRow_nil _ _ _ _, World.ownsRow_nil _ _ _ _, .inl rfl, by simp, by simp, by simp, Below.refl _ _⟩
theorem Hf.below {w1 W W' : World} {h : Nat} {uc uh : Value} {bc bh : List (Nat × Nat)} {kc kh : Nat} (F : Hf w1 h uc uh bc bh kc kh W) (hb : Below W.heap.size W W') : Hf w1 h uc uh bc bh kc kh W' :=
  ⟨F.lc, F.lh, ownsRow_below F.oc hb, ownsRow_below F.oh hb, F.ap, fun p hp => (F.ic p hp).below hb, fun p hp => (F.ih p hp).below hb, F.nd, F.bel.trans (hb.mono F.bel.size)⟩
/-- the blocks of the rows are old -/
theorem Hf.old {w1 W : World} {h : Nat} {uc uh : Value} {bc bh : List (Nat × Nat)} {kc kh : Nat} (F : Hf w1 h uc uh bc bh kc kh W) : ∀ g ∈ bc.map Prod.fst ++ bh.map Prod.fst, g < W.heap.size := by
  intro g hg
  rw [List.mem_append, List.mem_map, List.mem_map] at hg
  rcases hg with ⟨p, hp, rfl⟩ | ⟨p, hp, rfl⟩
  · exact (World.ownsRow.lt (F.ic p hp) p.1 rfl).2
  · exact (World.ownsRow.lt (F.ih p hp) p.1 rfl).2
theorem Hf.appC {w1 W w' : World} {h : Nat} {uc uh uc' : Value} {bc bh : List (Nat × Nat)} {kc kh ga ca : Nat} {o : Obj} (F : Hf w1 h uc uh bc bh kc kh W) (ha : Zo W w1.heap.size ga h ca (infR h)) (hga : ga ∉ bc.map Prod.fst ++ bh.map Prod.fst)
    (h1 : w'.ownsRow w1.heap.size 28 1 uc' (kc + 1) (sls h bc ++ [.slice (some ⟨ga, 0, none⟩) h ca])) (hg : (W.alloc o).grownBy w' uc.ownBlock) (hat : uc'.ownBlock = uc.ownBlock ∨ uc'.ownBlock = some (W.alloc o).heap.size) :
    Hf w1 h uc' uh (bc ++ [(ga, ca)]) bh (kc + 1) kh w' := by
  have FA := F.below (pal W o)
  have haA := ha.below (pal W o)
  refine ⟨by rw [List.length_append, F.lc]; rfl, F.lh, by rw [sls_snoc]; exact h1, ?_, ?_, ?_, ?_, ?_, ?_⟩
  · refine FA.oh.kept hg ?_
    rcases F.ap with e | e | e
    · rw [e]; cases hu : uh.ownBlock with
      | none => exact .inl rfl
      | some k => right; intro h; cases h
    · exact .inl e
    · exact .inr (fun h => e h.symm)
  · rcases hat with e | e
    · rw [e]; exact F.ap
    · rw [e]
      right; right
      intro h
      have := (FA.oh.lt _ h.symm).2
      omega
  · intro p hp
    rw [List.mem_append, List.mem_singleton] at hp
    rcases hp with hp | rfl
    · exact zo_kept (FA.ic p hp) FA.oc hg
    · exact zo_kept haA FA.oc hg
  · intro p hp; exact zo_kept (FA.ih p hp) FA.oc hg
  · have := F.nd
    rw [List.map_append]
    simp only [List.map_cons, List.map_nil]
    rw [List.append_assoc, List.nodup_append] at *
    simp only [List.mem_append, not_or] at hga
    refine ⟨this.1, ?_, ?_⟩
    · rw [List.singleton_append, List.nodup_cons]; exact ⟨hga.2, this.2.1⟩
    · intro x hx b hb
      rw [List.singleton_append, List.mem_cons] at hb
      rcases hb with rfl | hb
      · intro e; subst e; exact hga.1 hx
      · exact this.2.2 x hx b hb
  · exact FA.bel.grown hg (by have := F.bel.size; simp; omega) (fun j hj => (FA.oc.lt j hj).1)
theorem Hf.appH {w1 W w' : World} {h : Nat} {uc uh uh' : Value} {bc bh : List (Nat × Nat)} {kc kh ga ca : Nat} {o : Obj} (F : Hf w1 h uc uh bc bh kc kh W) (ha : Zo W w1.heap.size ga h ca (infR h)) (hga : ga ∉ bc.map Prod.fst ++ bh.map Prod.fst)
    (h1 : w'.ownsRow w1.heap.size 28 1 uh' (kh + 1) (sls h bh ++ [.slice (some ⟨ga, 0, none⟩) h ca])) (hg : (W.alloc o).grownBy w' uh.ownBlock) (hat : uh'.ownBlock = uh.ownBlock ∨ uh'.ownBlock = some (W.alloc o).heap.size) :
    Hf w1 h uc uh' bc (bh ++ [(ga, ca)]) kc (kh + 1) w' := by
  have FA := F.below (pal W o)
  have haA := ha.below (pal W o)
  refine ⟨F.lc, by rw [List.length_append, F.lh]; rfl, ?_, by rw [sls_snoc]; exact h1, ?_, ?_, ?_, ?_, ?_⟩
  · refine FA.oc.kept hg ?_
    rcases F.ap with e | e | e
    · exact .inl e
    · rw [e]; cases hu : uc.ownBlock with
      | none => exact .inl rfl
      | some k => right; intro h; cases h
    · exact .inr e
  · rcases hat with e | e
    · rw [e]; exact F.ap
    · rw [e]
      right; right
      intro h
      have := (FA.oc.lt _ h).2
      omega
  · intro p hp; exact zo_kept (FA.ic p hp) FA.oh hg
  · intro p hp
    rw [List.mem_append, List.mem_singleton] at hp
    rcases hp with hp | rfl
    · exact zo_kept (FA.ih p hp) FA.oh hg
    · exact zo_kept haA FA.oh hg
  · have := F.nd
    rw [List.map_append]
    simp only [List.map_cons, List.map_nil]
    rw [← List.append_assoc, List.nodup_append]
    refine ⟨this, by simp, fun x hx b hb => ?_⟩
    simp only [List.mem_singleton] at hb
    subst hb
    intro e; subst e; exact hga hx
  · exact FA.bel.grown hg (by have := F.bel.size; simp; omega) (fun j hj => (FA.oh.lt j hj).1)
/-- the tables, when all rows are made -/
def infT (n h : Nat) : Tb := List.replicate n (infR h)
theorem infT_shp (n h : Nat) : Shp n h (infT n h) := ⟨by simp [infT], fun v hv => by simp [infT, List.getD_eq_getElem?_getD, hv, infR]⟩
theorem infT_row (n h v : Nat) (hv : v < n) : (infT n h).getD v [] = infR h := by simp [infT, List.getD_eq_getElem?_getD, hv]
theorem infT_at (n h v t : Nat) (hv : v < n) (ht : t < h) : tat (infT n h) v t = 1099511627776 := by unfold tat; rw [infT_row n h v hv]; simp [infR, List.getD_eq_getElem?_getD, ht]
theorem hf_tab {w1 W : World} {h n goC cC goH cH : Nat} {bc bh : List (Nat × Nat)} (F : Hf w1 h (.slice (some ⟨goC, 0, none⟩) n cC) (.slice (some ⟨goH, 0, none⟩) n cH) bc bh n n W) : TabM W w1.heap.size goC bc h (infT n h) ∧ TabM W w1.heap.size goH bh h (infT n h) ∧ Dis n goC goH bc bh := by
  have hbk : ∀ (bl : List (Nat × Nat)) v, v < bl.length → bl.getD v (0, 0) ∈ bl := fun bl v hv => by rw [List.getD_eq_getElem?_getD, List.getElem?_eq_getElem hv]; exact List.getElem_mem hv
  have hbm : ∀ (bl : List (Nat × Nat)) v, v < bl.length → bk bl v ∈ bl.map Prod.fst := fun bl v hv => List.mem_map.2 ⟨_, hbk bl v hv, rfl⟩
  have hnd := F.nd
  rw [List.nodup_append] at hnd
  have hinj : ∀ (bl : List (Nat × Nat)), (bl.map Prod.fst).Nodup → ∀ v v', v < bl.length → v' < bl.length → v' ≠ v → bk bl v' ≠ bk bl v := by
    intro bl h v v' hv hv' hne e
    apply hne
    have e1 : (bl.map Prod.fst)[v']'(by simpa using hv') = (bl.map Prod.fst)[v]'(by simpa using hv) := by
      simp only [List.getElem_map]
      unfold bk at e
      simpa [List.getD_eq_getElem?_getD, hv, hv'] using e
    have h' := h
    unfold List.Nodup at h'
    rw [List.pairwise_iff_getElem] at h'
    rcases Nat.lt_trichotomy v' v with k | k | k
    · exact absurd e1 (h' v' v (by simpa using hv') (by simpa using hv) k)
    · exact k
    · exact absurd e1.symm (h' v v' (by simpa using hv) (by simpa using hv') k)
  refine ⟨⟨fun v hv => ?_, fun v hv => ?_, (F.oc.lt goC rfl).2⟩, ⟨fun v hv => ?_, fun v hv => ?_, (F.oh.lt goH rfl).2⟩, F.lc, F.lh, ?_, ?_, ?_, ?_, ?_⟩
  · rw [F.oc.cellAt v (by have := F.lc; omega), sls_get h bc v hv]
  · rw [infT_row n h v (by rw [← F.lc]; exact hv)]; exact F.ic _ (hbk bc v hv)
  · rw [F.oh.cellAt v (by have := F.lh; omega), sls_get h bh v hv]
  · rw [infT_row n h v (by rw [← F.lh]; exact hv)]; exact F.ih _ (hbk bh v hv)
  · exact fun v v' hv hv' => hinj bc hnd.1 v v' (by rw [F.lc]; exact hv) (by rw [F.lc]; exact hv')
  · exact fun v v' hv hv' => hinj bh hnd.2.1 v v' (by rw [F.lh]; exact hv) (by rw [F.lh]; exact hv')
  · exact fun v v' hv hv' => hnd.2.2 _ (hbm bc v (by rw [F.lc]; exact hv)) _ (hbm bh v' (by rw [F.lh]; exact hv'))
  · intro v hv
    have hz := F.ic _ (hbk bc v (by rw [F.lc]; exact hv))
    refine ⟨fun e => ?_, fun e => ?_⟩
    · rcases su_apart F.oc hz (by decide) with k | k
      · cases k
      · exact k (by show some goC = some _; rw [e]; rfl)
    · rcases su_apart F.oh hz (by decide) with k | k
      · cases k
      · exact k (by show some goH = some _; rw [e]; rfl)
  · intro v hv
    have hz := F.ih _ (hbk bh v (by rw [F.lh]; exact hv))
    refine ⟨fun e => ?_, fun e => ?_⟩
    · rcases su_apart F.oc hz (by decide) with k | k
      · cases k
      · exact k (by show some goC = some _; rw [e]; rfl)
    · rcases su_apart F.oh hz (by decide) with k | k
      · cases k
      · exact k (by show some goH = some _; rw [e]; rfl)

end Go.Proofs.Ytkgbgkcbflicmac

namespace Go.Proofs.Ytkgbgkcbflicmac
open Go.RowKit

/-- a table as it stands in memory -/
def rdT (W : World) (bl : List (Nat × Nat)) (h : Nat) : Tb := (List.range bl.length).map fun v => rdL W (bk bl v) h
theorem TabM.rd {W : World} {base go : Nat} {bl : List (Nat × Nat)} {h : Nat} {T : Tb} (M : TabM W base go bl h T) (hT : T.length = bl.length) : rdT W bl h = T := by
  apply List.ext_getElem (by simp [rdT, hT])
  intro v h1 h2
  simp only [rdT, List.getElem_map, List.getElem_range]
  rw [(M.inn v (by omega)).rd, List.getD_eq_getElem?_getD, List.getElem?_eq_getElem h2]; rfl
theorem TabM.base {W : World} {base base' go : Nat} {bl : List (Nat × Nat)} {h : Nat} {T : Tb} (M : TabM W base go bl h T) (hb : base' ≤ base) : TabM W base' go bl h T := ⟨M.out, fun v hv => owns_base2 (M.inn v hv) hb, M.lt⟩
def flagAt (W : World) (v : Value) : Nat :=
  match v with
  | .pointer (some a) => flagOf ((W.cell? a).getD (.bool false))
  | _ => 0
theorem SS.cell {w1 : World} {n h goC goH : Nat} {bc bh : List (Nat × Nat)} {Bm : Nat} {X Y : Tb} {ch : Bool} {W : World} (S : SS w1 n h goC goH bc bh Bm X Y ch W) : W.cell? ⟨Bm, 0, none⟩ = some (.bool ch) := cell_of_row W Bm 0 _ _ (0, 0) S.m
theorem SS.flag {w1 : World} {n h goC goH : Nat} {bc bh : List (Nat × Nat)} {Bm : Nat} {X Y : Tb} {ch : Bool} {W : World} (S : SS w1 n h goC goH bc bh Bm X Y ch W) : flagAt W (.pointer (some ⟨Bm, 0, none⟩)) = if ch = true then 1 else 0 := by
  simp only [flagAt]; rw [S.cell]; cases ch <;> rfl
theorem SS.frz {w1 : World} {n h goC goH : Nat} {bc bh : List (Nat × Nat)} {Bm : Nat} {X Y : Tb} {ch : Bool} {W : World} (S : SS w1 n h goC goH bc bh Bm X Y ch W) : W.frozen? ⟨Bm, 0, none⟩ = false := frozen_of_row W Bm 0 _ _ S.m
/-- nothing has turned yet -/
theorem SS.clear {w1 : World} {n h goC goH : Nat} {bc bh : List (Nat × Nat)} {Bm : Nat} {X Y : Tb} {ch : Bool} {W : World} (S : SS w1 n h goC goH bc bh Bm X Y ch W) (D : Dis n goC goH bc bh) (b : Bool) : SS w1 n h goC goH bc bh Bm X Y b (W.setCell ⟨Bm, 0, none⟩ (.bool b)) := by
  have g2 := gby_set W Bm 0 (.bool b)
  have f := S.far
  exact ⟨S.c.kept g2 f.1 (fun v' hv' => (f.2.2 v' (by rw [← D.lc]; exact hv')).1), S.y.kept g2 f.2.1 (fun v' hv' => (f.2.2 v' (by rw [← D.lh]; exact hv')).2), heap_setCell_same _ Bm 0 _ _ (.bool b) S.m, f, S.bel.setCell (p := ⟨Bm, 0, none⟩) S.ge _, S.ge⟩
/-- the flag in a new box -/
theorem ss_box {w1 W : World} {n h goC goH : Nat} {bc bh : List (Nat × Nat)} {X Y : Tb} (hc : TabM W w1.heap.size goC bc h X) (hy : TabM W w1.heap.size goH bh h Y) (D : Dis n goC goH bc bh) (hb : Below w1.heap.size w1 W) (b : Bool) : SS w1 n h goC goH bc bh W.heap.size X Y b (W.alloc (.cells #[.bool b] 4)) := by
  refine ⟨hc.below (pal _ _), hy.below (pal _ _), heap_alloc_new W _, ⟨?_, ?_, fun v hv => ⟨?_, ?_⟩⟩, hb.alloc hb.size _, hb.size⟩
  · have := hc.lt; omega
  · have := hy.lt; omega
  · exact Nat.ne_of_lt (World.ownsRow.lt (hc.inn v (by rw [D.lc]; exact hv)) _ rfl).2
  · exact Nat.ne_of_lt (World.ownsRow.lt (hy.inn v (by rw [D.lh]; exact hv)) _ rfl).2

/-- a round under way: the ways dC, dH are done -/
def RS (w1 : World) (n h goC goH : Nat) (bc bh : List (Nat × Nat)) (Bm : Nat) (first : Nat → Nat → Int) (aC aH : List JA) (X0 Y0 : Tb) (dC dH : List JA) (W : World) : Prop :=
  ∃ X Y cC cH, SS w1 n h goC goH bc bh Bm X Y (cC || cH) W ∧ Tn n h first aC X0 X cC dC ∧ Tn n h first aH Y0 Y cH dH ∧ Tm n h X ∧ Tm n h Y ∧ Pr n h X Y
theorem RS.below {w1 W W' : World} {n h goC goH : Nat} {bc bh : List (Nat × Nat)} {Bm : Nat} {first : Nat → Nat → Int} {aC aH : List JA} {X0 Y0 : Tb} {dC dH : List JA} (R : RS w1 n h goC goH bc bh Bm first aC aH X0 Y0 dC dH W) (hb : Below W.heap.size W W') : RS w1 n h goC goH bc bh Bm first aC aH X0 Y0 dC dH W' := by
  obtain ⟨X, Y, cC, cH, S, r⟩ := R
  exact ⟨X, Y, cC, cH, S.below hb, r⟩
theorem jmid_first {n h : Nat} {first : Nat → Nat → Int} {arcs : List JA} {T : Tb} (S : Shp n h T) (e : ∀ v t, v < n → t < h → tat T v t = first v t) : JMid n h first arcs T :=
  ⟨S, fun v t hv ht => by rw [e v t hv ht]; exact Int.le_refl _, fun y hy v t hv ht => by rw [e v t hv ht]; exact hy.le v t hv ht⟩
theorem tm_first {n h : Nat} {first : Nat → Nat → Int} {T : Tb} (e : ∀ v t, v < n → t < h → tat T v t = first v t) (hf : ∀ v t, first v t = 1099511627776 ∨ first v t = 0) : Tm n h T := by
  intro v t hv ht
  rw [e v t hv ht]
  rcases hf v t with k | k
  · exact .inl k
  · right; rw [k]; omega
theorem pr_self (n h : Nat) (T : Tb) : Pr n h T T := fun _ _ _ _ => Iff.rfl
theorem firstT_two (g : Gr) (v t : Int) (v' t' : Nat) : firstT g v t v' t' = 1099511627776 ∨ firstT g v t v' t' = 0 := by unfold firstT; split <;> simp

/-- one way more, along which nothing is told -/
theorem tn_skips {n h : Nat} {first : Nat → Nat → Int} {arcs : List JA} {x z : Tb} {ch : Bool} {done more : List JA} (T : Tn n h first arcs x z ch done) (ok : ∀ a ∈ more, JOk n h a) (hf : ∀ v t, v < n → t < h → first v t ≤ 1099511627776) (hi : ∀ a ∈ more, src z a = 1099511627776) : Tn n h first arcs x z ch (done ++ more) := by
  induction more generalizing done with
  | nil => exact tn_nil T
  | cons a more ih =>
    have := ih (done := done ++ [a]) (tn_inf T (ok a (by simp)) hf (hi a (by simp))) (fun b hb => ok b (by simp [hb])) (fun b hb => hi b (by simp [hb]))
    rw [List.append_assoc] at this
    exact this
/-- one way more, along which a number is told in each table -/
theorem ss_put {w1 W : World} {n h goC goH : Nat} {bc bh : List (Nat × Nat)} {Bm : Nat} {first : Nat → Nat → Int} {aC aH : List JA} {X0 Y0 X Y : Tb} {cC cH : Bool} {dC dH : List JA} {a b : JA}
    (S : SS w1 n h goC goH bc bh Bm X Y (cC || cH) W) (TC : Tn n h first aC X0 X cC dC) (TH : Tn n h first aH Y0 Y cH dH) (hX : Tm n h X) (hY : Tm n h Y) (hP : Pr n h X Y) (D : Dis n goC goH bc bh)
    (ha : a ∈ aC) (hb : b ∈ aH) (okC : ∀ a ∈ aC, JOk n h a) (okH : ∀ a ∈ aH, JOk n h a) (hf0 : ∀ v t, v < n → t < h → 0 ≤ first v t) (e : b.1 = a.1 ∧ b.2.1 = a.2.1 ∧ b.2.2.1 = a.2.2.1 ∧ b.2.2.2.1 = a.2.2.2.1) (hh : h ≤ 100) (hs : src X a ≠ 1099511627776)
    (hge : ∀ v, v < n → w1.heap.size ≤ bk bc v ∧ w1.heap.size ≤ bk bh v) :
    SS w1 n h goC goH bc bh Bm (putT X a.2.2.1 a.2.2.2.1 (src X a + a.2.2.2.2)) Y ((cC || cH) || decide (src X a + a.2.2.2.2 < dst X a)) (putW W (bk bc a.2.2.1) a.2.2.2.1 Bm (src X a + a.2.2.2.2) (dst X a)) ∧
    RS w1 n h goC goH bc bh Bm first aC aH X0 Y0 (dC ++ [a]) (dH ++ [b]) (putW (putW W (bk bc a.2.2.1) a.2.2.2.1 Bm (src X a + a.2.2.2.2) (dst X a)) (bk bh b.2.2.1) b.2.2.2.1 Bm (src Y b + b.2.2.2.2) (dst Y b)) := by
  have oka := okC a ha
  have okb := okH b hb
  have hsb : src Y b ≠ 1099511627776 := by
    unfold src at hs ⊢
    rw [e.1, e.2.1]
    exact fun h => hs ((hP a.1 a.2.1 oka.v oka.t).2 h)
  have S1 := S.putC D TC.mid.shp.rows (v := a.2.2.1) (t := a.2.2.2.1) oka.v' (src X a + a.2.2.2.2) (hge _ oka.v').1
  refine ⟨S1, ?_⟩
  have S2 := S1.putH D TH.mid.shp.rows (v := b.2.2.1) (t := b.2.2.2.1) okb.v' (src Y b + b.2.2.2.2) (hge _ okb.v').2
  refine ⟨_, _, _, _, ?_, tn_put TC ha okC hf0, tn_put TH hb okH hf0, (tm_put TC.mid.shp hX oka hh hs).1, (tm_put TH.mid.shp hY okb hh hsb).1, pr_put TC.mid.shp TH.mid.shp hX hY hP oka okb hh e hs⟩
  have e1 : (cC || cH || decide (src X a + a.2.2.2.2 < tat X a.2.2.1 a.2.2.2.1) || decide (src Y b + b.2.2.2.2 < tat Y b.2.2.1 b.2.2.2.1)) = ((cC || decide (src X a + a.2.2.2.2 < dst X a)) || (cH || decide (src Y b + b.2.2.2.2 < dst Y b))) := by
    unfold dst
    cases cC <;> cases cH <;> cases decide (src X a + a.2.2.2.2 < tat X a.2.2.1 a.2.2.2.1) <;> cases decide (src Y b + b.2.2.2.2 < tat Y b.2.2.1 b.2.2.2.1) <;> rfl
  rw [e1] at S2
  exact S2

/-- the second half, a while later -/
theorem ss_putB {w1 W1 : World} {n h goC goH : Nat} {bc bh : List (Nat × Nat)} {Bm : Nat} {first : Nat → Nat → Int} {aC aH : List JA} {X0 Y0 X Y : Tb} {cC cH : Bool} {dC dH : List JA} {a b : JA}
    (S1 : SS w1 n h goC goH bc bh Bm (putT X a.2.2.1 a.2.2.2.1 (src X a + a.2.2.2.2)) Y ((cC || cH) || decide (src X a + a.2.2.2.2 < dst X a)) W1) (TC : Tn n h first aC X0 X cC dC) (TH : Tn n h first aH Y0 Y cH dH) (hX : Tm n h X) (hY : Tm n h Y) (hP : Pr n h X Y) (D : Dis n goC goH bc bh)
    (ha : a ∈ aC) (hb : b ∈ aH) (okC : ∀ a ∈ aC, JOk n h a) (okH : ∀ a ∈ aH, JOk n h a) (hf0 : ∀ v t, v < n → t < h → 0 ≤ first v t) (e : b.1 = a.1 ∧ b.2.1 = a.2.1 ∧ b.2.2.1 = a.2.2.1 ∧ b.2.2.2.1 = a.2.2.2.1) (hh : h ≤ 100) (hs : src X a ≠ 1099511627776)
    (hge : ∀ v, v < n → w1.heap.size ≤ bk bc v ∧ w1.heap.size ≤ bk bh v) :
    RS w1 n h goC goH bc bh Bm first aC aH X0 Y0 (dC ++ [a]) (dH ++ [b]) (putW W1 (bk bh b.2.2.1) b.2.2.2.1 Bm (src Y b + b.2.2.2.2) (dst Y b)) := by
  have oka := okC a ha
  have okb := okH b hb
  have hsb : src Y b ≠ 1099511627776 := by
    unfold src at hs ⊢
    rw [e.1, e.2.1]
    exact fun h => hs ((hP a.1 a.2.1 oka.v oka.t).2 h)
  have S2 := S1.putH D TH.mid.shp.rows (v := b.2.2.1) (t := b.2.2.2.1) okb.v' (src Y b + b.2.2.2.2) (hge _ okb.v').2
  refine ⟨_, _, _, _, ?_, tn_put TC ha okC hf0, tn_put TH hb okH hf0, (tm_put TC.mid.shp hX oka hh hs).1, (tm_put TH.mid.shp hY okb hh hsb).1, pr_put TC.mid.shp TH.mid.shp hX hY hP oka okb hh e hs⟩
  have e1 : (cC || cH || decide (src X a + a.2.2.2.2 < dst X a) || decide (src Y b + b.2.2.2.2 < tat Y b.2.2.1 b.2.2.2.1)) = ((cC || decide (src X a + a.2.2.2.2 < dst X a)) || (cH || decide (src Y b + b.2.2.2.2 < dst Y b))) := by
    unfold dst
    cases cC <;> cases cH <;> cases decide (src X a + a.2.2.2.2 < tat X a.2.2.1 a.2.2.2.1) <;> cases decide (src Y b + b.2.2.2.2 < tat Y b.2.2.1 b.2.2.2.1) <;> rfl
  rw [e1] at S2
  exact S2
theorem putW_size (W : World) (b t Bm : Nat) (m x : Int) : W.heap.size ≤ (putW W b t Bm m x).heap.size := by
  unfold putW
  split
  · exact Nat.le_trans (gby_set W b t (.int .i64 m)).size (gby_set (W.setCell ⟨b, t, none⟩ (.int .i64 m)) Bm 0 (.bool true)).size
  · exact Nat.le_refl _
theorem putW_far (W : World) (b t Bm : Nat) (m x : Int) {B i : Nat} (h : B < W.heap.size) (e1 : B ≠ b) (e2 : B ≠ Bm) : (putW W b t Bm m x).cell? ⟨B, i, none⟩ = W.cell? ⟨B, i, none⟩ := by
  unfold putW
  split
  · have g1 := gby_set W b t (.int .i64 m)
    exact ((gby_set (W.setCell ⟨b, t, none⟩ (.int .i64 m)) Bm 0 (.bool true)).cell_far ⟨B, i, none⟩ (Nat.lt_of_lt_of_le h g1.size) (fun e => e2 (Option.some.inj e))).trans (g1.cell_far ⟨B, i, none⟩ h (fun e => e1 (Option.some.inj e)))
  · rfl

theorem waitA_no {g : Gr} {t k : Nat} (h : ¬ (((t : Int) + 1 < g.hor) ∧ aliveB ((t : Int) + 1) g.lives (k : Int) = true)) : waitA g t (k + 1) = waitA g t k ++ [] := by rw [waitA, if_neg h]
theorem waitA_yes {g : Gr} {t k : Nat} (h : ((t : Int) + 1 < g.hor) ∧ aliveB ((t : Int) + 1) g.lives (k : Int) = true) : waitA g t (k + 1) = waitA g t k ++ [(k, t, k, t + 1, 0)] := by rw [waitA, if_pos h]
theorem legA_no {g : Gr} {pr : Int → Int} {t i : Nat} (hi : i < g.edges.length) (h : lands g g.edges[i] (t : Int) = none) : legA g pr t (i + 1) = legA g pr t i ++ [] := by
  have hg : g.edges.getD i (0, 0, []) = g.edges[i] := by simp [List.getD_eq_getElem?_getD, List.getElem?_eq_getElem hi]
  rw [legA, hg, h]
theorem legA_yes {g : Gr} {pr : Int → Int} {t i : Nat} (hi : i < g.edges.length) {q : Int × Int} (h : lands g g.edges[i] (t : Int) = some q) : legA g pr t (i + 1) = legA g pr t i ++ [(g.edges[i].1.toNat, t, g.edges[i].2.1.toNat, q.1.toNat, pr q.2)] := by
  have hg : g.edges.getD i (0, 0, []) = g.edges[i] := by simp [List.getD_eq_getElem?_getD, List.getElem?_eq_getElem hi]
  rw [legA, hg, h]
/-- a way that is told of lies in all of them -/
theorem wait_mem {g : Gr} {pr : Int → Int} {t k H : Nat} (ht : t < H) (hk : k < g.lives.length) (h : ((t : Int) + 1 < g.hor) ∧ aliveB ((t : Int) + 1) g.lives (k : Int) = true) : ((k, t, k, t + 1, 0) : JA) ∈ allA g pr H := by
  refine allA_sub (k := t + 1) ht _ ?_
  rw [allA, List.mem_append, List.mem_append]
  exact .inr (.inl (waitA_sub (k := k + 1) hk _ (by rw [waitA_yes h]; simp)))
theorem leg_mem {g : Gr} {pr : Int → Int} {t i H : Nat} (ht : t < H) (hi : i < g.edges.length) {q : Int × Int} (h : lands g g.edges[i] (t : Int) = some q) : ((g.edges[i].1.toNat, t, g.edges[i].2.1.toNat, q.1.toNat, pr q.2) : JA) ∈ allA g pr H := by
  refine allA_sub (k := t + 1) ht _ ?_
  rw [allA, List.mem_append, List.mem_append]
  exact .inr (.inr (legA_sub (i := i + 1) hi _ (by rw [legA_yes hi h]; simp)))

end Go.Proofs.Ytkgbgkcbflicmac
