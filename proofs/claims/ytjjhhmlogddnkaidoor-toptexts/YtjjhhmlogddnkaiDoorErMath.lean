/-
  The earliest and the latest: where and when one can be, the rides in their order, one look at each of them forward and backward: plain mathematics, without any program.
-/
import Derived.Test.YtjjhhmlogddnkaiDoorSuMath
import Derived.Test.YtjjhhmlogddnkaiDoorJpMath
namespace Go.Proofs.YtjjhhmlogddnkaiDoor

/-- one can be at v at t, from v0 at t0 -/
inductive Rch (g : Gr) (v0 t0 : Int) : Int → Int → Prop
  | base : aliveB t0 g.lives v0 = true → Rch g v0 t0 v0 t0
  | wait {v t : Int} : Rch g v0 t0 v t → aliveB (t + 1) g.lives v = true → Rch g v0 t0 v (t + 1)
  | ride {t : Int} {q : Int × Int} (i : Nat) (hi : i < g.edges.length) : Rch g v0 t0 g.edges[i].1 t → lands g g.edges[i] t = some q → Rch g v0 t0 g.edges[i].2.1 q.1

theorem lands_lt {g : Gr} (R : Right g) {i : Nat} (hi : i < g.edges.length) {t : Int} {q : Int × Int} (h : lands g g.edges[i] t = some q) : t < q.1 ∧ aliveB t g.lives g.edges[i].1 = true ∧ aliveB q.1 g.lives g.edges[i].2.1 = true ∧ q.1 < g.hor ∧ 0 ≤ q.2 ∧ q.2 ≤ 1000 := by
  obtain ⟨l, hl, k1, k2, k3, k4, k5, k6, k7⟩ := lands_spec (tq := q.1) (c := q.2) h
  have hf := (fitB_iff _ _).1 (R.legs _ (List.getElem_mem hi) l hl)
  exact ⟨by omega, k5, k7, k6, by omega, by omega⟩
theorem alive_mid {g : Gr} {v a b c : Int} (h1 : aliveB a g.lives v = true) (h2 : aliveB c g.lives v = true) (k1 : a ≤ b) (k2 : b ≤ c) : aliveB b g.lives v = true := by
  unfold aliveB aliveL at *
  by_cases hv : v.toNat < g.lives.length
  · rw [List.getD_eq_getElem?_getD, List.getElem?_map, List.getElem?_eq_getElem hv] at *
    have h1 := (hasB_iff _ _ _).1 (show hasB g.lives[v.toNat].1 g.lives[v.toNat].2 a = true from h1)
    have h2 := (hasB_iff _ _ _).1 (show hasB g.lives[v.toNat].1 g.lives[v.toNat].2 c = true from h2)
    exact (hasB_iff _ _ _).2 (by omega)
  · rw [List.getD_eq_getElem?_getD, List.getElem?_eq_none (by simpa using hv)] at h1
    cases h1

theorem Rch.src {g : Gr} {v0 t0 v t : Int} (h : Rch g v0 t0 v t) : aliveB t0 g.lives v0 = true := by
  induction h with
  | base h => exact h
  | wait _ _ ih => exact ih
  | ride _ _ _ _ ih => exact ih
theorem Rch.alive {g : Gr} (R : Right g) {v0 t0 v t : Int} (h : Rch g v0 t0 v t) : aliveB t g.lives v = true := by
  cases h with
  | base h => exact h
  | wait _ h => exact h
  | ride i hi _ h => exact (lands_lt R hi h).2.2.1
theorem Rch.le {g : Gr} (R : Right g) {v0 t0 v t : Int} (h : Rch g v0 t0 v t) : t0 ≤ t := by
  induction h with
  | base h => omega
  | wait _ _ ih => omega
  | ride i hi _ h ih => have := (lands_lt R hi h).1; omega
theorem Rch.trans {g : Gr} {v0 t0 v1 t1 v t : Int} (h : Rch g v0 t0 v1 t1) (k : Rch g v1 t1 v t) : Rch g v0 t0 v t := by
  induction k with
  | base _ => exact h
  | wait _ k ih => exact .wait ih k
  | ride i hi _ k ih => exact .ride i hi ih k
theorem Rch.stay {g : Gr} {v0 t0 v t : Int} (h : Rch g v0 t0 v t) (ha : aliveB t g.lives v = true) : ∀ n : Nat, aliveB (t + n) g.lives v = true → Rch g v0 t0 v (t + n)
  | 0, _ => by simpa using h
  | n + 1, hn => by
    have h1 : aliveB (t + n) g.lives v = true := alive_mid ha hn (by omega) (by omega)
    have h2 := (h.stay ha n h1).wait (by rw [show t + (n : Int) + 1 = t + ((n + 1 : Nat) : Int) by omega]; exact hn)
    rw [show t + (n : Int) + 1 = t + ((n + 1 : Nat) : Int) by omega] at h2
    exact h2
theorem Rch.waits {g : Gr} (R : Right g) {v0 t0 v t t' : Int} (h : Rch g v0 t0 v t) (ht : t ≤ t') (ha : aliveB t' g.lives v = true) : Rch g v0 t0 v t' := by
  have e : t' = t + ((t' - t).toNat : Int) := by omega
  rw [e] at ha ⊢
  exact h.stay (h.alive R) _ ha
theorem Rch.place {g : Gr} (R : Right g) {v0 t0 v t : Int} (h0 : 0 ≤ v0) (h : Rch g v0 t0 v t) : 0 ≤ v ∧ v < g.lives.length ∧ 0 ≤ t ∧ t < g.hor := by
  have ha := alive_hor R (h.alive R)
  have : 0 ≤ v := by
    clear ha
    induction h with
    | base h => exact h0
    | wait _ _ ih => exact ih
    | ride i hi _ h ih => exact (R.ends _ (List.getElem_mem hi)).2.1.1
  omega

/-- a ride: edge, departure, from, to, arrival, cost -/
abbrev Ri := Int × Int × Int × Int × Int × Int
/-- the rides of the first i edges at a time -/
def ridesAt (g : Gr) (d : Int) : Nat → List Ri
  | 0 => []
  | i + 1 => ridesAt g d i ++
    match lands g (g.edges.getD i (0, 0, [])) d with
    | none => []
    | some q => [((i : Int), d, (g.edges.getD i (0, 0, [])).1, (g.edges.getD i (0, 0, [])).2.1, q.1, q.2)]
/-- .. and of the first k times -/
def ridesTo (g : Gr) : Nat → List Ri
  | 0 => []
  | k + 1 => ridesTo g k ++ ridesAt g (k : Int) g.edges.length
def ridesF (g : Gr) : List Ri := ridesTo g g.hor.toNat
theorem ridesAt_len (g : Gr) (d : Int) (i : Nat) : (ridesAt g d i).length ≤ i := by
  induction i with
  | zero => simp [ridesAt]
  | succ i ih =>
    rw [ridesAt, List.length_append]
    split <;> simp <;> omega
theorem ridesTo_len (g : Gr) (k : Nat) : (ridesTo g k).length ≤ k * g.edges.length := by
  induction k with
  | zero => simp [ridesTo]
  | succ k ih =>
    have := ridesAt_len g (k : Int) g.edges.length
    rw [ridesTo, List.length_append, Nat.succ_mul]; omega
theorem edge_getD {g : Gr} {i : Nat} (hi : i < g.edges.length) : g.edges.getD i (0, 0, []) = g.edges[i] := by rw [List.getD_eq_getElem?_getD, List.getElem?_eq_getElem hi]; rfl
theorem mem_ridesAt {g : Gr} {d : Int} {r : Ri} : ∀ {i : Nat}, i ≤ g.edges.length → (r ∈ ridesAt g d i ↔ ∃ (j : Nat) (hj : j < g.edges.length) (q : Int × Int), j < i ∧ lands g g.edges[j] d = some q ∧ r = ((j : Int), d, g.edges[j].1, g.edges[j].2.1, q.1, q.2))
  | 0, _ => by simp [ridesAt]
  | i + 1, hi => by
    rw [ridesAt, List.mem_append, mem_ridesAt (by omega), edge_getD (show i < g.edges.length by omega)]
    constructor
    · rintro (⟨j, hj, q, h1, h2⟩ | h1)
      · exact ⟨j, hj, q, by omega, h2⟩
      · split at h1
        · cases h1
        · rename_i q hq
          rw [List.mem_singleton] at h1
          exact ⟨i, by omega, q, by omega, hq, h1⟩
    · rintro ⟨j, hj, q, h1, h2, h3⟩
      rcases Nat.lt_or_ge j i with h4 | h4
      · exact .inl ⟨j, hj, q, h4, h2, h3⟩
      · have : j = i := by omega
        subst this
        right; rw [h2, h3]; simp
theorem mem_ridesTo {g : Gr} {r : Ri} : ∀ {k : Nat}, r ∈ ridesTo g k ↔ ∃ j : Nat, j < k ∧ r ∈ ridesAt g (j : Int) g.edges.length
  | 0 => by simp [ridesTo]
  | k + 1 => by
    rw [ridesTo, List.mem_append, mem_ridesTo]
    constructor
    · rintro (⟨j, h1, h2⟩ | h1)
      · exact ⟨j, by omega, h2⟩
      · exact ⟨k, by omega, h1⟩
    · rintro ⟨j, h1, h2⟩
      rcases Nat.lt_or_ge j k with h4 | h4
      · exact .inl ⟨j, h4, h2⟩
      · have : j = k := by omega
        subst this
        exact .inr h2
/-- what a ride is -/
structure RideOk (g : Gr) (r : Ri) : Prop where
  e0 : 0 ≤ r.1 ∧ r.1 < g.edges.length
  d0 : 0 ≤ r.2.1
  a0 : 0 ≤ r.2.2.1 ∧ r.2.2.1 < g.lives.length
  b0 : 0 ≤ r.2.2.2.1 ∧ r.2.2.2.1 < g.lives.length
  lt : r.2.1 < r.2.2.2.2.1
  hor : r.2.2.2.2.1 < g.hor
  alA : aliveB r.2.1 g.lives r.2.2.1 = true
  alB : aliveB r.2.2.2.2.1 g.lives r.2.2.2.1 = true
  go : ∀ {v0 t0 : Int}, Rch g v0 t0 r.2.2.1 r.2.1 → Rch g v0 t0 r.2.2.2.1 r.2.2.2.2.1
  hop : ∀ {t c : Int}, t ≤ r.2.1 → hopF g (r.2.2.1, t, c) (r.1, r.2.1) = some (r.2.2.2.1, r.2.2.2.2.1, c + r.2.2.2.2.2)
  c0 : 0 ≤ r.2.2.2.2.2 ∧ r.2.2.2.2.2 ≤ 1000
  ln : lands g (g.edges.getD r.1.toNat (0, 0, [])) r.2.1 = some (r.2.2.2.2.1, r.2.2.2.2.2)
  edA : (g.edges.getD r.1.toNat (0, 0, [])).1 = r.2.2.1
  edB : (g.edges.getD r.1.toNat (0, 0, [])).2.1 = r.2.2.2.1
theorem rideOk_of {g : Gr} (R : Right g) {j : Nat} (hj : j < g.edges.length) {d : Nat} {q : Int × Int} (hq : lands g g.edges[j] (d : Int) = some q) : RideOk g ((j : Int), (d : Int), g.edges[j].1, g.edges[j].2.1, q.1, q.2) := by
  obtain ⟨h1, h2, h3, h4, _, _⟩ := lands_lt R hj hq
  obtain ⟨hA, hB, _⟩ := R.ends _ (List.getElem_mem hj)
  refine ⟨⟨by simp only; omega, by simp only; omega⟩, by simp only; omega, hA, hB, h1, h4, h2, h3, fun h => .ride j hj h hq, fun {t c} ht => ?_, (lands_lt R hj hq).2.2.2.2, ?_, ?_, ?_⟩
  · simp only at ht
    unfold hopF
    rw [if_pos ((inR_iff _ _ _).2 (by simp only; omega))]
    simp only [Int.toNat_natCast]
    rw [edge_getD hj, if_pos ⟨rfl, ht⟩, hq]
  · simp only [Int.toNat_natCast]; rw [edge_getD hj]; exact hq
  · simp only [Int.toNat_natCast]; rw [edge_getD hj]
  · simp only [Int.toNat_natCast]; rw [edge_getD hj]
theorem mem_rides {g : Gr} (R : Right g) {r : Ri} (h : r ∈ ridesF g) : RideOk g r := by
  obtain ⟨k, hk, h⟩ := mem_ridesTo.1 h
  obtain ⟨j, hj, q, _, hq, rfl⟩ := (mem_ridesAt (Nat.le_refl _)).1 h
  exact rideOk_of R hj hq
theorem ride_mem {g : Gr} (R : Right g) {j : Nat} (hj : j < g.edges.length) {d : Int} (hd : 0 ≤ d) {q : Int × Int} (hq : lands g g.edges[j] d = some q) : ((j : Int), d, g.edges[j].1, g.edges[j].2.1, q.1, q.2) ∈ ridesF g := by
  obtain ⟨h1, h2, h3, h4, _, _⟩ := lands_lt R hj hq
  refine mem_ridesTo.2 ⟨d.toNat, by omega, (mem_ridesAt (Nat.le_refl _)).2 ⟨j, hj, q, hj, ?_, ?_⟩⟩
  · rw [show ((d.toNat : Nat) : Int) = d by omega]; exact hq
  · rw [show ((d.toNat : Nat) : Int) = d by omega]
theorem ridesTo_sorted (g : Gr) : ∀ k : Nat, (ridesTo g k).Pairwise fun a b => a.2.1 ≤ b.2.1
  | 0 => by simp [ridesTo]
  | k + 1 => by
    have hd : ∀ a ∈ ridesAt g (k : Int) g.edges.length, a.2.1 = (k : Int) := fun a ha => by
      obtain ⟨j, hj, q, _, _, rfl⟩ := (mem_ridesAt (Nat.le_refl _)).1 ha; rfl
    rw [ridesTo, List.pairwise_append]
    refine ⟨ridesTo_sorted g k, ?_, ?_⟩
    · exact List.pairwise_of_forall_mem_list fun a ha b hb => by rw [hd a ha, hd b hb]; omega
    · intro a ha b hb
      obtain ⟨j, h1, h2⟩ := mem_ridesTo.1 ha
      obtain ⟨i, hi, q, _, _, rfl⟩ := (mem_ridesAt (Nat.le_refl _)).1 h2
      rw [hd b hb]; simp only; omega

/-- one look at a ride forward: the times, and by which ride one came -/
def erT (T : List Int) (r : Ri) : List Int := if T.getD r.2.2.1.toNat 0 ≤ r.2.1 ∧ r.2.2.2.2.1 < T.getD r.2.2.2.1.toNat 0 then T.set r.2.2.2.1.toNat r.2.2.2.2.1 else T
def erL (T : List Int) (L : List Ri) (r : Ri) : List Ri := if T.getD r.2.2.1.toNat 0 ≤ r.2.1 ∧ r.2.2.2.2.1 < T.getD r.2.2.2.1.toNat 0 then L.set r.2.2.2.1.toNat r else L
def erGo (s : List Int × List Ri) (l : List Ri) : List Int × List Ri := l.foldl (fun s r => (erT s.1 r, erL s.1 s.2 r)) s
theorem erGo_nil (s : List Int × List Ri) : erGo s [] = s := rfl
theorem erGo_cons (s : List Int × List Ri) (r : Ri) (l : List Ri) : erGo s (r :: l) = erGo (erT s.1 r, erL s.1 s.2 r) l := rfl
theorem erGo_app (s : List Int × List Ri) (a b : List Ri) : erGo s (a ++ b) = erGo (erGo s a) b := by unfold erGo; rw [List.foldl_append]
theorem erGo_take {s : List Int × List Ri} {l : List Ri} {k : Nat} (hk : k < l.length) : erGo s (l.take (k + 1)) = (erT (erGo s (l.take k)).1 l[k], erL (erGo s (l.take k)).1 (erGo s (l.take k)).2 l[k]) := by
  unfold erGo; rw [List.take_succ_eq_append_getElem hk, List.foldl_append]; rfl
theorem erT_len (T : List Int) (r : Ri) : (erT T r).length = T.length := by unfold erT; split <;> simp
theorem erL_len (T : List Int) (L : List Ri) (r : Ri) : (erL T L r).length = L.length := by unfold erL; split <;> simp
theorem erGo_len (l : List Ri) : ∀ s : List Int × List Ri, (erGo s l).1.length = s.1.length ∧ (erGo s l).2.length = s.2.length := by
  induction l with
  | nil => intro s; exact ⟨rfl, rfl⟩
  | cons r l ih => intro s; rw [erGo_cons]; have := ih (erT s.1 r, erL s.1 s.2 r); simp only [erT_len, erL_len] at this; exact this
theorem getD_setI (T : List Int) (i j : Nat) (x : Int) (h : i < T.length) : (T.set i x).getD j 0 = if j = i then x else T.getD j 0 := by
  simp only [List.getD_eq_getElem?_getD, List.getElem?_set]
  by_cases e : i = j
  · subst e; simp [h]
  · have : ¬ j = i := fun h => e h.symm
    simp [e, this]
theorem getD_setR (T : List Ri) (i j : Nat) (x d : Ri) (h : i < T.length) : (T.set i x).getD j d = if j = i then x else T.getD j d := by
  simp only [List.getD_eq_getElem?_getD, List.getElem?_set]
  by_cases e : i = j
  · subst e; simp [h]
  · have : ¬ j = i := fun h => e h.symm
    simp [e, this]
theorem erT_le (T : List Int) (r : Ri) (v : Nat) : (erT T r).getD v 0 ≤ T.getD v 0 := by
  unfold erT
  split
  · rename_i h
    by_cases hl : r.2.2.2.1.toNat < T.length
    · rw [getD_setI _ _ _ _ hl]; split
      · rename_i e; rw [e]; omega
      · omega
    · rw [List.set_eq_of_length_le (by omega)]; omega
  · omega
theorem erGo_le (l : List Ri) (v : Nat) : ∀ s : List Int × List Ri, (erGo s l).1.getD v 0 ≤ s.1.getD v 0 := by
  induction l with
  | nil => intro s; rw [erGo_nil]; omega
  | cons r l ih => intro s; rw [erGo_cons]; have h1 := ih (erT s.1 r, erL s.1 s.2 r); have h2 := erT_le s.1 r v; simp only at h1; omega
/-- rides that leave at t or later bring nobody anywhere by t -/
theorem erGo_late (t : Int) (v : Nat) : ∀ (l : List Ri) (s : List Int × List Ri), (∀ r ∈ l, t ≤ r.2.1 ∧ r.2.1 < r.2.2.2.2.1) → (erGo s l).1.getD v 0 ≤ t → s.1.getD v 0 ≤ t
  | [], s, _, h => h
  | r :: l, s, hl, h => by
    rw [erGo_cons] at h
    have h1 := erGo_late t v l _ (fun x hx => hl x (by simp [hx])) h
    have h2 := hl r (by simp)
    simp only [erT] at h1
    split at h1
    · by_cases hlen : r.2.2.2.1.toNat < s.1.length
      · rw [getD_setI _ _ _ _ hlen] at h1
        split at h1
        · omega
        · exact h1
      · rw [List.set_eq_of_length_le (by omega)] at h1; exact h1
    · exact h1

/-- what is told at first -/
def er0 (g : Gr) (v t : Int) : List Int × List Ri := ((List.replicate g.lives.length (1099511627776 : Int)).set v.toNat t, List.replicate g.lives.length (0, 0, 0, 0, 0, 0))
/-- the earliest times, and the last rides -/
def erF (g : Gr) (v t : Int) : List Int × List Ri :=
  if aliveB t g.lives v = true then erGo (er0 g v t) (ridesF g) else (List.replicate g.lives.length 1099511627776, List.replicate g.lives.length (0, 0, 0, 0, 0, 0))
theorem erF_len (g : Gr) (v t : Int) : (erF g v t).1.length = g.lives.length ∧ (erF g v t).2.length = g.lives.length := by
  unfold erF
  split
  · have := erGo_len (ridesF g) (er0 g v t); simpa [er0] using this
  · simp
theorem rep_getD (n : Nat) (x : Int) (v : Nat) (hv : v < n) : (List.replicate n x).getD v 0 = x := by simp [List.getD_eq_getElem?_getD, hv]

/-- the state behind some rides: what is told is true, and the last rides lead there -/
structure ErOk (g : Gr) (v0 t0 : Int) (s : List Int × List Ri) : Prop where
  len : s.1.length = g.lives.length
  lenL : s.2.length = g.lives.length
  at0 : s.1.getD v0.toNat 0 = t0
  is : ∀ v : Nat, v < g.lives.length → s.1.getD v 0 = 1099511627776 ∨ Rch g v0 t0 (v : Int) (s.1.getD v 0)
  way : ∀ v : Nat, v < g.lives.length → s.1.getD v 0 ≠ 1099511627776 → (v : Int) ≠ v0 → RideOk g (s.2.getD v (0, 0, 0, 0, 0, 0)) ∧ (s.2.getD v (0, 0, 0, 0, 0, 0)).2.2.2.1 = (v : Int) ∧ (s.2.getD v (0, 0, 0, 0, 0, 0)).2.2.2.2.1 = s.1.getD v 0 ∧ s.1.getD (s.2.getD v (0, 0, 0, 0, 0, 0)).2.2.1.toNat 0 ≤ (s.2.getD v (0, 0, 0, 0, 0, 0)).2.1
theorem er0_ok {g : Gr} (R : Right g) {v t : Int} (h0 : 0 ≤ v) (ha : aliveB t g.lives v = true) : ErOk g v t (er0 g v t) := by
  have hv := alive_hor R ha
  have hg : ∀ x : Nat, x < g.lives.length → (er0 g v t).1.getD x 0 = if x = v.toNat then t else 1099511627776 := fun x hx => by
    unfold er0; simp only; rw [getD_setI _ _ _ _ (by simpa using hv.1), rep_getD _ _ _ hx]
  refine ⟨by simp [er0], by simp [er0], by rw [hg _ hv.1, if_pos rfl], fun x hx => ?_, fun x hx h1 h2 => ?_⟩
  · rw [hg _ hx]
    split
    · rename_i e; right; rw [e, show ((v.toNat : Nat) : Int) = v by omega]; exact .base ha
    · exact .inl rfl
  · rw [hg _ hx] at h1
    rw [if_neg (by omega)] at h1
    exact absurd rfl h1
theorem ErOk.step {g : Gr} (R : Right g) {v0 t0 : Int} {s : List Int × List Ri} (h0 : 0 ≤ v0) (h : ErOk g v0 t0 s) {r : Ri} (hr : RideOk g r) : ErOk g v0 t0 (erT s.1 r, erL s.1 s.2 r) := by
  by_cases hc : s.1.getD r.2.2.1.toNat 0 ≤ r.2.1 ∧ r.2.2.2.2.1 < s.1.getD r.2.2.2.1.toNat 0
  · obtain ⟨c1, c2⟩ := hc
    have eT : erT s.1 r = s.1.set r.2.2.2.1.toNat r.2.2.2.2.1 := by unfold erT; rw [if_pos ⟨c1, c2⟩]
    have eL : erL s.1 s.2 r = s.2.set r.2.2.2.1.toNat r := by unfold erL; rw [if_pos ⟨c1, c2⟩]
    rw [eT, eL]
    have hb : r.2.2.2.1.toNat < s.1.length := by rw [h.len]; have := hr.b0; omega
    have hbL : r.2.2.2.1.toNat < s.2.length := by rw [h.lenL]; have := hr.b0; omega
    have ha : r.2.2.1.toNat < g.lives.length := by have := hr.a0; omega
    have hor := hr.hor
    have hh := R.hor
    have hlt := hr.lt
    have hR : Rch g v0 t0 r.2.2.1 r.2.1 := by
      rcases h.is _ ha with e | e
      · omega
      · rw [show ((r.2.2.1.toNat : Nat) : Int) = r.2.2.1 by have := hr.a0; omega] at e
        exact e.waits R c1 hr.alA
    have hR2 := hr.go hR
    have hb0 := hr.b0
    have hge : ∀ x : Nat, x < g.lives.length → t0 ≤ s.1.getD x 0 := fun x hx => by
      rcases h.is x hx with e | e
      · rw [e]; have := (hR.le R); have := (hR.place R h0).2.2; omega
      · exact e.le R
    refine ⟨by rw [List.length_set]; exact h.len, by rw [List.length_set]; exact h.lenL, ?_, fun x hx => ?_, fun x hx k1 k2 => ?_⟩
    · simp only
      rw [getD_setI _ _ _ _ hb]
      split
      · rename_i e
        have h1 := h.at0
        rw [e] at h1
        have h2 := hR2.le R
        omega
      · exact h.at0
    · simp only
      rw [getD_setI _ _ _ _ hb]
      split
      · rename_i e; right; rw [e, show ((r.2.2.2.1.toNat : Nat) : Int) = r.2.2.2.1 by omega]; exact hR2
      · exact h.is x hx
    · simp only at k1 ⊢
      have hgt : ∀ y : Nat, (s.1.set r.2.2.2.1.toNat r.2.2.2.2.1).getD y 0 ≤ s.1.getD y 0 := fun y => by
        rw [getD_setI _ _ _ _ hb]
        split
        · rename_i e; rw [e]; omega
        · omega
      by_cases e : x = r.2.2.2.1.toNat
      · have eD : (s.2.set r.2.2.2.1.toNat r).getD x (0, 0, 0, 0, 0, 0) = r := by rw [getD_setR _ _ _ _ _ hbL, if_pos e]
        have eX : (s.1.set r.2.2.2.1.toNat r.2.2.2.2.1).getD x 0 = r.2.2.2.2.1 := by rw [getD_setI _ _ _ _ hb, if_pos e]
        rw [eD, eX]
        exact ⟨hr, by omega, rfl, Int.le_trans (hgt _) c1⟩
      · have eD : (s.2.set r.2.2.2.1.toNat r).getD x (0, 0, 0, 0, 0, 0) = s.2.getD x (0, 0, 0, 0, 0, 0) := by rw [getD_setR _ _ _ _ _ hbL, if_neg e]
        have eX : (s.1.set r.2.2.2.1.toNat r.2.2.2.2.1).getD x 0 = s.1.getD x 0 := by rw [getD_setI _ _ _ _ hb, if_neg e]
        rw [eX] at k1
        rw [eD, eX]
        obtain ⟨q1, q2, q3, q4⟩ := h.way x hx k1 k2
        exact ⟨q1, q2, q3, Int.le_trans (hgt _) q4⟩
  · have eT : erT s.1 r = s.1 := by unfold erT; rw [if_neg hc]
    have eL : erL s.1 s.2 r = s.2 := by unfold erL; rw [if_neg hc]
    rw [eT, eL]; exact h
theorem ErOk.go {g : Gr} (R : Right g) {v0 t0 : Int} (h0 : 0 ≤ v0) : ∀ (l : List Ri) (s : List Int × List Ri), (∀ r ∈ l, RideOk g r) → ErOk g v0 t0 s → ErOk g v0 t0 (erGo s l)
  | [], s, _, h => h
  | r :: l, s, hl, h => by
    rw [erGo_cons]
    exact ErOk.go R h0 l _ (fun x hx => hl x (by simp [hx])) (h.step R h0 (hl r (by simp)))
/-- what is told is the earliest -/
theorem er_least {g : Gr} (R : Right g) {v0 t0 v t : Int} (h0 : 0 ≤ v0) (h : Rch g v0 t0 v t) : (erGo (er0 g v0 t0) (ridesF g)).1.getD v.toNat 0 ≤ t := by
  induction h with
  | base ha =>
    have := (er0_ok R h0 ha).at0
    have := erGo_le (ridesF g) v0.toNat (er0 g v0 t0)
    omega
  | wait _ _ ih => omega
  | @ride t q i hi h hq ih =>
    have hp := h.place R h0
    obtain ⟨A, B, hAB⟩ := List.append_of_mem (ride_mem R hi hp.2.2.1 hq)
    have hs : (ridesF g).Pairwise fun a b => a.2.1 ≤ b.2.1 := ridesTo_sorted g _
    have hok : ∀ r ∈ ridesF g, RideOk g r := fun r hr => mem_rides R hr
    rw [hAB] at hs hok
    rw [hAB, erGo_app] at ih ⊢
    have hs2 := (List.pairwise_append.1 hs).2.1
    have h1 := erGo_late t _ _ _ (fun r hr => by
      refine ⟨?_, (hok r (by simp only [List.mem_append]; exact .inr hr)).lt⟩
      rcases List.mem_cons.1 hr with rfl | hr
      · exact Int.le_refl _
      · exact (List.pairwise_cons.1 hs2).1 r hr) ih
    rw [erGo_cons]
    have h2 := erGo_le B g.edges[i].2.1.toNat (erT (erGo (er0 g v0 t0) A).1 ((i : Int), t, g.edges[i].1, g.edges[i].2.1, q.1, q.2), erL (erGo (er0 g v0 t0) A).1 (erGo (er0 g v0 t0) A).2 ((i : Int), t, g.edges[i].1, g.edges[i].2.1, q.1, q.2))
    refine Int.le_trans h2 ?_
    simp only [erT]
    have hb : g.edges[i].2.1.toNat < (erGo (er0 g v0 t0) A).1.length := by
      rw [(erGo_len A _).1]
      have := (R.ends _ (List.getElem_mem hi)).2.1
      simp [er0]; omega
    split
    · rw [getD_setI _ _ _ _ hb, if_pos rfl]; omega
    · rename_i hn
      have := fun k => hn ⟨h1, k⟩
      omega
/-- the earliest times, said once -/
theorem erF_ok {g : Gr} (R : Right g) {v t : Int} (h0 : 0 ≤ v) (ha : aliveB t g.lives v = true) : ErOk g v t (erF g v t) ∧ ∀ x y, Rch g v t x y → (erF g v t).1.getD x.toNat 0 ≤ y := by
  have e : erF g v t = erGo (er0 g v t) (ridesF g) := by unfold erF; rw [if_pos ha]
  rw [e]
  exact ⟨ErOk.go R h0 _ _ (fun r hr => mem_rides R hr) (er0_ok R h0 ha), fun x y h => er_least R h0 h⟩
theorem erF_away {g : Gr} {v t : Int} (ha : ¬ aliveB t g.lives v = true) : (erF g v t).1 = List.replicate g.lives.length 1099511627776 := by unfold erF; rw [if_neg ha]

/-- one look at a ride backward -/
def ltT (T : List Int) (r : Ri) : List Int := if r.2.2.2.2.1 ≤ T.getD r.2.2.2.1.toNat 0 then T.set r.2.2.1.toNat (max (T.getD r.2.2.1.toNat 0) r.2.1) else T
def ltGo (T : List Int) (l : List Ri) : List Int := l.foldl ltT T
theorem ltGo_cons (T : List Int) (r : Ri) (l : List Ri) : ltGo T (r :: l) = ltGo (ltT T r) l := rfl
theorem ltGo_app (T : List Int) (a b : List Ri) : ltGo T (a ++ b) = ltGo (ltGo T a) b := by unfold ltGo; rw [List.foldl_append]
theorem ltT_len (T : List Int) (r : Ri) : (ltT T r).length = T.length := by unfold ltT; split <;> simp
theorem ltGo_len (l : List Ri) : ∀ T : List Int, (ltGo T l).length = T.length := by
  induction l with
  | nil => intro T; rfl
  | cons r l ih => intro T; rw [ltGo_cons, ih, ltT_len]
theorem ltT_ge (T : List Int) (r : Ri) (v : Nat) : T.getD v 0 ≤ (ltT T r).getD v 0 := by
  unfold ltT
  split
  · by_cases hl : r.2.2.1.toNat < T.length
    · rw [getD_setI _ _ _ _ hl]; split
      · rename_i e; rw [e]; omega
      · omega
    · rw [List.set_eq_of_length_le (by omega)]; omega
  · omega
theorem ltGo_ge (l : List Ri) (v : Nat) : ∀ T : List Int, T.getD v 0 ≤ (ltGo T l).getD v 0 := by
  induction l with
  | nil => intro T; exact Int.le_refl _
  | cons r l ih => intro T; rw [ltGo_cons]; have h1 := ih (ltT T r); have h2 := ltT_ge T r v; omega
theorem ltGo_late (t : Int) (v : Nat) : ∀ (l : List Ri) (T : List Int), (∀ r ∈ l, r.2.1 < t) → t ≤ (ltGo T l).getD v 0 → t ≤ T.getD v 0
  | [], T, _, h => h
  | r :: l, T, hl, h => by
    rw [ltGo_cons] at h
    have h1 := ltGo_late t v l _ (fun x hx => hl x (by simp [hx])) h
    have h2 := hl r (by simp)
    simp only [ltT] at h1
    split at h1
    · by_cases hlen : r.2.2.1.toNat < T.length
      · rw [getD_setI _ _ _ _ hlen] at h1
        split at h1
        · rename_i e; rw [e]; omega
        · exact h1
      · rw [List.set_eq_of_length_le (by omega)] at h1; exact h1
    · exact h1
def lt0 (g : Gr) (q d : Int) : List Int := (List.replicate g.lives.length (-1 : Int)).set q.toNat d
/-- the latest times -/
def ltF (g : Gr) (q d : Int) : List Int := if aliveB d g.lives q = true then ltGo (lt0 g q d) (ridesF g).reverse else List.replicate g.lives.length (-1)
theorem ltF_len (g : Gr) (q d : Int) : (ltF g q d).length = g.lives.length := by
  unfold ltF
  split
  · rw [ltGo_len]; simp [lt0]
  · simp
structure LtOk (g : Gr) (q d : Int) (T : List Int) : Prop where
  len : T.length = g.lives.length
  is : ∀ v : Nat, v < g.lives.length → T.getD v 0 = -1 ∨ Rch g (v : Int) (T.getD v 0) q d
theorem lt0_get {g : Gr} {q d : Int} (hq : q.toNat < g.lives.length) (x : Nat) (hx : x < g.lives.length) : (lt0 g q d).getD x 0 = if x = q.toNat then d else -1 := by
  unfold lt0; rw [getD_setI _ _ _ _ (by simpa using hq), rep_getD _ _ _ hx]
theorem lt0_ok {g : Gr} (R : Right g) {q d : Int} (h0 : 0 ≤ q) (ha : aliveB d g.lives q = true) : LtOk g q d (lt0 g q d) := by
  have hv := alive_hor R ha
  refine ⟨by simp [lt0], fun x hx => ?_⟩
  rw [lt0_get hv.1 x hx]
  split
  · rename_i e; right; rw [e, show ((q.toNat : Nat) : Int) = q by omega]; exact .base ha
  · exact .inl rfl
theorem LtOk.step {g : Gr} (R : Right g) {q d : Int} {T : List Int} (h : LtOk g q d T) {r : Ri} (hr : RideOk g r) : LtOk g q d (ltT T r) := by
  unfold ltT
  split
  · rename_i c
    have ha0 := hr.a0
    have hb0 := hr.b0
    have hlt := hr.lt
    have hd0 := hr.d0
    have ha : r.2.2.1.toNat < T.length := by rw [h.len]; omega
    refine ⟨by rw [List.length_set]; exact h.len, fun x hx => ?_⟩
    rw [getD_setI _ _ _ _ ha]
    split
    · rename_i e
      have hR : Rch g r.2.2.1 r.2.1 q d := by
        rcases h.is r.2.2.2.1.toNat (by omega) with e2 | e2
        · omega
        · rw [show ((r.2.2.2.1.toNat : Nat) : Int) = r.2.2.2.1 by omega] at e2
          exact ((hr.go (.base hr.alA)).waits R c e2.src).trans e2
      rw [e, show ((r.2.2.1.toNat : Nat) : Int) = r.2.2.1 by omega]
      right
      rcases Int.le_total (T.getD r.2.2.1.toNat 0) r.2.1 with k | k
      · rw [Int.max_eq_right k]; exact hR
      · rw [Int.max_eq_left k]
        rcases h.is r.2.2.1.toNat (by omega) with e2 | e2
        · omega
        · rw [show ((r.2.2.1.toNat : Nat) : Int) = r.2.2.1 by omega] at e2; exact e2
    · exact h.is x hx
  · exact h
theorem LtOk.go {g : Gr} (R : Right g) {q d : Int} : ∀ (l : List Ri) (T : List Int), (∀ r ∈ l, RideOk g r) → LtOk g q d T → LtOk g q d (ltGo T l)
  | [], T, _, h => h
  | r :: l, T, hl, h => by
    rw [ltGo_cons]
    exact LtOk.go R l _ (fun x hx => hl x (by simp [hx])) (h.step R (hl r (by simp)))
theorem lt_closed {g : Gr} (R : Right g) (T0 : List Int) (hT : T0.length = g.lives.length) {r : Ri} (hr : r ∈ ridesF g) (h : r.2.2.2.2.1 ≤ (ltGo T0 (ridesF g).reverse).getD r.2.2.2.1.toNat 0) : r.2.1 ≤ (ltGo T0 (ridesF g).reverse).getD r.2.2.1.toNat 0 := by
  have hrok := mem_rides R hr
  obtain ⟨A, B, hAB⟩ := List.append_of_mem hr
  have hs : (ridesF g).Pairwise fun a b => a.2.1 ≤ b.2.1 := ridesTo_sorted g _
  have hrev : (ridesF g).reverse = B.reverse ++ r :: A.reverse := by rw [hAB]; simp
  rw [hAB] at hs
  rw [hrev, ltGo_app] at h ⊢
  have hA := (List.pairwise_append.1 hs).2.2
  have hlt := hrok.lt
  have h1 := ltGo_late r.2.2.2.2.1 _ _ _ (fun x hx => by
    rcases List.mem_cons.1 hx with rfl | hx
    · exact hlt
    · have := hA x (List.mem_reverse.1 hx) r (by simp); omega) h
  rw [ltGo_cons]
  refine Int.le_trans ?_ (ltGo_ge A.reverse _ _)
  have ha : r.2.2.1.toNat < (ltGo T0 B.reverse).length := by rw [ltGo_len, hT]; have := hrok.a0; omega
  unfold ltT
  rw [if_pos h1, getD_setI _ _ _ _ ha, if_pos rfl]
  omega
/-- what is told is the latest -/
theorem ltF_ok {g : Gr} (R : Right g) {q d : Int} (h0 : 0 ≤ q) (ha : aliveB d g.lives q = true) : LtOk g q d (ltF g q d) ∧ ∀ x y, 0 ≤ x → Rch g x y q d → y ≤ (ltF g q d).getD x.toNat 0 := by
  have hv := alive_hor R ha
  have e : ltF g q d = ltGo (lt0 g q d) (ridesF g).reverse := by unfold ltF; rw [if_pos ha]
  rw [e]
  refine ⟨LtOk.go R _ _ (fun r hr => mem_rides R (List.mem_reverse.1 hr)) (lt0_ok R h0 ha), fun x y hx h => ?_⟩
  have key : ∀ v t, Rch g x y v t → t ≤ (ltGo (lt0 g q d) (ridesF g).reverse).getD v.toNat 0 → y ≤ (ltGo (lt0 g q d) (ridesF g).reverse).getD x.toNat 0 := by
    intro v t h
    induction h with
    | base _ => exact id
    | wait _ _ ih => exact fun h => ih (by omega)
    | @ride t q' i hi h hq ih =>
      intro h2
      have hp := h.place R hx
      exact ih (lt_closed R _ (by simp [lt0]) (ride_mem R hi hp.2.2.1 hq) h2)
  refine key q d h ?_
  have h1 := lt0_get (d := d) hv.1 q.toNat hv.1
  rw [if_pos rfl] at h1
  have := ltGo_ge (ridesF g).reverse q.toNat (lt0 g q d)
  omega
theorem ltF_away {g : Gr} {q d : Int} (ha : ¬ aliveB d g.lives q = true) : ltF g q d = List.replicate g.lives.length (-1) := by unfold ltF; rw [if_neg ha]

theorem mem_waitA {g : Gr} {t : Nat} {a : JA} : ∀ {k : Nat}, a ∈ waitA g t k ↔ ∃ v : Nat, v < k ∧ ((t : Int) + 1 < g.hor) ∧ aliveB ((t : Int) + 1) g.lives (v : Int) = true ∧ a = (v, t, v, t + 1, 0)
  | 0 => by simp [waitA]
  | k + 1 => by
    rw [waitA, List.mem_append, mem_waitA]
    constructor
    · rintro (⟨j, h1, h2⟩ | h1)
      · exact ⟨j, by omega, h2⟩
      · split at h1
        · rename_i h2
          rw [List.mem_singleton] at h1
          exact ⟨k, by omega, h2.1, h2.2, h1⟩
        · cases h1
    · rintro ⟨j, h1, h2, h3, h4⟩
      rcases Nat.lt_or_ge j k with h5 | h5
      · exact .inl ⟨j, h5, h2, h3, h4⟩
      · have : j = k := by omega
        subst this
        right; rw [if_pos ⟨h2, h3⟩, h4]; simp
theorem mem_legA {g : Gr} {pr : Int → Int} {t : Nat} {a : JA} : ∀ {i : Nat}, i ≤ g.edges.length → (a ∈ legA g pr t i ↔ ∃ (j : Nat) (hj : j < g.edges.length) (q : Int × Int), j < i ∧ lands g g.edges[j] (t : Int) = some q ∧ a = (g.edges[j].1.toNat, t, g.edges[j].2.1.toNat, q.1.toNat, pr q.2))
  | 0, _ => by simp [legA]
  | i + 1, hi => by
    rw [legA, List.mem_append, mem_legA (by omega), edge_getD (show i < g.edges.length by omega)]
    constructor
    · rintro (⟨j, hj, q, h1, h2⟩ | h1)
      · exact ⟨j, hj, q, by omega, h2⟩
      · split at h1
        · cases h1
        · rename_i q hq
          rw [List.mem_singleton] at h1
          exact ⟨i, by omega, q, by omega, hq, h1⟩
    · rintro ⟨j, hj, q, h1, h2, h3⟩
      rcases Nat.lt_or_ge j i with h4 | h4
      · exact .inl ⟨j, hj, q, h4, h2, h3⟩
      · have : j = i := by omega
        subst this
        right; rw [h2, h3]; simp
theorem mem_allA {g : Gr} {pr : Int → Int} {a : JA} : ∀ {k : Nat}, a ∈ allA g pr k ↔ ∃ t : Nat, t < k ∧ (a ∈ waitA g t g.lives.length ∨ a ∈ legA g pr t g.edges.length)
  | 0 => by simp [allA]
  | k + 1 => by
    rw [allA, List.mem_append, List.mem_append, mem_allA]
    constructor
    · rintro (⟨j, h1, h2⟩ | h1)
      · exact ⟨j, by omega, h2⟩
      · exact ⟨k, by omega, h1⟩
    · rintro ⟨j, h1, h2⟩
      rcases Nat.lt_or_ge j k with h4 | h4
      · exact .inl ⟨j, h4, h2⟩
      · have : j = k := by omega
        subst this
        exact .inr h2
open Classical in
/-- Sums tells of a place just if one can be there -/
theorem sum_reach {g : Gr} (R : Right g) {pr : Int → Int} (hpr : ∀ c, 0 ≤ c → c ≤ 1000 → 0 ≤ pr c ∧ pr c ≤ 1000) {v t : Int} (h0 : 0 ≤ v) {X : Tb} (B : JBest g.lives.length g.hor.toNat (firstT g v t) (allA g pr g.hor.toNat) X) (hT : Tm g.lives.length g.hor.toNat X)
    (x y : Nat) (hx : x < g.lives.length) (hy : y < g.hor.toNat) : tat X x y < 1099511627776 ↔ Rch g v t (x : Int) (y : Int) := by
  have hh := R.hor
  have hok := allA_ok R hpr g.hor.toNat (by omega)
  have hlt : ∀ a b : Nat, a < g.lives.length → b < g.hor.toNat → (tat X a b < 1099511627776 ↔ tat X a b ≤ 1000 * 100) := fun a b ha hb => by
    rcases hT a b ha hb with e | e <;> omega
  constructor
  · intro h
    have hadm : JAdm g.lives.length g.hor.toNat (firstT g v t) (allA g pr g.hor.toNat) (fun a b => if Rch g v t (a : Int) (b : Int) then 0 else 1099511627776) := by
      refine ⟨fun a b ha hb => ?_, fun a ha => ?_⟩
      · show (if Rch g v t (a : Int) (b : Int) then (0 : Int) else 1099511627776) ≤ _
        split
        · exact firstT_lo _ _ _ _ _
        · rename_i hn
          unfold firstT
          rw [if_neg (fun k => hn (by rw [k.2.1, k.2.2]; exact .base k.1))]
          omega
      · have hp := (hok a ha).p0
        obtain ⟨k, hk, ha | ha⟩ := mem_allA.1 ha
        · obtain ⟨u, h1, h2, h3, rfl⟩ := mem_waitA.1 ha
          simp only at hp ⊢
          by_cases hR : Rch g v t (u : Int) (k : Int)
          · rw [if_pos hR, if_pos (by have := hR.wait h3; rwa [show (k : Int) + 1 = ((k + 1 : Nat) : Int) by omega] at this)]; omega
          · rw [if_neg hR]; split <;> omega
        · obtain ⟨j, hj, q, _, hq, rfl⟩ := (mem_legA (Nat.le_refl _)).1 ha
          simp only at hp ⊢
          obtain ⟨l1, l2, l3, l4, _, _⟩ := lands_lt R hj hq
          obtain ⟨hA, hB, _⟩ := R.ends _ (List.getElem_mem hj)
          rw [show ((g.edges[j].1.toNat : Nat) : Int) = g.edges[j].1 by omega, show ((g.edges[j].2.1.toNat : Nat) : Int) = g.edges[j].2.1 by omega, show ((q.1.toNat : Nat) : Int) = q.1 by omega]
          by_cases hR : Rch g v t g.edges[j].1 (k : Int)
          · rw [if_pos hR, if_pos (.ride j hj hR hq)]; omega
          · rw [if_neg hR]; split <;> omega
    have hm := B.mid.most _ hadm x y hx hy
    refine Classical.byContradiction fun hn => ?_
    rw [if_neg hn] at hm
    omega
  · intro h
    have key : ∀ a b : Int, Rch g v t a b → tat X a.toNat b.toNat < 1099511627776 := by
      intro a b h
      induction h with
      | base ha =>
        have hv := alive_hor R ha
        have := B.mid.le v.toNat t.toNat hv.1 (by omega)
        unfold firstT at this
        rw [if_pos ⟨ha, by omega, by omega⟩] at this
        omega
      | @wait a b h ha ih =>
        have hp := h.place R h0
        have hp2 := (h.wait ha).place R h0
        have hmem : (a.toNat, b.toNat, a.toNat, b.toNat + 1, (0 : Int)) ∈ allA g pr g.hor.toNat := mem_allA.2 ⟨b.toNat, by omega, .inl (mem_waitA.2 ⟨a.toNat, by omega, by omega, by rw [show ((b.toNat : Nat) : Int) = b by omega, show ((a.toNat : Nat) : Int) = a by omega]; exact ha, rfl⟩)⟩
        have hc := B.cl _ hmem
        unfold dst src at hc
        simp only at hc
        rw [show (b + 1).toNat = b.toNat + 1 by omega]
        omega
      | @ride b q j hj h hq ih =>
        have hp := h.place R h0
        have hp2 := (Rch.ride j hj h hq).place R h0
        have hmem : (g.edges[j].1.toNat, b.toNat, g.edges[j].2.1.toNat, q.1.toNat, pr q.2) ∈ allA g pr g.hor.toNat := mem_allA.2 ⟨b.toNat, by omega, .inr ((mem_legA (Nat.le_refl _)).2 ⟨j, hj, q, hj, by rw [show ((b.toNat : Nat) : Int) = b by omega]; exact hq, rfl⟩)⟩
        have hc := B.cl _ hmem
        have hpp := hpr q.2 (lands_lt R hj hq).2.2.2.2.1 (lands_lt R hj hq).2.2.2.2.2
        have h3 := (hlt _ _ (by omega) (by omega)).1 ih
        unfold dst src at hc
        simp only at hc
        omega
    have := key _ _ h
    simpa using this

end Go.Proofs.YtjjhhmlogddnkaiDoor
