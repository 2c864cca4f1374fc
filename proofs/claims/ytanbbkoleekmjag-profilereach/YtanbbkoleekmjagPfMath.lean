/-
  Arrivals from any time: one look at each ride from the last to the first, for all times at once: plain mathematics, without any program.
-/
import Derived.Test.YtanbbkoleekmjagErMath
namespace Go.Proofs.Ytanbbkoleekmjag

/-- a row in which no number at a time from lo to hi is above x -/
def lowR (r : List Int) (lo hi x : Int) : List Int := (List.range r.length).map fun (s : Nat) => if lo ≤ (s : Int) ∧ (s : Int) ≤ hi then min (r.getD s 0) x else r.getD s 0
theorem lowR_len (r : List Int) (lo hi x : Int) : (lowR r lo hi x).length = r.length := by simp [lowR]
theorem lowR_get (r : List Int) (lo hi x : Int) (s : Nat) (hs : s < r.length) : (lowR r lo hi x).getD s 0 = if lo ≤ (s : Int) ∧ (s : Int) ≤ hi then min (r.getD s 0) x else r.getD s 0 := by
  simp [lowR, List.getD_eq_getElem?_getD, hs]
theorem row_ext {a b : List Int} (h : a.length = b.length) (k : ∀ v, v < a.length → a.getD v 0 = b.getD v 0) : a = b := by
  apply List.ext_getElem h
  intro i h1 h2
  have := k i h1
  simpa [List.getD_eq_getElem?_getD, h1, h2] using this
theorem lowR_start (r : List Int) (lo hi x : Int) (h : hi < lo) : lowR r lo hi x = r := by
  refine row_ext (lowR_len _ _ _ _) fun s hs => ?_
  rw [lowR_len] at hs
  rw [lowR_get _ _ _ _ _ hs, if_neg (by omega)]
theorem lowR_step (r : List Int) (hi x : Int) (t : Nat) (ht : t < r.length) (h1 : (t : Int) ≤ hi) (h2 : x < r.getD t 0) : (lowR r ((t : Int) + 1) hi x).set t x = lowR r (t : Int) hi x := by
  refine row_ext (by simp [lowR_len]) fun s hs => ?_
  rw [List.length_set, lowR_len] at hs
  rw [getD_setI _ _ _ _ (by rw [lowR_len]; exact ht), lowR_get _ _ _ _ _ hs, lowR_get _ _ _ _ _ hs]
  by_cases e : s = t
  · subst e
    rw [if_pos rfl, if_pos (by omega)]
    omega
  · rw [if_neg e]
    by_cases c : (t : Int) + 1 ≤ (s : Int) ∧ (s : Int) ≤ hi
    · rw [if_pos c, if_pos (by omega)]
    · rw [if_neg c, if_neg (by omega)]
theorem lowR_stop (r : List Int) (lo hi x : Int) (t : Nat) (h2 : r.getD t 0 ≤ x) (hm : ∀ s : Nat, lo ≤ (s : Int) → s ≤ t → r.getD s 0 ≤ r.getD t 0) (hl : lo ≤ (t : Int)) : lowR r ((t : Int) + 1) hi x = lowR r lo hi x := by
  refine row_ext (by simp [lowR_len]) fun s hs => ?_
  rw [lowR_len] at hs
  rw [lowR_get _ _ _ _ _ hs, lowR_get _ _ _ _ _ hs]
  by_cases c : (t : Int) + 1 ≤ (s : Int) ∧ (s : Int) ≤ hi
  · rw [if_pos c, if_pos (by omega)]
  · rw [if_neg c]
    by_cases c2 : lo ≤ (s : Int) ∧ (s : Int) ≤ hi
    · rw [if_pos c2]
      have := hm s c2.1 (by omega)
      omega
    · rw [if_neg c2]

/-- one look at a ride -/
def pfT (g : Gr) (T : Tb) (r : Ri) : Tb := T.set r.2.2.1.toNat (lowR (T.getD r.2.2.1.toNat []) (g.lives.getD r.2.2.1.toNat (0, 0)).1 r.2.1 (tat T r.2.2.2.1.toNat r.2.2.2.2.1.toNat))
def pfGo (g : Gr) (T : Tb) (l : List Ri) : Tb := l.foldl (pfT g) T
theorem pfGo_cons (g : Gr) (T : Tb) (r : Ri) (l : List Ri) : pfGo g T (r :: l) = pfGo g (pfT g T r) l := rfl
theorem pfGo_app (g : Gr) (T : Tb) (a b : List Ri) : pfGo g T (a ++ b) = pfGo g (pfGo g T a) b := by unfold pfGo; rw [List.foldl_append]
theorem pfGo_take {g : Gr} {T : Tb} {l : List Ri} {k : Nat} (hk : k < l.length) : pfGo g T (l.take (k + 1)) = pfT g (pfGo g T (l.take k)) l[k] := by
  unfold pfGo; rw [List.take_succ_eq_append_getElem hk, List.foldl_append]; rfl
/-- the row of the end: the times k0 and more, below k -/
def pfRow (h : Nat) (a b : Int) : List Int := (List.range h).map fun (t : Nat) => if a ≤ (t : Int) ∧ (t : Int) < b then (t : Int) else 1099511627776
theorem pfRow_len (h : Nat) (a b : Int) : (pfRow h a b).length = h := by simp [pfRow]
theorem pfRow_get (h : Nat) (a b : Int) (t : Nat) (ht : t < h) : (pfRow h a b).getD t 0 = if a ≤ (t : Int) ∧ (t : Int) < b then (t : Int) else 1099511627776 := by simp [pfRow, List.getD_eq_getElem?_getD, ht]
theorem pfRow_first (h : Nat) (a : Int) : pfRow h a a = List.replicate h 1099511627776 := by
  refine row_ext (by simp [pfRow]) fun t ht => ?_
  rw [pfRow_len] at ht
  rw [pfRow_get _ _ _ _ ht, if_neg (by omega), rep_getD _ _ _ ht]
theorem pfRow_next (h : Nat) (a : Int) (t : Nat) (ht : t < h) (ha : a ≤ (t : Int)) : (pfRow h a (t : Int)).set t (t : Int) = pfRow h a ((t : Int) + 1) := by
  refine row_ext (by simp [pfRow_len]) fun s hs => ?_
  rw [List.length_set, pfRow_len] at hs
  rw [getD_setI _ _ _ _ (by rw [pfRow_len]; exact ht), pfRow_get _ _ _ _ hs, pfRow_get _ _ _ _ hs]
  by_cases e : s = t
  · subst e; rw [if_pos rfl, if_pos (by omega)]
  · rw [if_neg e]
    by_cases c : a ≤ (s : Int) ∧ (s : Int) < (t : Int)
    · rw [if_pos c, if_pos (by omega)]
    · rw [if_neg c, if_neg (by omega)]
/-- what is told at first -/
def pf0 (g : Gr) (q : Nat) : Tb := (List.replicate g.lives.length (List.replicate g.hor.toNat (1099511627776 : Int))).set q (pfRow g.hor.toNat (g.lives.getD q (0, 0)).1 (g.lives.getD q (0, 0)).2)
/-- from each vertex at each time: when one comes to q -/
def pfF (g : Gr) (q : Nat) : Tb := pfGo g (pf0 g q) (ridesF g).reverse

theorem life_at {g : Gr} {v : Nat} (hv : v < g.lives.length) (t : Int) : aliveB t g.lives (v : Int) = true ↔ (g.lives.getD v (0, 0)).1 ≤ t ∧ t < (g.lives.getD v (0, 0)).2 := by
  rw [aliveB_at _ _ _ hv, hasB_iff]
  simp [List.getD_eq_getElem?_getD, hv]

/-- what holds of the table behind some rides -/
structure PfOk (g : Gr) (q : Nat) (T : Tb) : Prop where
  shp : Shp g.lives.length g.hor.toNat T
  is : ∀ v t : Nat, v < g.lives.length → t < g.hor.toNat → tat T v t = 1099511627776 ∨ Rch g (v : Int) (t : Int) (q : Int) (tat T v t)
  mono : ∀ v t : Nat, v < g.lives.length → aliveB (t : Int) g.lives (v : Int) = true → aliveB ((t : Int) + 1) g.lives (v : Int) = true → tat T v t ≤ tat T v (t + 1)
theorem PfOk.le {g : Gr} (R : Right g) {q : Nat} {T : Tb} (h : PfOk g q T) {v t : Nat} (hv : v < g.lives.length) (ht : t < g.hor.toNat) : tat T v t ≤ 1099511627776 := by
  rcases h.is v t hv ht with e | e
  · omega
  · have := (e.place R (by omega)).2.2.2
    have := R.hor
    omega
theorem PfOk.mono' {g : Gr} {q : Nat} {T : Tb} (h : PfOk g q T) {v : Nat} (hv : v < g.lives.length) {s : Nat} (ha : aliveB (s : Int) g.lives (v : Int) = true) : ∀ n : Nat, aliveB ((s + n : Nat) : Int) g.lives (v : Int) = true → tat T v s ≤ tat T v (s + n)
  | 0, _ => by simp
  | n + 1, hn => by
    have h1 : aliveB ((s + n : Nat) : Int) g.lives (v : Int) = true := alive_mid ha hn (by omega) (by omega)
    have h2 := h.mono' hv ha n h1
    have h3 := h.mono v (s + n) hv h1 (by rw [show ((s + n : Nat) : Int) + 1 = ((s + (n + 1) : Nat) : Int) by omega]; exact hn)
    rw [show s + n + 1 = s + (n + 1) by omega] at h3
    omega
theorem pf0_at {g : Gr} {q : Nat} (hq : q < g.lives.length) {v t : Nat} (hv : v < g.lives.length) (ht : t < g.hor.toNat) : tat (pf0 g q) v t = if v = q ∧ aliveB (t : Int) g.lives (q : Int) = true then (t : Int) else 1099511627776 := by
  unfold tat pf0
  rw [getD_set_row _ _ _ _ (by simpa using hq)]
  by_cases e : v = q
  · subst e
    rw [if_pos rfl, pfRow_get _ _ _ _ ht]
    by_cases a : aliveB (t : Int) g.lives (v : Int) = true
    · rw [if_pos ((life_at hv _).1 a), if_pos ⟨rfl, a⟩]
    · rw [if_neg (fun h => a ((life_at hv _).2 h)), if_neg (fun h => a h.2)]
  · rw [if_neg e, if_neg (fun h => e h.1)]
    simp [List.getD_eq_getElem?_getD, hv, ht]
theorem pf0_ok {g : Gr} (R : Right g) {q : Nat} (hq : q < g.lives.length) : PfOk g q (pf0 g q) := by
  refine ⟨⟨by simp [pf0], fun v hv => ?_⟩, fun v t hv ht => ?_, fun v t hv a1 a2 => ?_⟩
  · unfold pf0
    rw [getD_set_row _ _ _ _ (by simpa using hq)]
    split
    · rw [pfRow_len]
    · simp [List.getD_eq_getElem?_getD, hv]
  · rw [pf0_at hq hv ht]
    split
    · rename_i h
      obtain ⟨rfl, h⟩ := h
      exact .inr (.base h)
    · exact .inl rfl
  · have h1 := alive_hor R a1
    have h2 := alive_hor R a2
    rw [pf0_at hq hv (by omega), pf0_at hq hv (by omega)]
    by_cases e : v = q
    · subst e
      rw [if_pos ⟨rfl, a1⟩, if_pos ⟨rfl, by rw [show ((t + 1 : Nat) : Int) = (t : Int) + 1 by omega]; exact a2⟩]
      omega
    · rw [if_neg (fun h => e h.1), if_neg (fun h => e h.1)]; omega

theorem pfT_at {g : Gr} {T : Tb} (S : Shp g.lives.length g.hor.toNat T) {r : Ri} (hr : RideOk g r) {v t : Nat} (hv : v < g.lives.length) (ht : t < g.hor.toNat) :
    tat (pfT g T r) v t = if v = r.2.2.1.toNat ∧ (g.lives.getD v (0, 0)).1 ≤ (t : Int) ∧ (t : Int) ≤ r.2.1 then min (tat T v t) (tat T r.2.2.2.1.toNat r.2.2.2.2.1.toNat) else tat T v t := by
  have ha := hr.a0
  unfold pfT
  conv => lhs; unfold tat
  rw [getD_set_row _ _ _ _ (by rw [S.rows]; omega)]
  by_cases e : v = r.2.2.1.toNat
  · subst e
    rw [if_pos rfl, lowR_get _ _ _ _ _ (by rw [S.cols _ hv]; exact ht)]
    by_cases c : (g.lives.getD r.2.2.1.toNat (0, 0)).1 ≤ (t : Int) ∧ (t : Int) ≤ r.2.1
    · rw [if_pos c, if_pos ⟨rfl, c⟩]; rfl
    · rw [if_neg c, if_neg (fun h => c h.2)]; rfl
  · rw [if_neg e, if_neg (fun h => e h.1)]; rfl
theorem pfT_shp {g : Gr} {T : Tb} (S : Shp g.lives.length g.hor.toNat T) {r : Ri} (hr : RideOk g r) : Shp g.lives.length g.hor.toNat (pfT g T r) := by
  have ha := hr.a0
  refine ⟨by simp [pfT, S.rows], fun v hv => ?_⟩
  unfold pfT
  rw [getD_set_row _ _ _ _ (by rw [S.rows]; omega)]
  split
  · rw [lowR_len]; exact S.cols _ (by omega)
  · exact S.cols _ hv
theorem PfOk.step {g : Gr} (R : Right g) {q : Nat} {T : Tb} (h : PfOk g q T) {r : Ri} (hr : RideOk g r) : PfOk g q (pfT g T r) := by
  have ha := hr.a0
  have hb := hr.b0
  have hd := hr.d0
  have hl := hr.lt
  have hh := hr.hor
  have hA : r.2.2.1.toNat < g.lives.length := by omega
  have eA : ((r.2.2.1.toNat : Nat) : Int) = r.2.2.1 := by omega
  have eB : ((r.2.2.2.1.toNat : Nat) : Int) = r.2.2.2.1 := by omega
  have eR : ((r.2.2.2.2.1.toNat : Nat) : Int) = r.2.2.2.2.1 := by omega
  have hali := hr.alA
  have hlife : ∀ t : Nat, (g.lives.getD r.2.2.1.toNat (0, 0)).1 ≤ (t : Int) → (t : Int) ≤ r.2.1 → aliveB (t : Int) g.lives r.2.2.1 = true := fun t h1 h2 => by
    rw [← eA] at hali ⊢
    have := (life_at hA _).1 hali
    exact (life_at hA _).2 (by omega)
  refine ⟨pfT_shp h.shp hr, fun v t hv ht => ?_, fun v t hv a1 a2 => ?_⟩
  · rw [pfT_at h.shp hr hv ht]
    split
    · rename_i c
      obtain ⟨rfl, c1, c2⟩ := c
      have hle := h.le R hv ht
      rcases Int.le_total (tat T r.2.2.1.toNat t) (tat T r.2.2.2.1.toNat r.2.2.2.2.1.toNat) with k | k
      · rw [Int.min_eq_left k]; exact h.is _ _ hv ht
      · rw [Int.min_eq_right k]
        rcases h.is r.2.2.2.1.toNat r.2.2.2.2.1.toNat (by omega) (by omega) with e | e
        · exact .inl e
        · right
          rw [eA]
          rw [eB, eR] at e
          have h0 : Rch g r.2.2.1 (t : Int) r.2.2.1 (t : Int) := .base (hlife t c1 c2)
          exact (hr.go (h0.waits R c2 hr.alA)).trans e
    · exact h.is _ _ hv ht
  · have h1 := alive_hor R a1
    have h2 := alive_hor R a2
    have hm := h.mono v t hv a1 a2
    rw [pfT_at h.shp hr hv (by omega), pfT_at h.shp hr hv (by omega)]
    by_cases e : v = r.2.2.1.toNat
    · have l1 := (life_at hv _).1 a1
      have l2 := (life_at hv _).1 a2
      by_cases c : (t : Int) ≤ r.2.1
      · rw [if_pos ⟨e, l1.1, c⟩]
        by_cases c2 : ((t + 1 : Nat) : Int) ≤ r.2.1
        · rw [if_pos ⟨e, by omega, c2⟩]; omega
        · rw [if_neg (fun h => c2 h.2.2)]; omega
      · rw [if_neg (fun h => c h.2.2), if_neg (fun h => c (by have := h.2.2; omega))]; exact hm
    · rw [if_neg (fun h => e h.1), if_neg (fun h => e h.1)]; exact hm
theorem PfOk.go {g : Gr} (R : Right g) {q : Nat} : ∀ (l : List Ri) (T : Tb), (∀ r ∈ l, RideOk g r) → PfOk g q T → PfOk g q (pfGo g T l)
  | [], T, _, h => h
  | r :: l, T, hl, h => by
    rw [pfGo_cons]
    exact PfOk.go R l _ (fun x hx => hl x (by simp [hx])) (h.step R (hl r (by simp)))
theorem pfGo_shp {g : Gr} : ∀ (l : List Ri) (T : Tb), (∀ r ∈ l, RideOk g r) → Shp g.lives.length g.hor.toNat T → Shp g.lives.length g.hor.toNat (pfGo g T l)
  | [], T, _, h => h
  | r :: l, T, hl, h => by
    rw [pfGo_cons]
    exact pfGo_shp l _ (fun x hx => hl x (by simp [hx])) (pfT_shp h (hl r (by simp)))
theorem pfGo_le {g : Gr} {v t : Nat} (hv : v < g.lives.length) (ht : t < g.hor.toNat) : ∀ (l : List Ri) (T : Tb), (∀ r ∈ l, RideOk g r) → Shp g.lives.length g.hor.toNat T → tat (pfGo g T l) v t ≤ tat T v t
  | [], T, _, _ => Int.le_refl _
  | r :: l, T, hl, h => by
    rw [pfGo_cons]
    refine Int.le_trans (pfGo_le hv ht l _ (fun x hx => hl x (by simp [hx])) (pfT_shp h (hl r (by simp)))) ?_
    rw [pfT_at h (hl r (by simp)) hv ht]
    split <;> omega
/-- rides that leave before t turn nothing at t -/
theorem pfGo_late {g : Gr} {v t : Nat} (hv : v < g.lives.length) (ht : t < g.hor.toNat) : ∀ (l : List Ri) (T : Tb), (∀ r ∈ l, RideOk g r) → Shp g.lives.length g.hor.toNat T → (∀ r ∈ l, r.2.1 < (t : Int)) → tat (pfGo g T l) v t = tat T v t
  | [], T, _, _, _ => rfl
  | r :: l, T, hl, h, hd => by
    rw [pfGo_cons, pfGo_late hv ht l _ (fun x hx => hl x (by simp [hx])) (pfT_shp h (hl r (by simp))) (fun x hx => hd x (by simp [hx])), pfT_at h (hl r (by simp)) hv ht, if_neg]
    have := hd r (by simp)
    omega
/-- no ride makes one come earlier than is told -/
theorem pf_closed {g : Gr} (R : Right g) {T0 : Tb} (S0 : Shp g.lives.length g.hor.toNat T0) {r : Ri} (hr : r ∈ ridesF g) : tat (pfGo g T0 (ridesF g).reverse) r.2.2.1.toNat r.2.1.toNat ≤ tat (pfGo g T0 (ridesF g).reverse) r.2.2.2.1.toNat r.2.2.2.2.1.toNat := by
  have hrok := mem_rides R hr
  have hok : ∀ x ∈ ridesF g, RideOk g x := fun x hx => mem_rides R hx
  obtain ⟨A, B, hAB⟩ := List.append_of_mem hr
  have hs : (ridesF g).Pairwise fun a b => a.2.1 ≤ b.2.1 := ridesTo_sorted g _
  have hrev : (ridesF g).reverse = B.reverse ++ r :: A.reverse := by rw [hAB]; simp
  rw [hAB] at hs hok
  rw [hrev, pfGo_app, pfGo_cons]
  have hA := (List.pairwise_append.1 hs).2.2
  have okB : ∀ x ∈ B.reverse, RideOk g x := fun x hx => hok x (by simp [List.mem_reverse.1 hx])
  have okA : ∀ x ∈ A.reverse, RideOk g x := fun x hx => hok x (by simp [List.mem_reverse.1 hx])
  have S1 := pfGo_shp B.reverse T0 okB S0
  generalize pfGo g T0 B.reverse = T1 at *
  have S2 := pfT_shp S1 hrok
  have ha := hrok.a0
  have hb := hrok.b0
  have hd := hrok.d0
  have hl := hrok.lt
  have hh := hrok.hor
  have eA : ((r.2.2.1.toNat : Nat) : Int) = r.2.2.1 := by omega
  rw [pfGo_late (v := r.2.2.2.1.toNat) (t := r.2.2.2.2.1.toNat) (by omega) (by omega) A.reverse _ okA S2 (fun x hx => by have := hA x (List.mem_reverse.1 hx) r (by simp); omega)]
  refine Int.le_trans (pfGo_le (by omega) (by omega) A.reverse _ okA S2) ?_
  have hli := hrok.alA
  rw [← eA] at hli
  have hli := (life_at (by omega) _).1 hli
  rw [pfT_at S1 hrok (by omega) (by omega), if_pos ⟨rfl, by omega, by omega⟩, pfT_at S1 hrok (by omega) (by omega), if_neg (by omega)]
  omega
/-- from each time one is told when one comes -/
theorem pfF_ok {g : Gr} (R : Right g) {q : Nat} (hq : q < g.lives.length) : PfOk g q (pfF g q) := PfOk.go R _ _ (fun _ hr => mem_rides R (List.mem_reverse.1 hr)) (pf0_ok R hq)
theorem pfF_least {g : Gr} (R : Right g) {q : Nat} (hq : q < g.lives.length) {v t y : Int} (h0 : 0 ≤ v) (h : Rch g v t (q : Int) y) : tat (pfF g q) v.toNat t.toNat ≤ y := by
  have ok := pfF_ok R hq
  have key : ∀ x s, Rch g v t x s → tat (pfF g q) v.toNat t.toNat ≤ tat (pfF g q) x.toNat s.toNat := by
    intro x s h
    induction h with
    | base _ => exact Int.le_refl _
    | @wait x s h ha ih =>
      have hp := h.place R h0
      have hx : ((x.toNat : Nat) : Int) = x := by omega
      have hs : ((s.toNat : Nat) : Int) = s := by omega
      have := ok.mono x.toNat s.toNat (by omega) (by rw [hx, hs]; exact h.alive R) (by rw [hx, hs]; exact ha)
      rw [show (s + 1).toNat = s.toNat + 1 by omega]
      omega
    | @ride s q' i hi h hq' ih =>
      have hp := h.place R h0
      have := pf_closed R (pf0_ok R hq).shp (ride_mem R hi hp.2.2.1 hq')
      exact Int.le_trans ih this
  have hp := h.place R h0
  have h1 := key _ _ h
  rw [Int.toNat_natCast] at h1
  have h2 := pfGo_le (v := q) (t := y.toNat) hq (by omega) (ridesF g).reverse (pf0 g q) (fun r hr => mem_rides R (List.mem_reverse.1 hr)) (pf0_ok R hq).shp
  rw [pf0_at hq hq (by omega), if_pos ⟨rfl, by rw [show ((y.toNat : Nat) : Int) = y by omega]; exact h.alive R⟩] at h2
  unfold pfF at h1 ⊢
  omega
/-- it is what Arrivals tells -/
theorem pf_is {g : Gr} (R : Right g) {q : Nat} (hq : q < g.lives.length) {v t : Nat} (hv : v < g.lives.length) (ha : aliveB (t : Int) g.lives (v : Int) = true) : tat (pfF g q) v t = (erF g (v : Int) (t : Int)).1.getD q 0 := by
  have ht := alive_hor R ha
  have ok := pfF_ok R hq
  obtain ⟨E, L⟩ := erF_ok R (v := (v : Int)) (by omega) ha
  have hl := R.hor
  have h1 := ok.is v t hv (by omega)
  have h2 := E.is q hq
  have h3 : ∀ y, Rch g (v : Int) (t : Int) (q : Int) y → tat (pfF g q) v t ≤ y := fun y h => by have := pfF_least R hq (by omega) h; simpa using this
  have h4 : ∀ y, Rch g (v : Int) (t : Int) (q : Int) y → (erF g (v : Int) (t : Int)).1.getD q 0 ≤ y := fun y h => by have := L _ _ h; simpa using this
  have h5 : ∀ y, Rch g (v : Int) (t : Int) (q : Int) y → y < 1099511627776 := fun y h => by have := (h.place R (by omega)).2.2.2; omega
  rcases h1 with e1 | e1 <;> rcases h2 with e2 | e2
  · rw [e1, e2]
  · have := h3 _ e2; have := h5 _ e2; omega
  · have := h4 _ e1; have := h5 _ e1; omega
  · have := h3 _ e2; have := h4 _ e1; omega

end Go.Proofs.Ytanbbkoleekmjag
