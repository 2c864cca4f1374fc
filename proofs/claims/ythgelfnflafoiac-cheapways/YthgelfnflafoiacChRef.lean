/-
  What Least and Fastest of the reference answer is what the program's states tell.
-/
import Derived.Test.YthgelfnflafoiacErRef
import Derived.Test.YthgelfnflafoiacRLst
import Derived.Test.YthgelfnflafoiacRFst
import Derived.Test.YthgelfnflafoiacChMat2
namespace Go.Proofs.Ythgelfnflafoiac
open Go.RowKit

theorem least_nat {p : Nat → Prop} (h : ∃ n, p n) : ∃ n, p n ∧ ∀ m, p m → n ≤ m := by
  obtain ⟨n, hn⟩ := h
  induction n using Nat.strongRecOn with
  | _ n ih =>
    by_cases h : ∃ m, m < n ∧ p m
    · obtain ⟨m, h1, h2⟩ := h
      exact ih m h1 h2
    · exact ⟨n, hn, fun m hm => Nat.le_of_not_lt fun h' => h ⟨m, h', hm⟩⟩
theorem minG_spec (f : Nat → Int) : ∀ j, (∀ t, t < j → minG f j ≤ f t) ∧ (minG f j = 1099511627776 ∨ ∃ t, t < j ∧ minG f j = f t) ∧ minG f j ≤ 1099511627776
  | 0 => ⟨fun t h => by omega, .inl rfl, Int.le_refl _⟩
  | j + 1 => by
    obtain ⟨h1, h2, h3⟩ := minG_spec f j
    rw [minG]
    refine ⟨fun t ht => ?_, ?_, by omega⟩
    · by_cases e : t = j
      · subst e; omega
      · have := h1 t (by omega); omega
    · rcases Int.le_total (minG f j) (f j) with k | k
      · rw [Int.min_eq_left k]
        rcases h2 with h2 | ⟨t, k1, k2⟩
        · exact .inl h2
        · exact .inr ⟨t, by omega, k2⟩
      · rw [Int.min_eq_right k]; exact .inr ⟨j, by omega, rfl⟩
theorem pay_wait {g : Gr} {pr : Ri → Int} {v t x y p : Int} (h : Pay g pr v t x y p) (ha : aliveB (y + 1) g.lives x = true) : Pay g pr v t x (y + 1) p := ⟨h.1, .wait h.2 ha⟩
theorem pay_ride {g : Gr} (R : Right g) {pr : Ri → Int} {v t y p : Int} {j : Nat} (hj : j < g.edges.length) (h : Pay g pr v t g.edges[j].1 y p) (hy : 0 ≤ y) {q : Int × Int} (hq : lands g g.edges[j] y = some q) : Pay g pr v t g.edges[j].2.1 q.1 (p + pr ((j : Int), y, g.edges[j].1, g.edges[j].2.1, q.1, q.2)) := ⟨h.1, .ride (ride_mem R hj hy hq) h.2⟩
/-- no journey costs less than what Sums tells -/
theorem sum_below {g : Gr} (R : Right g) {pr : Int → Int} {v t : Int} (h0 : 0 ≤ v) {X : Tb} (B : JBest g.lives.length g.hor.toNat (firstT g v t) (allA g pr g.hor.toNat) X) {x y p : Int} (h : Pay g (fun r => pr r.2.2.2.2.2) v t x y p) : tat X x.toNat y.toNat ≤ p := by
  obtain ⟨ha, h⟩ := h
  have hF := F1_ok (g := g) h0 ha
  induction h with
  | @base x y p h =>
    have hv := alive_hor R ha
    unfold F1 at h
    split at h
    · rename_i e
      obtain ⟨rfl, rfl⟩ := e
      cases h
      have := B.mid.le x.toNat y.toNat hv.1 (by omega)
      unfold firstT at this
      rw [if_pos ⟨ha, by omega, by omega⟩] at this
      exact this
    · cases h
  | @wait x y p h hal ih =>
    have hp := h.place R hF
    have hp2 := alive_hor R hal
    have hmem : (x.toNat, y.toNat, x.toNat, y.toNat + 1, (0 : Int)) ∈ allA g pr g.hor.toNat := mem_allA.2 ⟨y.toNat, by omega, .inl (mem_waitA.2 ⟨x.toNat, by omega, by omega, by rw [show ((y.toNat : Nat) : Int) = y by omega, show ((x.toNat : Nat) : Int) = x by omega]; exact hal, rfl⟩)⟩
    have hc := B.cl _ hmem
    unfold dst src at hc
    simp only at hc
    rw [show (y + 1).toNat = y.toNat + 1 by omega]
    omega
  | @ride p r hr h ih =>
    have hp := h.place R hF
    obtain ⟨k, hk, hr'⟩ := mem_ridesTo.1 hr
    obtain ⟨j, hj, q, _, hq, rfl⟩ := (mem_ridesAt (Nat.le_refl _)).1 hr'
    simp only at ih hp ⊢
    have hmem : (g.edges[j].1.toNat, k, g.edges[j].2.1.toNat, q.1.toNat, pr q.2) ∈ allA g pr g.hor.toNat := mem_allA.2 ⟨k, by omega, .inr ((mem_legA (Nat.le_refl _)).2 ⟨j, hj, q, hj, hq, rfl⟩)⟩
    have hc := B.cl _ hmem
    unfold dst src at hc
    simp only at hc
    simp only [Int.toNat_natCast] at ih
    omega
open Classical in
/-- .. and one costs as much -/
theorem sum_is {g : Gr} (R : Right g) {pr : Int → Int} (hpr : ∀ c, 0 ≤ c → c ≤ 1000 → 0 ≤ pr c ∧ pr c ≤ 1000) {v t : Int} (h0 : 0 ≤ v) {X : Tb} (B : JBest g.lives.length g.hor.toNat (firstT g v t) (allA g pr g.hor.toNat) X)
    (x y : Nat) (hx : x < g.lives.length) (hy : y < g.hor.toNat) : 1099511627776 ≤ tat X x y ∨ Pay g (fun r => pr r.2.2.2.2.2) v t (x : Int) (y : Int) (tat X x y) := by
  have hh := R.hor
  have hok := allA_ok R hpr g.hor.toNat (by omega)
  have hP : PrOk g (fun r => pr r.2.2.2.2.2) := fun r hr => by have := (mem_rides R hr).c0; exact hpr _ this.1 this.2
  obtain ⟨Y, hY⟩ : ∃ Y : Nat → Nat → Int, ∀ a b, (Y a b = 1099511627776 ∧ ∀ p, ¬ Pay g (fun r => pr r.2.2.2.2.2) v t (a : Int) (b : Int) p) ∨ (Pay g (fun r => pr r.2.2.2.2.2) v t (a : Int) (b : Int) (Y a b) ∧ ∀ p, Pay g (fun r => pr r.2.2.2.2.2) v t (a : Int) (b : Int) p → Y a b ≤ p) := by
    have key : ∀ a b : Nat, ∃ z : Int, (z = 1099511627776 ∧ ∀ p, ¬ Pay g (fun r => pr r.2.2.2.2.2) v t (a : Int) (b : Int) p) ∨ (Pay g (fun r => pr r.2.2.2.2.2) v t (a : Int) (b : Int) z ∧ ∀ p, Pay g (fun r => pr r.2.2.2.2.2) v t (a : Int) (b : Int) p → z ≤ p) := fun a b => by
      by_cases h : ∃ p, Pay g (fun r => pr r.2.2.2.2.2) v t (a : Int) (b : Int) p
      · obtain ⟨p, hp⟩ := h
        have hr := hp.range R hP h0
        obtain ⟨n, h1, h2⟩ := least_nat (p := fun n => Pay g (fun r => pr r.2.2.2.2.2) v t (a : Int) (b : Int) (n : Int)) ⟨p.toNat, by rw [show ((p.toNat : Nat) : Int) = p by omega]; exact hp⟩
        refine ⟨n, .inr ⟨h1, fun p' hp' => ?_⟩⟩
        have hr' := hp'.range R hP h0
        have := h2 p'.toNat (by rw [show ((p'.toNat : Nat) : Int) = p' by omega]; exact hp')
        omega
      · exact ⟨_, .inl ⟨rfl, fun p hp => h ⟨p, hp⟩⟩⟩
    exact ⟨fun a b => Classical.choose (key a b), fun a b => Classical.choose_spec (key a b)⟩
  have hYle : ∀ a b, Y a b ≤ 1099511627776 := fun a b => by
    rcases hY a b with h | h
    · omega
    · have := h.1.range R hP h0; omega
  have hYp : ∀ a b p, Pay g (fun r => pr r.2.2.2.2.2) v t ((a : Nat) : Int) ((b : Nat) : Int) p → Y a b ≤ p := fun a b p hp => by
    rcases hY a b with h | h
    · exact absurd hp (h.2 p)
    · exact h.2 p hp
  have hadm : JAdm g.lives.length g.hor.toNat (firstT g v t) (allA g pr g.hor.toNat) Y := by
    refine ⟨fun a b ha hb => ?_, fun a ha => ?_⟩
    · unfold firstT
      split
      · rename_i e
        refine hYp a b 0 ⟨e.1, .base ?_⟩
        unfold F1; rw [if_pos ⟨e.2.1, e.2.2⟩]
      · exact hYle a b
    · have hp := (hok a ha).p0
      have hp1 := (hok a ha).p1
      obtain ⟨k, hk, ha | ha⟩ := mem_allA.1 ha
      · obtain ⟨u, h1, h2, h3, rfl⟩ := mem_waitA.1 ha
        simp only at hp ⊢
        rcases hY u k with h | h
        · have := hYle u (k + 1); omega
        · have := hYp u (k + 1) _ (by have := pay_wait h.1 h3; rwa [show (k : Int) + 1 = ((k + 1 : Nat) : Int) by omega] at this)
          omega
      · obtain ⟨j, hj, q, _, hq, rfl⟩ := (mem_legA (Nat.le_refl _)).1 ha
        simp only at hp hp1 ⊢
        obtain ⟨l1, l2, l3, l4, _, _⟩ := lands_lt R hj hq
        obtain ⟨hA, hB, _⟩ := R.ends _ (List.getElem_mem hj)
        have eA : ((g.edges[j].1.toNat : Nat) : Int) = g.edges[j].1 := by omega
        have eB : ((g.edges[j].2.1.toNat : Nat) : Int) = g.edges[j].2.1 := by omega
        have eq : ((q.1.toNat : Nat) : Int) = q.1 := by omega
        rcases hY g.edges[j].1.toNat k with h | h
        · have := hYle g.edges[j].2.1.toNat q.1.toNat; omega
        · have h' := h.1
          rw [eA] at h'
          have := pay_ride R hj h' (by omega) hq
          simp only at this
          exact hYp _ _ _ (by rw [eB, eq]; exact this)
  have hm := B.mid.most Y hadm x y hx hy
  rcases hY x y with h | h
  · left; omega
  · right
    have := sum_below R h0 B h.1
    simp only [Int.toNat_natCast] at this
    have e : Y x y = tat X x y := by omega
    rw [← e]; exact h.1
/-- Least tells the least prices -/
theorem least_ref {g : Gr} (R : Right g) {pr : Int → Int} (hpr : ∀ c, 0 ≤ c → c ≤ 1000 → 0 ≤ pr c ∧ pr c ≤ 1000) {v t : Int} (h0 : 0 ≤ v) {X : Tb} (B : JBest g.lives.length g.hor.toNat (firstT g v t) (allA g pr g.hor.toNat) X) : LeastIs g (fun r => pr r.2.2.2.2.2) v t (lstL X g.hor.toNat g.lives.length) := by
  have hg : ∀ x, x < g.lives.length → (lstL X g.hor.toNat g.lives.length).getD x 0 = minG (tat X x) g.hor.toNat := fun x hx => by simp [lstL, List.getD_eq_getElem?_getD, hx]
  refine ⟨by simp [lstL], fun x hx => ?_, fun x hx y p hp => ?_⟩
  · rw [hg x hx]
    obtain ⟨h1, h2, h3⟩ := minG_spec (tat X x) g.hor.toNat
    rcases h2 with h2 | ⟨y, k1, k2⟩
    · exact .inl h2
    · rcases sum_is R hpr h0 B x y hx k1 with h | h
      · left; omega
      · right; rw [k2]; exact ⟨_, h⟩
  · rw [hg x hx]
    obtain ⟨h1, h2, h3⟩ := minG_spec (tat X x) g.hor.toNat
    have hpl := hp.2.place R (F1_ok h0 hp.1)
    have k1 := h1 y.toNat (by omega)
    have k2 := sum_below R h0 B hp
    simp only [Int.toNat_natCast] at k2
    omega

theorem fstF_spec (g : Gr) (v q : Nat) : ∀ k : Nat, ((fstF g v q k).1 = 1099511627776 ∧ ∀ t : Nat, t < k → ¬ ((arrF g v t).getD q 0 < 1099511627776 ∧ (arrF g v t).getD q 0 - t < 1099511627776)) ∨ ∃ t : Nat, t < k ∧ (arrF g v t).getD q 0 < 1099511627776 ∧ fstF g v q k = ((arrF g v t).getD q 0 - t, (t : Int)) ∧ ∀ t' : Nat, t' < k → (arrF g v t').getD q 0 < 1099511627776 → (arrF g v t).getD q 0 - t ≤ (arrF g v t').getD q 0 - t' ∧ ((arrF g v t).getD q 0 - (t : Int) = (arrF g v t').getD q 0 - t' → t ≤ t')
  | 0 => .inl ⟨rfl, fun t h => by omega⟩
  | k + 1 => by
    have ih := fstF_spec g v q k
    rw [fstF]
    rcases ih with ⟨h1, h2⟩ | ⟨t, h1, h2, h3, h4⟩
    · split
      · rename_i hc
        refine .inr ⟨k, by omega, hc.1, rfl, fun t' ht' hz' => ?_⟩
        by_cases e : t' = k
        · subst e; exact ⟨Int.le_refl _, fun _ => Nat.le_refl _⟩
        · exact absurd ⟨hz', by omega⟩ (h2 t' (by omega))
      · rename_i hc
        refine .inl ⟨h1, fun t ht => ?_⟩
        by_cases e : t = k
        · subst e; rw [h1] at hc; exact hc
        · exact h2 t (by omega)
    · rw [h3]
      simp only
      split
      · rename_i hc
        refine .inr ⟨k, by omega, hc.1, rfl, fun t' ht' hz' => ?_⟩
        by_cases e : t' = k
        · subst e; exact ⟨Int.le_refl _, fun _ => Nat.le_refl _⟩
        · have := (h4 t' (by omega) hz').1
          exact ⟨by omega, fun _ => by omega⟩
      · rename_i hc
        refine .inr ⟨t, by omega, h2, rfl, fun t' ht' hz' => ?_⟩
        by_cases e : t' = k
        · subst e
          have : ¬ ((arrF g v t').getD q 0 - t' < (arrF g v t).getD q 0 - t) := fun h => hc ⟨hz', h⟩
          exact ⟨by omega, fun _ => by omega⟩
        · exact h4 t' (by omega) hz'
/-- .. Fastest the fastest -/
theorem fast_ref {g : Gr} {la ea : Option Addr} {w : World} (hG : GAt w la ea g) (hg0 : gChk g = 0) {v q : Nat} (hv : v < g.lives.length) (hq : q < g.lives.length) :
    ((fstF g v q g.hor.toNat).1 = 1099511627776 → FastIs g v q 0 0 4) ∧ ((fstF g v q g.hor.toNat).1 ≠ 1099511627776 → FastIs g v q (fstF g v q g.hor.toNat).1 (fstF g v q g.hor.toNat).2 0) := by
  have R := gChk_right hg0
  have hh := R.hor
  have hA : ∀ t : Nat, (t : Int) < g.hor → arrF g v t = (erF g v t).1 := fun t ht => arrF_is hG (placeE_of hg0 ⟨by omega, by omega⟩ ⟨by omega, ht⟩)
  have hin : ∀ s τ, Rch g v s q τ → (arrF g v ((s.toNat : Nat) : Int)).getD q 0 ≤ τ ∧ s.toNat < g.hor.toNat ∧ ((s.toNat : Nat) : Int) = s ∧ τ < 1099511627776 := fun s τ h => by
    have h1 := alive_hor R h.src
    have e : ((s.toNat : Nat) : Int) = s := by omega
    have h2 := (erF_ok R (v := (v : Int)) (t := s) (by omega) h.src).2 _ _ h
    have h3 := (h.place R (by omega)).2.2
    rw [hA s.toNat (by omega), e]
    simp only [Int.toNat_natCast] at h2
    exact ⟨h2, by omega, rfl, by omega⟩
  have hout : ∀ t : Nat, t < g.hor.toNat → (arrF g v t).getD q 0 < 1099511627776 → Rch g v t q ((arrF g v t).getD q 0) := fun t ht h => by
    rw [hA t (by omega)] at h ⊢
    by_cases ha : aliveB (t : Int) g.lives (v : Int) = true
    · rcases (erF_ok R (v := (v : Int)) (t := (t : Int)) (by omega) ha).1.is q hq with e | e
      · omega
      · exact e
    · rw [erF_away ha, rep_getD _ _ _ hq] at h; omega
  rcases fstF_spec g v q g.hor.toNat with ⟨h1, h2⟩ | ⟨t, h1, h2, h3, h4⟩
  · refine ⟨fun _ => .inl ⟨rfl, rfl, rfl, fun s τ h => ?_⟩, fun h => absurd h1 h⟩
    obtain ⟨k1, k2, k3, k4⟩ := hin s τ h
    exact h2 s.toNat k2 ⟨by omega, by omega⟩
  · rw [h3]
    refine ⟨fun h => by simp only at h; have := (hout t h1 h2).le R; have := ((hout t h1 h2).place R (by omega)).2.2; omega, fun _ => .inr ⟨rfl, ?_, fun s τ h => ?_, fun s h => ?_⟩⟩
    · have := hout t h1 h2
      simp only
      rw [show (t : Int) + ((arrF g v t).getD q 0 - t) = (arrF g v t).getD q 0 by omega]
      exact this
    · obtain ⟨k1, k2, k3, k4⟩ := hin s τ h
      have := (h4 s.toNat k2 (by omega)).1
      simp only; omega
    · simp only at h ⊢
      obtain ⟨k1, k2, k3, k4⟩ := hin s _ h
      have := h4 s.toNat k2 (by omega)
      omega

end Go.Proofs.Ythgelfnflafoiac
