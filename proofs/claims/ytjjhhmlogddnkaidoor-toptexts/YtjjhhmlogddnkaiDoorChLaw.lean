/-
  What is told of the earliest, the cheapest, the fewest and the fastest, held against each other and against journeys: plain mathematics; the two small graphs that the laws try first.
-/
import Derived.Test.YtjjhhmlogddnkaiDoorChF
namespace Go.Proofs.YtjjhhmlogddnkaiDoor

theorem Pay.rch {g : Gr} (R : Right g) {pr : Ri → Int} {v t x y p : Int} (h : Pay g pr v t x y p) : Rch g v t x y := by
  obtain ⟨ha, h⟩ := h
  induction h with
  | @base x y p h =>
    unfold F1 at h
    split at h
    · rename_i e; obtain ⟨rfl, rfl⟩ := e; exact .base ha
    · cases h
  | wait _ hal ih => exact .wait ih hal
  | ride hr _ ih => exact (mem_rides R hr).go ih
theorem Rch.pay {g : Gr} (R : Right g) (pr : Ri → Int) {v t x y : Int} (h0 : 0 ≤ v) (h : Rch g v t x y) : ∃ p, Pay g pr v t x y p := by
  induction h with
  | base ha => exact ⟨0, ha, .base (by unfold F1; rw [if_pos ⟨rfl, rfl⟩])⟩
  | wait _ hal ih =>
    obtain ⟨p, hp⟩ := ih
    exact ⟨p, hp.1, .wait hp.2 hal⟩
  | @ride t q i hi h hq ih =>
    obtain ⟨p, hp⟩ := ih
    exact ⟨_, hp.1, .ride (ride_mem R hi (h.place R h0).2.2.1 hq) hp.2⟩
/-- what has few hops costs no more than so many of the dearest -/
theorem pay_both {g : Gr} (R : Right g) {v t x y p : Int} (h : Pay g prOne v t x y p) : ∃ q, Pay g prCost v t x y q ∧ q ≤ p * 1000 := by
  obtain ⟨ha, h⟩ := h
  induction h with
  | @base x y p h =>
    refine ⟨p, ⟨ha, .base h⟩, ?_⟩
    unfold F1 at h
    split at h
    · cases h; omega
    · cases h
  | wait _ hal ih =>
    obtain ⟨q, hq, hle⟩ := ih
    exact ⟨q, ⟨ha, .wait hq.2 hal⟩, hle⟩
  | @ride p r hr _ ih =>
    obtain ⟨q, hq, hle⟩ := ih
    have := (mem_rides R hr).c0
    refine ⟨q + prCost r, ⟨ha, .ride hr hq.2⟩, ?_⟩
    unfold prCost prOne
    omega
/-- one hop is a ride -/
theorem hop_pay {g : Gr} (R : Right g) {pr : Ri → Int} {v0 t0 v t c p : Int} (h0 : 0 ≤ v0) {h : Hp} {s : Int × Int × Int} (e : hopF g (v, t, c) h = some s) (hp : Pay g pr v0 t0 v t p) : Pay g pr v0 t0 s.1 s.2.1 (p + pr (h.1, h.2, v, s.1, s.2.1, s.2.2 - c)) := by
  unfold hopF at e
  split at e
  · rename_i h1
    have h1 := (inR_iff _ _ _).1 h1
    obtain ⟨E, hE⟩ : ∃ E : Nat, h.1 = (E : Int) := ⟨h.1.toNat, by omega⟩
    have hE' : E < g.edges.length := by omega
    have hg : g.edges.getD h.1.toNat (0, 0, []) = g.edges[E] := by rw [hE, Int.toNat_natCast, List.getD_eq_getElem?_getD, List.getElem?_eq_getElem hE']; rfl
    rw [hg] at e
    split at e
    · rename_i h2
      split at e
      · cases e
      · rename_i q hq
        simp only [Option.some.injEq] at e
        subst e
        simp only at h2
        obtain ⟨k1, k2, k3, k4, _, _⟩ := lands_lt R hE' hq
        have hw := hp.waits R h0 h2.2 (by rw [← h2.1]; exact k2)
        have hd := (hw.place R h0).2.2.2.1
        rw [← h2.1] at hw
        have := Pd.ride (ride_mem R hE' hd hq) hw.2
        simp only at this
        have hc : c + q.2 - c = q.2 := by omega
        simp only
        rw [hc, hE, ← h2.1]
        exact ⟨hp.1, this⟩
    · cases e
  · cases e
/-- a journey is paid for -/
theorem go_pay {g : Gr} (R : Right g) {v0 t0 : Int} (h0 : 0 ≤ v0) : ∀ (l : List Hp) (v t c p n : Int) (s : Int × Int × Int), Pay g prCost v0 t0 v t p → Pay g prOne v0 t0 v t n → goF g (some (v, t, c)) l = some s → Pay g prCost v0 t0 s.1 s.2.1 (p + (s.2.2 - c)) ∧ Pay g prOne v0 t0 s.1 s.2.1 (n + l.length)
  | [], v, t, c, p, n, s, hp, hn, e => by
    rw [goF_nil] at e
    cases e
    simp only [List.length_nil, Int.natCast_zero, Int.add_zero, Int.sub_self]
    exact ⟨hp, hn⟩
  | h :: l, v, t, c, p, n, s, hp, hn, e => by
    rw [goF_cons, Option.bind_some] at e
    cases e1 : hopF g (v, t, c) h with
    | none => rw [e1, goF_none] at e; cases e
    | some s1 =>
      rw [e1] at e
      have k1 := hop_pay R h0 e1 hp
      have k2 := hop_pay R h0 e1 hn
      obtain ⟨q1, q2⟩ := go_pay R h0 l s1.1 s1.2.1 s1.2.2 _ _ s k1 k2 e
      unfold prCost at q1
      unfold prOne at q2
      refine ⟨?_, ?_⟩
      · rw [show p + (s.2.2 - c) = p + (s1.2.2 - c) + (s.2.2 - s1.2.2) by omega]; exact q1
      · rw [List.length_cons, show n + ((l.length + 1 : Nat) : Int) = n + 1 + l.length by omega]; exact q2
theorem go_pays {g : Gr} (R : Right g) {v t : Int} (h0 : 0 ≤ v) (ha : aliveB t g.lives v = true) {l : List Hp} {s : Int × Int × Int} (e : goF g (some (v, t, 0)) l = some s) : Pay g prCost v t s.1 s.2.1 s.2.2 ∧ Pay g prOne v t s.1 s.2.1 l.length := by
  have hb : ∀ pr, Pay g pr v t v t 0 := fun pr => ⟨ha, .base (by unfold F1; rw [if_pos ⟨rfl, rfl⟩])⟩
  have := go_pay R h0 l v t 0 0 0 s (hb _) (hb _) e
  simpa using this
/-- earliest times and least prices are told of the same vertices -/
theorem inf_same {g : Gr} (R : Right g) {pr : Ri → Int} (hpr : PrOk g pr) {v t : Int} (h0 : 0 ≤ v) {L : List Int} (h : LeastIs g pr v t L) {x : Nat} (hx : x < g.lives.length) : (L.getD x 0 = 1099511627776 ↔ (erF g v t).1.getD x 0 = 1099511627776) ∧ (L.getD x 0 ≠ 1099511627776 → 0 ≤ L.getD x 0 ∧ L.getD x 0 ≤ 100000) ∧ ((erF g v t).1.getD x 0 ≠ 1099511627776 → Rch g v t x ((erF g v t).1.getD x 0) ∧ aliveB t g.lives v = true) := by
  have hr2 : (erF g v t).1.getD x 0 ≠ 1099511627776 → Rch g v t x ((erF g v t).1.getD x 0) ∧ aliveB t g.lives v = true := fun hne => by
    by_cases ha : aliveB t g.lives v = true
    · rcases (erF_ok R h0 ha).1.is x hx with e | e
      · exact absurd e hne
      · exact ⟨e, ha⟩
    · exact absurd (by rw [erF_away ha, rep_getD _ _ _ hx]) hne
  refine ⟨⟨fun e => Classical.byContradiction fun hne => ?_, fun e => Classical.byContradiction fun hne => ?_⟩, fun hne => ?_, hr2⟩
  · obtain ⟨p, hp⟩ := (hr2 hne).1.pay R pr h0
    have h1 := h.least x hx _ _ hp
    have h2 := hp.range R hpr h0
    omega
  · rcases h.is x hx with k | ⟨y, k⟩
    · exact hne k
    · have h1 := (erF_ok R h0 k.1).2 _ _ (k.rch R)
      have h2 := (k.place R h0).2.2.2
      have h3 := R.hor
      simp only [Int.toNat_natCast] at h1
      omega
  · rcases h.is x hx with k | ⟨y, k⟩
    · exact absurd k hne
    · exact k.range R hpr h0
theorem er_le {g : Gr} (R : Right g) {v t : Int} (h0 : 0 ≤ v) {x : Nat} (hx : x < g.lives.length) : 0 ≤ (erF g v t).1.getD x 0 ∧ (erF g v t).1.getD x 0 ≤ 1099511627776 ∧ ((erF g v t).1.getD x 0 ≠ 1099511627776 → (erF g v t).1.getD x 0 < g.hor) := by
  have hh := R.hor
  by_cases ha : aliveB t g.lives v = true
  · rcases (erF_ok R h0 ha).1.is x hx with e | e
    · rw [e]; exact ⟨by omega, by omega, fun h => absurd rfl h⟩
    · have := (e.place R h0).2.2; exact ⟨by omega, by omega, fun _ => by omega⟩
  · rw [erF_away ha, rep_getD _ _ _ hx]; exact ⟨by omega, by omega, fun h => absurd rfl h⟩
/-- a lower bound of vertices that no ride goes below -/
theorem pay_bound {g : Gr} {pr : Ri → Int} {v t : Int} {b : Int → Int} (hb : b v ≤ 0) (hr : ∀ r ∈ ridesF g, b r.2.2.2.1 ≤ b r.2.2.1 + pr r) {x y p : Int} (h : Pay g pr v t x y p) : b x ≤ p := by
  obtain ⟨_, h⟩ := h
  induction h with
  | @base x y p h =>
    unfold F1 at h
    split at h
    · rename_i e; obtain ⟨rfl, _⟩ := e; cases h; exact hb
    · cases h
  | wait _ _ ih => exact ih
  | ride hm _ ih => have := hr _ hm; omega

end Go.Proofs.YtjjhhmlogddnkaiDoor
