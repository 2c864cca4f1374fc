/-
  Journeys once more: where one comes by a hop, journeys and their parts, which hops leave and in which order: plain mathematics, without any program.
-/
import Derived.Test.YtjjhhmlogddnkaiDoorJnMath
namespace Go.Proofs.YtjjhhmlogddnkaiDoor

theorem alive_hor {g : Gr} (R : Right g) {v t : Int} (h : aliveB t g.lives v = true) : v.toNat < g.lives.length ∧ 0 ≤ t ∧ t < g.hor := by
  unfold aliveB aliveL at h
  by_cases hv : v.toNat < g.lives.length
  · rw [List.getD_eq_getElem?_getD, List.getElem?_map, List.getElem?_eq_getElem hv] at h
    have h' := (hasB_iff _ _ _).1 (show hasB g.lives[v.toNat].1 g.lives[v.toNat].2 t = true from h)
    have := R.life _ (List.getElem_mem hv)
    exact ⟨hv, by omega, by omega⟩
  · rw [List.getD_eq_getElem?_getD, List.getElem?_eq_none (by simpa using hv)] at h
    cases h

/-- a state on the way: one is there -/
structure There (g : Gr) (s : Int × Int × Int) : Prop where
  v0 : 0 ≤ s.1
  v1 : s.1 < g.lives.length
  al : aliveB s.2.1 g.lives s.1 = true
theorem There.time {g : Gr} (R : Right g) {s : Int × Int × Int} (h : There g s) : 0 ≤ s.2.1 ∧ s.2.1 < g.hor := (alive_hor R h.al).2
theorem There.place {g : Gr} (h0 : gChk g = 0) {s : Int × Int × Int} (h : There g s) : placeE g s.1 s.2.1 = 0 := by
  have := h.time (gChk_right h0)
  have := h.v0
  have := h.v1
  unfold placeE
  rw [if_pos h0, if_pos ((inR_iff _ _ _).2 (by omega)), if_pos ((inR_iff _ _ _).2 (by omega))]

theorem hopF_spec {g : Gr} (R : Right g) {s s' : Int × Int × Int} {h : Hp} (e : hopF g s h = some s') :
    There g s' ∧ (0 ≤ h.1 ∧ h.1 < g.edges.length) ∧ s.2.1 ≤ h.2 ∧ h.2 < s'.2.1 ∧ s.2.2 ≤ s'.2.2 ∧ s'.2.2 ≤ s.2.2 + 1000 := by
  unfold hopF at e
  split at e
  · rename_i h1
    have h1 := (inR_iff _ _ _).1 h1
    obtain ⟨E, hE⟩ : ∃ E : Nat, h.1 = (E : Int) := ⟨h.1.toNat, by omega⟩
    have hE' : E < g.edges.length := by omega
    have hg : g.edges.getD h.1.toNat (0, 0, []) = g.edges[E] := by rw [hE, Int.toNat_natCast, List.getD_eq_getElem?_getD, List.getElem?_eq_getElem hE']; rfl
    rw [hg] at e
    split at e
    · rename_i h2
      split at e
      · cases e
      · rename_i q hq
        simp only [Option.some.injEq] at e
        subst e
        obtain ⟨l, hl, k1, k2, k3, k4, k5, k6, k7⟩ := lands_spec (tq := q.1) (c := q.2) hq
        have hf := (fitB_iff _ _).1 (R.legs _ (List.getElem_mem hE') l hl)
        obtain ⟨_, hB, _⟩ := R.ends _ (List.getElem_mem hE')
        exact ⟨⟨hB.1, hB.2, k7⟩, by omega, h2.2, by simp only; omega, by simp only; omega, by simp only; omega⟩
    · cases e
  · cases e

/-- one hop, if one is there at all -/
def nextF (g : Gr) (s : Int × Int × Int) (h : Hp) : Option (Int × Int × Int) := if aliveB s.2.1 g.lives s.1 = true then hopF g s h else none
theorem nextF_there {g : Gr} {s : Int × Int × Int} (h : aliveB s.2.1 g.lives s.1 = true) (x : Hp) : nextF g s x = hopF g s x := by unfold nextF; rw [if_pos h]
theorem nextF_away {g : Gr} {s : Int × Int × Int} (h : aliveB s.2.1 g.lives s.1 = false) (x : Hp) : nextF g s x = none := by unfold nextF; rw [if_neg (by simp [h])]
theorem nextF_out {g : Gr} {s : Int × Int × Int} {h : Hp} (k : ¬ (0 ≤ h.1 ∧ h.1 < g.edges.length)) : nextF g s h = none := by
  unfold nextF hopF
  split
  · rw [if_neg (by rw [inR_iff]; omega)]
  · rfl
theorem nextF_at {g : Gr} {s : Int × Int × Int} {h : Hp} {E : Nat} (e : h.1 = (E : Int)) (hE : E < g.edges.length) :
    nextF g s h = if aliveB s.2.1 g.lives s.1 = true ∧ g.edges[E].1 = s.1 ∧ s.2.1 ≤ h.2 then (lands g g.edges[E] h.2).map fun q => (g.edges[E].2.1, q.1, s.2.2 + q.2) else none := by
  have hg : g.edges.getD h.1.toNat (0, 0, []) = g.edges[E] := by rw [e, Int.toNat_natCast, List.getD_eq_getElem?_getD, List.getElem?_eq_getElem hE]; rfl
  unfold nextF hopF
  by_cases h1 : aliveB s.2.1 g.lives s.1 = true
  · rw [if_pos h1, if_pos ((inR_iff _ _ _).2 (by omega)), hg]
    by_cases h2 : g.edges[E].1 = s.1 ∧ s.2.1 ≤ h.2
    · rw [if_pos h2, if_pos ⟨h1, h2⟩]
      cases lands g g.edges[E] h.2 <;> rfl
    · rw [if_neg h2, if_neg (fun h => h2 h.2)]
  · rw [if_neg h1, if_neg (fun h => h1 h.1)]
theorem nextF_no {g : Gr} {s : Int × Int × Int} {h : Hp} {E : Nat} (e : h.1 = (E : Int)) (hE : E < g.edges.length)
    (k : lgFind h.2 g.edges[E].2.2 = none ∨ g.edges[E].1 ≠ s.1 ∨ ¬ s.2.1 ≤ h.2 ∨ aliveB s.2.1 g.lives s.1 = false ∨ aliveB h.2 g.lives s.1 = false) : nextF g s h = none := by
  rw [nextF_at e hE]
  split
  · rename_i h1
    obtain ⟨h1, h2, h3⟩ := h1
    rcases k with k | k | k | k | k
    · rw [lands_none k]; rfl
    · exact absurd h2 k
    · exact absurd h3 k
    · rw [h1] at k; cases k
    · cases hf : lgFind h.2 g.edges[E].2.2 with
      | none => rw [lands_none hf]; rfl
      | some l => rw [lands_no hf (by rw [h2, k]; rfl)]; rfl
  · rfl
theorem nextF_leg {g : Gr} (R : Right g) {s : Int × Int × Int} {h : Hp} {E : Nat} {l : Lg} (e : h.1 = (E : Int)) (hE : E < g.edges.length)
    (k1 : lgFind h.2 g.edges[E].2.2 = some l) (k2 : g.edges[E].1 = s.1) (k3 : s.2.1 ≤ h.2) (k4 : aliveB s.2.1 g.lives s.1 = true) (k5 : aliveB h.2 g.lives s.1 = true) :
    nextF g s h = if aliveB (h.2 + l.2.2.1) g.lives g.edges[E].2.1 = true then some (g.edges[E].2.1, h.2 + l.2.2.1, s.2.2 + l.2.2.2) else none := by
  rw [nextF_at e hE, if_pos ⟨k4, k2, k3⟩]
  by_cases k6 : aliveB (h.2 + l.2.2.1) g.lives g.edges[E].2.1 = true
  · rw [if_pos k6, lands_yes k1 (by rw [k2, k5, k6, decide_eq_true (alive_hor R k6).2.2]; rfl)]; rfl
  · rw [if_neg k6, lands_no k1 (by rw [Bool.not_eq_true] at k6; rw [k6]; simp)]; rfl

theorem goF_nil (g : Gr) (s : Option (Int × Int × Int)) : goF g s [] = s := rfl
theorem goF_cons (g : Gr) (s : Option (Int × Int × Int)) (h : Hp) (l : List Hp) : goF g s (h :: l) = goF g (s.bind fun s => hopF g s h) l := rfl
theorem goF_there {g : Gr} (R : Right g) {l : List Hp} {s s' : Int × Int × Int} (hs : There g s) (e : goF g (some s) l = some s') : There g s' ∧ s.2.1 ≤ s'.2.1 ∧ s.2.2 ≤ s'.2.2 ∧ s'.2.2 ≤ s.2.2 + 1000 * (l.length : Int) := by
  induction l generalizing s with
  | nil => rw [goF_nil] at e; cases e; exact ⟨hs, by omega, by omega, by simp⟩
  | cons h l ih =>
    rw [goF_cons, Option.bind_some] at e
    cases e1 : hopF g s h with
    | none => rw [e1, goF_none] at e; cases e
    | some s1 =>
      rw [e1] at e
      obtain ⟨h1, h2, h3, h4, h5, h6⟩ := hopF_spec R e1
      obtain ⟨k1, k2, k3, k4⟩ := ih h1 e
      refine ⟨k1, by omega, by omega, ?_⟩
      rw [List.length_cons]; omega
/-- what it costs doesn't matter to where one comes -/
theorem hopF_cost (g : Gr) (v t c : Int) (h : Hp) : hopF g (v, t, c) h = (hopF g (v, t, 0) h).map fun s => (s.1, s.2.1, s.2.2 + c) := by
  unfold hopF
  simp only
  split
  · split
    · split
      · rfl
      · simp [Int.add_comm]
    · rfl
  · rfl
theorem goF_cost (g : Gr) (l : List Hp) : ∀ (v t c : Int), goF g (some (v, t, c)) l = (goF g (some (v, t, 0)) l).map fun s => (s.1, s.2.1, s.2.2 + c) := by
  induction l with
  | nil => intro v t c; simp [goF_nil]
  | cons h l ih =>
    intro v t c
    rw [goF_cons, goF_cons, Option.bind_some, Option.bind_some, hopF_cost]
    cases e : hopF g (v, t, 0) h with
    | none => simp [goF_none]
    | some s =>
      obtain ⟨a, b, d⟩ := s
      rw [Option.map_some]
      simp only
      rw [ih a b (d + c), ih a b d, Option.map_map]
      congr 1
      funext s
      simp [Int.add_assoc]
/-- a journey is its first part, and the rest from where one is then -/
theorem goF_parts {g : Gr} {v t : Int} {l : List Hp} {s : Int × Int × Int} (i : Nat) (e : goF g (some (v, t, 0)) l = some s) :
    ∃ a b c d, goF g (some (v, t, 0)) (l.take i) = some (a, b, c) ∧ goF g (some (a, b, 0)) (l.drop i) = some (s.1, s.2.1, d) ∧ c + d = s.2.2 := by
  have e' := e
  rw [← List.take_append_drop i l, goF_append] at e'
  cases e1 : goF g (some (v, t, 0)) (l.take i) with
  | none => rw [e1, goF_none] at e'; cases e'
  | some q =>
    obtain ⟨a, b, c⟩ := q
    rw [e1, goF_cost] at e'
    cases e2 : goF g (some (a, b, 0)) (l.drop i) with
    | none => rw [e2] at e'; cases e'
    | some r =>
      obtain ⟨x, y, d⟩ := r
      rw [e2, Option.map_some] at e'
      simp only [Option.some.injEq] at e'
      subst e'
      exact ⟨a, b, c, d, rfl, e2, by simp only; omega⟩

theorem goAns_ok {g : Gr} {s s' : Int × Int × Int} {l : List Hp} (h0 : gChk g = 0) (hs : There g s) (hc : s.2.2 = 0) (hl : l.length ≤ 500) (e : goF g (some s) l = some s') : goAns g s.1 s.2.1 l = (s'.1, s'.2.1, s'.2.2, 0) := by
  unfold goAns
  rw [if_pos (hs.place h0), if_neg (by omega), if_pos hs.al, ← hc, e]
/-- what an answer of Go that is right says -/
theorem goAns_right {g : Gr} {v t a b c : Int} {l : List Hp} (h : goAns g v t l = (a, b, c, 0)) : gChk g = 0 ∧ There g (v, t, 0) ∧ l.length ≤ 500 ∧ goF g (some (v, t, 0)) l = some (a, b, c) := by
  unfold goAns at h
  split at h
  · rename_i h1
    obtain ⟨k0, k1, k2⟩ := placeE_zero h1
    split at h
    · cases h
    · rename_i h5
      cases ha : aliveB t g.lives v with
      | false => rw [ha] at h; simp only [Bool.false_eq_true, if_false, goF_none] at h; cases h
      | true =>
        rw [ha] at h
        simp only [if_true] at h
        split at h
        · cases h
        · rename_i s hs
          refine ⟨k0, ⟨k1.1, k1.2, ha⟩, by omega, ?_⟩
          rw [hs]
          simp only [Prod.mk.injEq] at h
          obtain ⟨e1, e2, e3, _⟩ := h
          rw [← e1, ← e2, ← e3]
  · rename_i h1
    simp only [Prod.mk.injEq] at h
    exact absurd h.2.2.2 h1
theorem goAns_err {g : Gr} {v t : Int} {l : List Hp} (h : (goAns g v t l).2.2.2 ≠ 0) : (goAns g v t l).1 = 0 ∧ (goAns g v t l).2.1 = 0 := by
  unfold goAns at h ⊢
  split
  · rename_i h1
    rw [if_pos h1] at h
    split
    · exact ⟨rfl, rfl⟩
    · rename_i h5
      rw [if_neg h5] at h
      split
      · exact ⟨rfl, rfl⟩
      · rename_i s hs
        rw [hs] at h
        exact absurd rfl h
  · exact ⟨rfl, rfl⟩

/-- one leaves by a hop ahead of another one -/
def HLt (a b : Hp) : Prop := a.2 < b.2 ∨ (a.2 = b.2 ∧ a.1 < b.1)
theorem mem_outAt {g : Gr} {v d : Int} {h : Hp} : ∀ {i : Nat}, i ≤ g.edges.length → (h ∈ outAt g v d i ↔ ∃ j : Nat, j < i ∧ h = ((j : Int), d) ∧ (lands g (g.edges.getD j (0, 0, [])) d).isSome = true ∧ (g.edges.getD j (0, 0, [])).1 = v)
  | 0, _ => by simp [outAt]
  | i + 1, hi => by
    rw [outAt, List.mem_append, mem_outAt (by omega)]
    constructor
    · rintro (⟨j, h1, h2⟩ | h1)
      · exact ⟨j, by omega, h2⟩
      · split at h1
        · rename_i h2
          rw [List.mem_singleton] at h1
          exact ⟨i, by omega, h1, h2⟩
        · cases h1
    · rintro ⟨j, h1, h2, h3⟩
      rcases Nat.lt_or_ge j i with h4 | h4
      · exact .inl ⟨j, h4, h2, h3⟩
      · have : j = i := by omega
        subst this
        right; rw [if_pos h3, h2]; simp
theorem mem_outsTo {g : Gr} {v t : Int} {h : Hp} : ∀ {k : Nat}, h ∈ outsTo g v t k ↔ ∃ j : Nat, j < k ∧ h ∈ outAt g v (t + j) g.edges.length
  | 0 => by simp [outsTo]
  | k + 1 => by
    rw [outsTo, List.mem_append, mem_outsTo]
    constructor
    · rintro (⟨j, h1, h2⟩ | h1)
      · exact ⟨j, by omega, h2⟩
      · exact ⟨k, by omega, h1⟩
    · rintro ⟨j, h1, h2⟩
      rcases Nat.lt_or_ge j k with h4 | h4
      · exact .inl ⟨j, h4, h2⟩
      · have : j = k := by omega
        subst this
        exact .inr h2
theorem mem_outs {g : Gr} (R : Right g) {v t : Int} (ha : aliveB t g.lives v = true) {h : Hp} : h ∈ outsF g v t ↔ (hopF g (v, t, 0) h).isSome = true := by
  unfold outsF
  rw [if_pos ha, mem_outsTo]
  constructor
  · rintro ⟨j, h1, h2⟩
    obtain ⟨i, h3, rfl, h4, h5⟩ := (mem_outAt (Nat.le_refl _)).1 h2
    have hg : g.edges.getD i (0, 0, []) = g.edges[i] := by rw [List.getD_eq_getElem?_getD, List.getElem?_eq_getElem h3]; rfl
    rw [hg] at h4 h5
    unfold hopF
    rw [if_pos ((inR_iff _ _ _).2 (by simp only; omega))]
    simp only [Int.toNat_natCast]
    rw [hg, if_pos ⟨h5, by omega⟩]
    cases e : lands g g.edges[i] (t + j) with
    | none => rw [e] at h4; cases h4
    | some q => rfl
  · intro h1
    cases e : hopF g (v, t, 0) h with
    | none => rw [e] at h1; cases h1
    | some s =>
      obtain ⟨k1, k2, k3, k4, _⟩ := hopF_spec R e
      have k5 := k1.time R
      simp only at k3
      refine ⟨(h.2 - t).toNat, by omega, ?_⟩
      have e2 : t + ((h.2 - t).toNat : Int) = h.2 := by omega
      rw [e2, mem_outAt (Nat.le_refl _)]
      refine ⟨h.1.toNat, by omega, Prod.ext (by simp only; omega) rfl, ?_⟩
      unfold hopF at e
      rw [if_pos ((inR_iff _ _ _).2 (by omega))] at e
      split at e
      · rename_i h6
        split at e
        · cases e
        · rename_i q hq
          exact ⟨by rw [hq]; rfl, h6.1⟩
      · cases e
theorem outAt_sorted (g : Gr) (v d : Int) : ∀ i : Nat, i ≤ g.edges.length → (outAt g v d i).Pairwise HLt
  | 0, _ => by simp [outAt]
  | i + 1, hi => by
    rw [outAt, List.pairwise_append]
    refine ⟨outAt_sorted g v d i (by omega), ?_, ?_⟩
    · split <;> simp
    · intro a h1 b h2
      obtain ⟨j, h3, rfl, _⟩ := (mem_outAt (by omega)).1 h1
      split at h2
      · rw [List.mem_singleton] at h2; subst h2
        exact .inr ⟨rfl, by simp only; omega⟩
      · cases h2
theorem outsTo_sorted (g : Gr) (v t : Int) : ∀ k : Nat, (outsTo g v t k).Pairwise HLt
  | 0 => by simp [outsTo]
  | k + 1 => by
    rw [outsTo, List.pairwise_append]
    refine ⟨outsTo_sorted g v t k, outAt_sorted g v _ _ (Nat.le_refl _), ?_⟩
    intro a h1 b h2
    obtain ⟨j, h3, h4⟩ := mem_outsTo.1 h1
    obtain ⟨i, _, rfl, _⟩ := (mem_outAt (Nat.le_refl _)).1 h4
    obtain ⟨i', _, rfl, _⟩ := (mem_outAt (Nat.le_refl _)).1 h2
    exact .inl (by simp only; omega)
theorem outs_sorted (g : Gr) (v t : Int) : (outsF g v t).Pairwise HLt := by
  unfold outsF
  split
  · exact outsTo_sorted g v t _
  · simp

end Go.Proofs.YtjjhhmlogddnkaiDoor
