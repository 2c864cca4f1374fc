/-
  Which rides leave a vertex from a time on: the hops of Out; and the way back along the last rides: plain mathematics, without any program.
-/
import Derived.Test.YtjjhhmlogddnkaiDoorErMath
namespace Go.Proofs.YtjjhhmlogddnkaiDoor

/-- does a ride leave v at t or later, by one who is there at t? -/
def leavB (g : Gr) (v t : Int) (r : Ri) : Bool := decide (r.2.2.1 = v) && (decide (t ≤ r.2.1) && (aliveB t g.lives v && aliveB r.2.1 g.lives v))
def outR (g : Gr) (v t : Int) (l : List Ri) : List Hp := (l.filter (leavB g v t)).map fun r => (r.1, r.2.1)
theorem outR_nil (g : Gr) (v t : Int) : outR g v t [] = [] := rfl
theorem outR_app (g : Gr) (v t : Int) (a b : List Ri) : outR g v t (a ++ b) = outR g v t a ++ outR g v t b := by simp [outR]
theorem outR_one (g : Gr) (v t : Int) (r : Ri) : outR g v t [r] = if leavB g v t r = true then [(r.1, r.2.1)] else [] := by
  unfold outR; rw [List.filter_cons]; split <;> simp
theorem outR_take {g : Gr} {v t : Int} {l : List Ri} {k : Nat} (hk : k < l.length) : outR g v t (l.take (k + 1)) = outR g v t (l.take k) ++ if leavB g v t l[k] = true then [(l[k].1, l[k].2.1)] else [] := by
  rw [List.take_succ_eq_append_getElem hk, outR_app, outR_one]
theorem outR_len (g : Gr) (v t : Int) (l : List Ri) : (outR g v t l).length ≤ l.length := by unfold outR; rw [List.length_map]; exact List.length_filter_le _ _
theorem outR_at {g : Gr} (R : Right g) {v t d : Int} : ∀ i, i ≤ g.edges.length → outR g v t (ridesAt g d i) = if t ≤ d ∧ aliveB t g.lives v = true then outAt g v d i else []
  | 0, _ => by simp [ridesAt, outAt, outR]
  | i + 1, hi => by
    have hi' : i < g.edges.length := by omega
    rw [ridesAt, outAt, outR_app, outR_at R i (by omega), edge_getD hi']
    cases hq : lands g g.edges[i] d with
    | none => simp [outR_nil]
    | some q =>
      obtain ⟨l1, l2, l3, l4, _⟩ := lands_lt R hi' hq
      simp only [outR_one]
      by_cases hv : g.edges[i].1 = v
      · rw [hv] at l2
        by_cases hc : t ≤ d ∧ aliveB t g.lives v = true
        · have e : leavB g v t ((i : Int), d, g.edges[i].1, g.edges[i].2.1, q.1, q.2) = true := by unfold leavB; simp only [hv, l2, hc.1, hc.2]; simp
          rw [if_pos hc, if_pos hc, if_pos e, if_pos ⟨rfl, hv⟩]
        · have e : ¬ leavB g v t ((i : Int), d, g.edges[i].1, g.edges[i].2.1, q.1, q.2) = true := by
            unfold leavB; simp only [hv, l2]; simp; intro h; exact Classical.byContradiction fun k => hc ⟨h, by simpa using k⟩
          rw [if_neg hc, if_neg hc, if_neg e]; rfl
      · have e : ¬ leavB g v t ((i : Int), d, g.edges[i].1, g.edges[i].2.1, q.1, q.2) = true := by unfold leavB; simp [hv]
        rw [if_neg e, if_neg (fun h => hv h.2 : ¬ ((some q).isSome = true ∧ g.edges[i].1 = v))]; simp
theorem outR_early {g : Gr} (R : Right g) {v t : Int} : ∀ k : Nat, (k : Int) ≤ t → outR g v t (ridesTo g k) = []
  | 0, _ => rfl
  | k + 1, h => by rw [ridesTo, outR_app, outR_early R k (by omega), outR_at R _ (Nat.le_refl _), if_neg (by omega)]; rfl
theorem outR_to {g : Gr} (R : Right g) {v : Int} {t : Nat} : ∀ k : Nat, outR g v (t : Int) (ridesTo g (t + k)) = if aliveB (t : Int) g.lives v = true then outsTo g v (t : Int) k else []
  | 0 => by rw [Nat.add_zero, outR_early R t (by omega)]; simp [outsTo]
  | k + 1 => by
    rw [← Nat.add_assoc, ridesTo, outR_app, outR_to R k, outR_at R _ (Nat.le_refl _), outsTo, show ((t + k : Nat) : Int) = (t : Int) + (k : Int) by omega]
    by_cases ha : aliveB (t : Int) g.lives v = true
    · rw [if_pos ha, if_pos ha, if_pos ⟨by omega, ha⟩]
    · rw [if_neg ha, if_neg ha, if_neg (fun h => ha h.2)]; rfl
theorem outR_all {g : Gr} (R : Right g) {v t : Int} (h0 : 0 ≤ t) (h1 : t < g.hor) : outR g v t (ridesF g) = outsF g v t := by
  have e : t = ((t.toNat : Nat) : Int) := by omega
  have e2 : g.hor.toNat = t.toNat + (g.hor - t).toNat := by omega
  have h := outR_to R (v := v) (t := t.toNat) (g.hor - t).toNat
  rw [← e, ← e2] at h
  exact h

/-- where a hop's edge leads -/
def edB (g : Gr) (h : Hp) : Int := (g.edges.getD h.1.toNat (0, 0, [])).2.1
/-- some hops lead from v, from its time on, to q at its time; each vertex's time is later than that of the one ahead -/
structure WayTo (g : Gr) (T : List Int) (v q : Int) (l : List Hp) : Prop where
  go : ∀ c, ∃ c', goF g (some (v, T.getD v.toNat 0, c)) l = some (q, T.getD q.toNat 0, c')
  up : ∀ h ∈ l, T.getD v.toNat 0 < T.getD (edB g h).toNat 0
  srt : l.Pairwise fun a b => T.getD (edB g a).toNat 0 < T.getD (edB g b).toNat 0
  len : (l.length : Int) + T.getD v.toNat 0 ≤ T.getD q.toNat 0
  rng : ∀ h ∈ l, (0 ≤ h.1 ∧ h.1 < g.edges.length) ∧ 0 ≤ edB g h
theorem wayTo_nil (g : Gr) (T : List Int) (q : Int) : WayTo g T q q [] := ⟨fun c => ⟨c, rfl⟩, fun h hh => by simp at hh, List.Pairwise.nil, by simp, fun h hh => by simp at hh⟩
theorem WayTo.cons {g : Gr} {T : List Int} {v q : Int} {l : List Hp} (W : WayTo g T v q l) {r : Ri} (hr : RideOk g r) (hv : r.2.2.2.1 = v) (ha : r.2.2.2.2.1 = T.getD v.toNat 0) (hd : T.getD r.2.2.1.toNat 0 ≤ r.2.1) : WayTo g T r.2.2.1 q ((r.1, r.2.1) :: l) ∧ T.getD r.2.2.1.toNat 0 < T.getD v.toNat 0 := by
  have hlt := hr.lt
  have hb := hr.b0
  have eB : edB g (r.1, r.2.1) = v := by unfold edB; rw [hr.edB, hv]
  refine ⟨⟨fun c => ?_, fun h hh => ?_, ?_, ?_, fun h hh => ?_⟩, by omega⟩
  · have h1 := hr.hop (c := c) hd
    rw [goF_cons, Option.bind_some, h1, hv, ha]
    exact W.go _
  · rcases List.mem_cons.1 hh with rfl | hh
    · rw [eB]; omega
    · have := W.up h hh; omega
  · rw [List.pairwise_cons]
    refine ⟨fun b hb => ?_, W.srt⟩
    rw [eB]; exact W.up b hb
  · have := W.len
    rw [List.length_cons]; omega
  · rcases List.mem_cons.1 hh with rfl | hh
    · exact ⟨hr.e0, by rw [eB]; omega⟩
    · exact W.rng h hh

end Go.Proofs.YtjjhhmlogddnkaiDoor
