/-
  Journeys: when one comes along an edge, what a list of hops comes to, which hops leave: plain mathematics, without any program.
-/
import Derived.Test.YtjjhhmlogddnkaiDoorPk1
namespace Go.Proofs.YtjjhhmlogddnkaiDoor

/-- when one comes along an edge, who leaves at t, and at what cost -/
def lands (g : Gr) (e : Ed) (t : Int) : Option (Int × Int) :=
  match lgFind t e.2.2 with
  | none => none
  | some l => if (aliveB t g.lives e.1 && (decide (t + l.2.2.1 < g.hor) && aliveB (t + l.2.2.1) g.lives e.2.1)) = true then some (t + l.2.2.1, l.2.2.2) else none
theorem lands_none {g : Gr} {e : Ed} {t : Int} (h : lgFind t e.2.2 = none) : lands g e t = none := by unfold lands; rw [h]
theorem lands_no {g : Gr} {e : Ed} {t : Int} {l : Lg} (h : lgFind t e.2.2 = some l) (k : (aliveB t g.lives e.1 && (decide (t + l.2.2.1 < g.hor) && aliveB (t + l.2.2.1) g.lives e.2.1)) = false) : lands g e t = none := by
  unfold lands; rw [h]; simp only [k]; rfl
theorem lands_yes {g : Gr} {e : Ed} {t : Int} {l : Lg} (h : lgFind t e.2.2 = some l) (k : (aliveB t g.lives e.1 && (decide (t + l.2.2.1 < g.hor) && aliveB (t + l.2.2.1) g.lives e.2.1)) = true) : lands g e t = some (t + l.2.2.1, l.2.2.2) := by
  unfold lands; rw [h]; simp only [k, if_true]
theorem lgFind_mem {t : Int} {ls : List Lg} {l : Lg} (h : lgFind t ls = some l) : l ∈ ls ∧ l.1 ≤ t ∧ t < l.2.1 := by
  induction ls with
  | nil => cases h
  | cons x ls ih =>
    rw [lgFind] at h
    split at h
    · rename_i hx; cases h; exact ⟨by simp, (hasB_iff _ _ _).1 hx⟩
    · have := ih h; exact ⟨by simp [this.1], this.2⟩
theorem lands_spec {g : Gr} {e : Ed} {t tq c : Int} (h : lands g e t = some (tq, c)) : ∃ l ∈ e.2.2, l.1 ≤ t ∧ t < l.2.1 ∧ tq = t + l.2.2.1 ∧ c = l.2.2.2 ∧ aliveB t g.lives e.1 = true ∧ tq < g.hor ∧ aliveB tq g.lives e.2.1 = true := by
  unfold lands at h
  split at h
  · cases h
  · rename_i l hl
    split at h
    · rename_i hk
      simp only [Option.some.injEq, Prod.mk.injEq] at h
      simp only [Bool.and_eq_true, decide_eq_true_eq] at hk
      obtain ⟨h1, h2, h3⟩ := lgFind_mem hl
      exact ⟨l, h1, h2, h3, h.1.symm, h.2.symm, hk.1, by omega, by rw [← h.1]; exact hk.2.2⟩
    · cases h

/-- what is wrong with a graph, a vertex and a time -/
def placeE (g : Gr) (v t : Int) : Int := if gChk g = 0 then if inR v 0 ((g.lives.length : Int) - 1) = true then if inR t 0 (g.hor - 1) = true then 0 else 1 else 4 else gChk g
theorem placeE_cases (g : Gr) (v t : Int) : placeE g v t = 0 ∨ placeE g v t = 1 ∨ placeE g v t = 2 ∨ placeE g v t = 4 ∨ placeE g v t = 5 := by
  unfold placeE
  split
  · split
    · split <;> simp
    · simp
  · exact gChk_cases g
theorem placeE_zero {g : Gr} {v t : Int} (h : placeE g v t = 0) : gChk g = 0 ∧ (0 ≤ v ∧ v < (g.lives.length : Int)) ∧ 0 ≤ t ∧ t < g.hor := by
  unfold placeE at h
  split at h
  · rename_i h0
    split at h
    · rename_i h1
      split at h
      · rename_i h2
        rw [inR_iff] at h1 h2
        exact ⟨h0, by omega, by omega⟩
      · cases h
    · cases h
  · rename_i h0; exact absurd h h0

/-- one hop: Edge, Depart -/
abbrev Hp := Int × Int
/-- one hop from where one is -/
def hopF (g : Gr) (s : Int × Int × Int) (h : Hp) : Option (Int × Int × Int) :=
  if inR h.1 0 ((g.edges.length : Int) - 1) = true then
    if (g.edges.getD h.1.toNat (0, 0, [])).1 = s.1 ∧ s.2.1 ≤ h.2 then
      match lands g (g.edges.getD h.1.toNat (0, 0, [])) h.2 with
      | none => none
      | some q => some ((g.edges.getD h.1.toNat (0, 0, [])).2.1, q.1, s.2.2 + q.2)
    else none
  else none
/-- what hops come to -/
def goF (g : Gr) (s : Option (Int × Int × Int)) (l : List Hp) : Option (Int × Int × Int) := l.foldl (fun s h => s.bind fun s => hopF g s h) s
theorem goF_take {g : Gr} {s : Option (Int × Int × Int)} {l : List Hp} {k : Nat} (hk : k < l.length) : goF g s (l.take (k + 1)) = (goF g s (l.take k)).bind fun s => hopF g s l[k] := by
  unfold goF; rw [List.take_succ_eq_append_getElem hk, List.foldl_append]; rfl
theorem goF_none (g : Gr) (l : List Hp) : goF g none l = none := by
  induction l with
  | nil => rfl
  | cons h l ih => exact ih
theorem goF_stuck {g : Gr} {s : Option (Int × Int × Int)} {l : List Hp} {k : Nat} (h : goF g s (l.take k) = none) : goF g s l = none := by
  have e : l = l.take k ++ l.drop k := (List.take_append_drop k l).symm
  rw [e]
  unfold goF at h ⊢
  rw [List.foldl_append, h]
  exact goF_none g _
theorem goF_append (g : Gr) (s : Option (Int × Int × Int)) (a b : List Hp) : goF g s (a ++ b) = goF g (goF g s a) b := by unfold goF; rw [List.foldl_append]

/-- what Go answers: where, when, at what cost, the error -/
def goAns (g : Gr) (v t : Int) (l : List Hp) : Int × Int × Int × Int :=
  if placeE g v t = 0 then
    if 500 < l.length then (0, 0, 0, 2)
    else
      match goF g (if aliveB t g.lives v = true then some (v, t, 0) else none) l with
      | none => (0, 0, 0, 5)
      | some s => (s.1, s.2.1, s.2.2, 0)
  else (0, 0, 0, placeE g v t)

/-- the hops by which one can leave a vertex at a time -/
def outAt (g : Gr) (v d : Int) : Nat → List Hp
  | 0 => []
  | i + 1 => outAt g v d i ++ if (lands g (g.edges.getD i (0, 0, [])) d).isSome = true ∧ (g.edges.getD i (0, 0, [])).1 = v then [((i : Int), d)] else []
/-- .. and at each of k times from t on -/
def outsTo (g : Gr) (v t : Int) : Nat → List Hp
  | 0 => []
  | k + 1 => outsTo g v t k ++ outAt g v (t + k) g.edges.length
theorem outAt_len (g : Gr) (v d : Int) (i : Nat) : (outAt g v d i).length ≤ i := by
  induction i with
  | zero => simp [outAt]
  | succ i ih =>
    rw [outAt, List.length_append]
    split <;> simp <;> omega
theorem outsTo_len (g : Gr) (v t : Int) (k : Nat) : (outsTo g v t k).length ≤ k * g.edges.length := by
  induction k with
  | zero => simp [outsTo]
  | succ k ih =>
    have := outAt_len g v (t + k) g.edges.length
    rw [outsTo, List.length_append, Nat.succ_mul]; omega
/-- what Out answers of a right place -/
def outsF (g : Gr) (v t : Int) : List Hp := if aliveB t g.lives v = true then outsTo g v t (g.hor - t).toNat else []

end Go.Proofs.YtjjhhmlogddnkaiDoor
