/-
  Snapshots of a graph: the plain mathematics, without any program.
-/
import Derived.Test.YteibdmfcclkjpadPk1
namespace Go.Proofs.Yteibdmfcclkjpad

/-- does t lie from a to b - 1? -/
def hasB (a b t : Int) : Bool := decide (a ≤ t) && decide (t < b)
/-- the leg of some legs that has t -/
def lgFind (t : Int) : List Lg → Option Lg
  | [] => none
  | l :: ls => if hasB l.1 l.2.1 t = true then some l else lgFind t ls
/-- which vertices are alive -/
def aliveL (t : Int) (lives : List (Int × Int)) : List Bool := lives.map fun p => hasB p.1 p.2 t
/-- is the vertex v alive? -/
def aliveB (t : Int) (lives : List (Int × Int)) (v : Int) : Bool := (aliveL t lives).getD v.toNat false
/-- the arc of an edge, if it has one -/
def arcOf (t : Int) (lives : List (Int × Int)) (e : Ed) : List (Int × Int × Int) :=
  match lgFind t e.2.2 with
  | none => []
  | some l => if (aliveB t lives e.1 && aliveB t lives e.2.1) = true then [(e.1, e.2.1, l.2.2.2)] else []
def arcsL (t : Int) (lives : List (Int × Int)) (edges : List Ed) : List (Int × Int × Int) := edges.flatMap (arcOf t lives)
/-- the error that At tells -/
def atErr (g : Gr) (t : Int) : Int := if gChk g = 0 then (if inR t 0 (g.hor - 1) = true then 0 else 1) else gChk g

theorem hasB_iff (a b t : Int) : hasB a b t = true ↔ a ≤ t ∧ t < b := by unfold hasB; simp
theorem hasB_no {a b t : Int} (h : ¬ (a ≤ t ∧ t < b)) : hasB a b t = false := by rw [← Bool.not_eq_true, hasB_iff]; exact h
theorem lgFind_hit {t : Int} {l : List Lg} {k : Nat} (hk : k < l.length) (hI : lgFind t l = lgFind t (l.drop k)) (h : hasB l[k].1 l[k].2.1 t = true) : lgFind t l = some l[k] := by
  rw [hI, drop_get l k hk, lgFind, if_pos h]
theorem lgFind_next {t : Int} {l : List Lg} {k : Nat} (hk : k < l.length) (hI : lgFind t l = lgFind t (l.drop k)) (h : hasB l[k].1 l[k].2.1 t = false) : lgFind t l = lgFind t (l.drop (k + 1)) := by
  rw [hI, drop_get l k hk, lgFind, if_neg (by simp [h])]
theorem lgFind_end {t : Int} {l : List Lg} (hI : lgFind t l = lgFind t (l.drop l.length)) : lgFind t l = none := by rw [hI, List.drop_length]; rfl
theorem aliveL_length (t : Int) (lives : List (Int × Int)) : (aliveL t lives).length = lives.length := by simp [aliveL]
theorem aliveL_take (t : Int) (lives : List (Int × Int)) (k : Nat) (hk : k < lives.length) : aliveL t (lives.take (k + 1)) = aliveL t (lives.take k) ++ [hasB lives[k].1 lives[k].2 t] := by
  unfold aliveL; rw [List.take_succ_eq_append_getElem hk, List.map_append]; rfl
theorem aliveB_at (t : Int) (lives : List (Int × Int)) (v : Nat) (h : v < lives.length) : aliveB t lives v = hasB lives[v].1 lives[v].2 t := by
  unfold aliveB aliveL
  rw [Int.toNat_natCast, List.getD_eq_getElem?_getD, List.getElem?_map, List.getElem?_eq_getElem h]; rfl
theorem arcs_take (t : Int) (lives : List (Int × Int)) (edges : List Ed) (k : Nat) (hk : k < edges.length) : arcsL t lives (edges.take (k + 1)) = arcsL t lives (edges.take k) ++ arcOf t lives edges[k] := by
  unfold arcsL
  rw [List.take_succ_eq_append_getElem hk, List.flatMap_append, List.flatMap_singleton]
theorem arcOf_none {t : Int} {lives : List (Int × Int)} {e : Ed} (h : lgFind t e.2.2 = none) : arcOf t lives e = [] := by unfold arcOf; rw [h]
theorem arcOf_dead {t : Int} {lives : List (Int × Int)} {e : Ed} (h : (aliveB t lives e.1 && aliveB t lives e.2.1) = false) : arcOf t lives e = [] := by
  unfold arcOf
  cases lgFind t e.2.2 with
  | none => rfl
  | some l => simp only [h]; rfl
theorem arcOf_some {t : Int} {lives : List (Int × Int)} {e : Ed} {l : Lg} (h : lgFind t e.2.2 = some l) (k : (aliveB t lives e.1 && aliveB t lives e.2.1) = true) : arcOf t lives e = [(e.1, e.2.1, l.2.2.2)] := by
  unfold arcOf; rw [h]; simp only [k, if_true]
theorem arcOf_len (t : Int) (lives : List (Int × Int)) (e : Ed) : (arcOf t lives e).length ≤ 1 := by
  unfold arcOf
  split
  · simp
  · split <;> simp
theorem arcs_len (t : Int) (lives : List (Int × Int)) : ∀ edges : List Ed, (arcsL t lives edges).length ≤ edges.length
  | [] => by simp [arcsL]
  | e :: es => by
    have h1 := arcs_len t lives es
    have h2 := arcOf_len t lives e
    unfold arcsL at h1 ⊢
    rw [List.flatMap_cons, List.length_append, List.length_cons]; omega

end Go.Proofs.Yteibdmfcclkjpad
