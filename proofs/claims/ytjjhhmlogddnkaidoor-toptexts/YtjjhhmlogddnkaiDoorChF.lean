/-
  What Fastest of the program answers.
-/
import Derived.Test.YtjjhhmlogddnkaiDoorChE
import Derived.Test.YtjjhhmlogddnkaiDoorChMat2
import Derived.Test.YtjjhhmlogddnkaiDoorJWalk
namespace Go.Proofs.YtjjhhmlogddnkaiDoor
open Go.RowKit

/-- is a number that of a vertex? -/
def vtxB (g : Gr) (v : Int) : Bool := decide (0 ≤ v) && decide (v < (g.lives.length : Int))
theorem vtxB_iff (g : Gr) (v : Int) : vtxB g v = true ↔ 0 ≤ v ∧ v < (g.lives.length : Int) := by unfold vtxB; simp
theorem vtxB_in (g : Gr) (v : Int) : vtxB g v = inR v 0 ((g.lives.length : Int) - 1) := by
  rw [Bool.eq_iff_iff, vtxB_iff, inR_iff]; omega
theorem hasVertex_any (g : Gr) (la ea : Option Addr) (lc ec : Nat) (v : Int) (w : World) (hl : g.lives.length ≤ 12) :
    Calls Tryd.prog 21 #[.agg #[.int .i64 g.hor, .slice la g.lives.length lc, .slice ea g.edges.length ec], .int .i64 v] w fun r w' => r = .returned (.bool (vtxB g v)) ∧ Below w.heap.size w w' := by
  rw [vtxB_in]
  exact gHasV_any g.hor la ea g.lives.length lc g.edges.length ec v w hl

/-- what Fastest tells -/
def FastE (g : Gr) (v q d a e : Int) : Prop :=
  (gChk g ≠ 0 ∧ e = gChk g ∧ d = 0 ∧ a = 0) ∨ (gChk g = 0 ∧ ¬ ((0 ≤ v ∧ v < (g.lives.length : Int)) ∧ 0 ≤ q ∧ q < (g.lives.length : Int)) ∧ e = 4 ∧ d = 0 ∧ a = 0) ∨
  (gChk g = 0 ∧ ((0 ≤ v ∧ v < (g.lives.length : Int)) ∧ 0 ≤ q ∧ q < (g.lives.length : Int)) ∧ FastIs g v q d a e)

/-- the states at which one may set out, of the times up to t -/
def outM (g : Gr) (v t : Int) : Mp := fun x y => if x = v ∧ aliveB y g.lives v = true ∧ y < t then some (-y, 0, 0, 0, 0, 0, 0) else none

theorem outM_first {g : Gr} {V : Nat} (hV : V < g.lives.length) : outM g (V : Int) g.lives[V].1 = fun _ _ => none := by
  funext x y
  unfold outM
  rw [if_neg]
  rintro ⟨_, h1, h2⟩
  rw [aliveB_at _ _ _ hV] at h1
  have := (hasB_iff _ _ _).1 h1
  omega
theorem outM_next {g : Gr} {V : Nat} (hV : V < g.lives.length) {t : Int} (h1 : g.lives[V].1 ≤ t) (h2 : t < g.lives[V].2) : mset (outM g (V : Int) t) (V : Int) t (-t, 0, 0, 0, 0, 0, 0) = outM g (V : Int) (t + 1) := by
  have ha : aliveB t g.lives (V : Int) = true := by rw [aliveB_at _ _ _ hV]; exact (hasB_iff _ _ _).2 ⟨h1, h2⟩
  funext x y
  unfold mset outM
  by_cases e : x = (V : Int) ∧ y = t
  · obtain ⟨rfl, rfl⟩ := e
    rw [if_pos ⟨rfl, rfl⟩, if_pos ⟨rfl, ha, by omega⟩]
  · rw [if_neg e]
    by_cases e2 : x = (V : Int) ∧ aliveB y g.lives (V : Int) = true ∧ y < t
    · rw [if_pos e2, if_pos ⟨e2.1, e2.2.1, by omega⟩]
    · rw [if_neg e2, if_neg (fun k => e2 ⟨k.1, k.2.1, by have := fun h => e ⟨k.1, h⟩; omega⟩)]
theorem outM_last {g : Gr} {V : Nat} (hV : V < g.lives.length) (x y : Int) : (outM g (V : Int) g.lives[V].2 x y).map (·.1) = FF g (V : Int) x y := by
  unfold outM FF
  by_cases e : x = (V : Int) ∧ aliveB y g.lives (V : Int) = true
  · have h1 := e.2
    rw [aliveB_at _ _ _ hV] at h1
    have := (hasB_iff _ _ _).1 h1
    rw [if_pos ⟨e.1, e.2, by omega⟩, if_pos e]; rfl
  · rw [if_neg (fun k => e ⟨k.1, k.2.1⟩), if_neg e]; rfl

end Go.Proofs.YtjjhhmlogddnkaiDoor
