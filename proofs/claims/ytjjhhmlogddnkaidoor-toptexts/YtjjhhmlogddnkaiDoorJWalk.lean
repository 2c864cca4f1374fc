/-
  Rest of the reference at any number above nought, and walk: some hops from a place.
-/
import Derived.Test.YtjjhhmlogddnkaiDoorJpD
import Derived.Test.YtjjhhmlogddnkaiDoorPair
namespace Go.Proofs.YtjjhhmlogddnkaiDoor
open Go.RowKit

theorem outsF_len {g : Gr} {v t : Int} (hp : placeE g v t = 0) : (outsF g v t).length ≤ 3000 := by
  obtain ⟨hg0, _, ht0, _⟩ := placeE_zero hp
  have hR := gChk_right hg0
  have h1 := hR.hor
  have h2 := hR.eds
  unfold outsF
  split
  · exact Nat.le_trans (outsTo_len g v t _) (Nat.le_trans (Nat.mul_le_mul (show (g.hor - t).toNat ≤ 100 by omega) h2) (by omega))
  · simp

/-- what walk tells: a journey, and where one is behind it -/
def WalkIs (g : Gr) (v t : Int) (l : List Hp) (a b : Int) : Prop := (l = [] ∧ a = v ∧ b = t) ∨ (gChk g = 0 ∧ There g (v, t, 0) ∧ ∃ c, goF g (some (v, t, 0)) l = some (a, b, c))
theorem WalkIs.more {g : Gr} {v t a b n u c : Int} {l : List Hp} {h : Hp} (hw : WalkIs g v t l a b) (hg : goAns g a b [h] = (n, u, c, 0)) : WalkIs g v t (l ++ [h]) n u := by
  obtain ⟨h1, h2, _, h3⟩ := goAns_right hg
  right
  rcases hw with ⟨rfl, rfl, rfl⟩ | ⟨k1, k2, c', k3⟩
  · exact ⟨h1, h2, c, h3⟩
  · refine ⟨k1, k2, c + c', ?_⟩
    rw [goF_append, k3, goF_cost, h3]
    rfl

theorem results_tmp3j {fn : Func} {t u v : Tmp} (h : fn.results = #[.tmp t, .tmp u, .tmp v]) (tmps : Array Value) (P : Program) (w : World) :
    (results fn tmps).run P w = .ok (.tuple #[tmps.getD t undef, tmps.getD u undef, tmps.getD v undef]) w := by
  simp [results, h]

end Go.Proofs.YtjjhhmlogddnkaiDoor
