/-
  Arrivals of the reference, as a function of the graph.
-/
import Derived.Test.YtanbbkoleekmjacRArr
namespace Go.Proofs.Ytanbbkoleekmjac
open Go.RowKit

open Classical in
noncomputable def arrF (g : Gr) (v t : Int) : List Int := if h : ∃ p : Tb × Tb, SumIs g v t p.1 p.2 then arrL (Classical.choose h).1 g.hor.toNat g.lives.length else []
theorem arrF_eq {g : Gr} {v t : Int} {X Y : Tb} (S : SumIs g v t X Y) : arrF g v t = arrL X g.hor.toNat g.lives.length := by
  have h : ∃ p : Tb × Tb, SumIs g v t p.1 p.2 := ⟨(X, Y), S⟩
  unfold arrF
  rw [dif_pos h, jbest_unique (Classical.choose_spec h).costs S.costs]
theorem arrG_range (f : Nat → Int) (h : Nat) : ∀ j, j ≤ h → arrG f h j = 1099511627776 ∨ (0 ≤ arrG f h j ∧ arrG f h j < (h : Int))
  | 0, _ => .inl rfl
  | j + 1, hj => by
    rw [arrG]
    split
    · right; omega
    · exact arrG_range f h j (by omega)
theorem arrL_get (X : Tb) (h k v : Nat) (hv : v < k) : (arrL X h k).getD v 0 = arrG (tat X v) h h := by simp [arrL, List.getD_eq_getElem?_getD, hv]
theorem placeE_of {g : Gr} {v t : Int} (h : gChk g = 0) (h1 : 0 ≤ v ∧ v < (g.lives.length : Int)) (h2 : 0 ≤ t ∧ t < g.hor) : placeE g v t = 0 := by
  unfold placeE
  rw [if_pos h, if_pos ((inR_iff _ _ _).2 ⟨h1.1, by omega⟩), if_pos ((inR_iff _ _ _).2 ⟨h2.1, by omega⟩)]

theorem Arr_fn (g : Gr) (la ea : Option Addr) (lc ec : Nat) (v t : Int) (w : World) (hG : GAt w la ea g) (hpl : placeE g v t = 0) :
    Calls Try.prog 19 #[.agg #[.int .i64 g.hor, .slice la g.lives.length lc, .slice ea g.edges.length ec], .int .i64 v, .int .i64 t] w fun r w' => ∃ gq cap, r = .returned (.slice (some ⟨gq, 0, none⟩) g.lives.length cap) ∧ Zo w' w.heap.size gq g.lives.length cap (arrF g v t) ∧ (∀ q, q < g.lives.length → (arrF g v t).getD q 0 = 1099511627776 ∨ (0 ≤ (arrF g v t).getD q 0 ∧ (arrF g v t).getD q 0 < g.hor)) ∧ Below w.heap.size w w' := by
  refine (Arrivals_any g la ea lc ec v t w hG hpl).mono ?_
  rintro r w' ⟨u, X, Y, rfl, S, hown, hb⟩
  obtain ⟨h0, hv, ht⟩ := placeE_zero hpl
  have hor := (gChk_right h0).hor
  rw [← arrF_eq S] at hown
  rcases hown.2 with ⟨_, h0⟩ | ⟨ga, ca, cur, e, _⟩
  · omega
  subst e
  refine ⟨ga, ca, rfl, hown, fun q hq => ?_, hb⟩
  rw [arrF_eq S, arrL_get _ _ _ _ hq]
  rcases arrG_range (tat X q) g.hor.toNat g.hor.toNat (Nat.le_refl _) with e | e
  · exact .inl e
  · right; omega

end Go.Proofs.Ytanbbkoleekmjac
