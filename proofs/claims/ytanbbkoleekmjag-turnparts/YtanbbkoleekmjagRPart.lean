/-
  What Part of the reference answers.
-/
import Derived.Test.YtanbbkoleekmjagTnD
import Derived.Test.YtanbbkoleekmjagSBase
namespace Go.Proofs.Ytanbbkoleekmjag
open Go.RowKit

/-- a row of numbers beside it grows -/
theorem GOwn.beside {B b : Nat} {w w1 : World} {hor : Int} {vL vE v' : Value} {n' : Nat} {xs' : List Value} {lives : List (Int × Int)} {L : List (Ed × Value)} (h : GOwn B b w hor vL vE lives L) (h' : w.ownsRow B 3 1 v' n' xs') (hg : w.grownBy w1 v'.ownBlock) : GOwn B b w1 hor vL vE lives L :=
  ⟨by rw [hg.block b (heap_ltg h.box) (fun k => row_ne h' h.box (by decide) k.symm)]; exact h.box, h.low, row_grown h.lv h' hg (by decide), row_grown h.ed h' hg (by decide), fun p hp => row_grown (h.lg p hp) h' hg (by decide), h.ap⟩
theorem intAt_old {K : List Bool} {n : Nat} {A r : Int} (hA : 0 ≤ A ∧ A < n) (h : intAt A (oldF K n) r) : (K.getD A.toNat false = true ∧ r = rkF K A) ∨ (K.getD A.toNat false = false ∧ r = -1) := by
  rcases h with ⟨k, h1, rfl⟩ | ⟨h1, rfl⟩
  · obtain ⟨hk, e⟩ := List.getElem?_eq_some_iff.1 h1
    obtain ⟨h2, h3⟩ := old_at (v := A.toNat) hk (by rw [e]; omega)
    exact .inl ⟨h2, by unfold rkF; omega⟩
  · right
    refine ⟨?_, rfl⟩
    rw [← Bool.not_eq_true]
    exact fun c => h1 (mem_old.2 ⟨A.toNat, by omega, c, by omega⟩)

theorem Try.infoIntT : (Try.prog.info? 3).map (fun i => (i.zero, i.size, i.bytes)) = some (some (.int .i64 0), 1, 8) := by kernel_rfl

end Go.Proofs.Ytanbbkoleekmjag
