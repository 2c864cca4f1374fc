/-
  What Graph of the reference answers: what Check of the program's graphs answers.
-/
import Derived.Test.YtjjhhmlogddnkaiDoorPk1
namespace Go.Proofs.YtjjhhmlogddnkaiDoor
open Go.RowKit

theorem fitB_no {l : Lg} {h : Int} (k : l.1 < 0 ∨ l.2.1 ≤ l.1 ∨ h < l.2.1 ∨ inR l.2.2.1 1 50 = false ∨ inR l.2.2.2 0 1000 = false) : fitB l h = false := by
  rw [← Bool.not_eq_true, fitB_iff]
  rintro ⟨h1, h2, h3⟩
  rcases k with k | k | k | k | k
  · omega
  · omega
  · omega
  · rw [(inR_iff _ _ _).2 h2] at k; simp at k
  · rw [(inR_iff _ _ _).2 h3] at k; simp at k
theorem fitB_yes {l : Lg} {h : Int} (k1 : ¬ l.1 < 0) (k2 : ¬ l.2.1 ≤ l.1) (k3 : ¬ h < l.2.1) (k4 : inR l.2.2.1 1 50 = true) (k5 : inR l.2.2.2 0 1000 = true) : fitB l h = true :=
  (fitB_iff l h).2 ⟨⟨by omega, by omega, by omega⟩, (inR_iff _ _ _).1 k4, (inR_iff _ _ _).1 k5⟩

end Go.Proofs.YtjjhhmlogddnkaiDoor
