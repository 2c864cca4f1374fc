/-
  What is told of the cheapest and the fastest, case by case.
-/
import Derived.Test.YtjjhhmlogddnkaiDoorChF
namespace Go.Proofs.YtjjhhmlogddnkaiDoor

theorem fastE_chk {g : Gr} {v q d a e : Int} (h : FastE g v q d a e) (h0 : gChk g ≠ 0) : d = 0 ∧ a = 0 ∧ e = gChk g := by
  rcases h with ⟨_, h1, h2, h3⟩ | ⟨h1, _⟩ | ⟨h1, _⟩
  · exact ⟨h2, h3, h1⟩
  · exact absurd h1 h0
  · exact absurd h1 h0
theorem fastE_out {g : Gr} {v q d a e : Int} (h : FastE g v q d a e) (h0 : gChk g = 0) (hn : ¬ ((0 ≤ v ∧ v < (g.lives.length : Int)) ∧ 0 ≤ q ∧ q < (g.lives.length : Int))) : d = 0 ∧ a = 0 ∧ e = 4 := by
  rcases h with ⟨h1, _⟩ | ⟨_, _, h1, h2, h3⟩ | ⟨_, h1, _⟩
  · exact absurd h0 h1
  · exact ⟨h2, h3, h1⟩
  · exact absurd h1 hn
theorem fastE_in {g : Gr} {v q d a e : Int} (h : FastE g v q d a e) (h0 : gChk g = 0) (hn : (0 ≤ v ∧ v < (g.lives.length : Int)) ∧ 0 ≤ q ∧ q < (g.lives.length : Int)) : FastIs g v q d a e := by
  rcases h with ⟨h1, _⟩ | ⟨_, h1, _⟩ | ⟨_, _, h1⟩
  · exact absurd h0 h1
  · exact absurd hn h1
  · exact h1
theorem leastE_ok {g : Gr} {pr : Ri → Int} {v t : Int} {L : List Int} (h : LeastE g pr v t L) (h0 : placeE g v t = 0) : LeastIs g pr v t L := by
  rcases h with ⟨h1, _⟩ | ⟨_, h1⟩
  · exact absurd h0 h1
  · exact h1
theorem leastE_bad {g : Gr} {pr : Ri → Int} {v t : Int} {L : List Int} (h : LeastE g pr v t L) (h0 : placeE g v t ≠ 0) : L = [] := by
  rcases h with ⟨_, h1⟩ | ⟨h1, _⟩
  · exact h1
  · exact absurd h1 h0


end Go.Proofs.YtjjhhmlogddnkaiDoor
