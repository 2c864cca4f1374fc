/-
  How lists of pieces lie in memory, three cells each.
-/
import Derived.Test.YtjjhhmlogddnkaiDoorPk1
import Derived.Test.YtjjhhmlogddnkaiDoorMMath
namespace Go.Proofs.YtjjhhmlogddnkaiDoor
open Go.RowKit

theorem ptw {a b c : World} (h1 : Below a.heap.size a b) (h2 : Below b.heap.size b c) : Below a.heap.size a c := h1.trans (h2.mono h1.size)
theorem pal (w : World) (o : Obj) : Below w.heap.size w (w.alloc o) := (Below.refl _ _).alloc (Nat.le_refl _) o

/-- the pieces of m lie at ao, three cells each -/
def PcAt (w : World) (ao : Option Addr) (m : List (Int × Int × Int)) : Prop :=
  m = [] ∨ ∃ b off, ao = some ⟨b, off, none⟩ ∧ b < w.heap.size ∧ ∀ j, j < m.length → w.cell? ⟨b, off + j * 3, none⟩ = some (.int .i64 (m.getD j (0, 0, 0)).1) ∧ w.cell? ⟨b, off + j * 3 + 1, none⟩ = some (.int .i64 (m.getD j (0, 0, 0)).2.1) ∧ w.cell? ⟨b, off + j * 3 + 2, none⟩ = some (.int .i64 (m.getD j (0, 0, 0)).2.2)

theorem PcAt.below {w w' : World} {ao : Option Addr} {m : List (Int × Int × Int)} (h : PcAt w ao m) (hb : Below w.heap.size w w') : PcAt w' ao m := by
  rcases h with h | ⟨b, off, rfl, hlt, hc⟩
  · exact .inl h
  · refine .inr ⟨b, off, rfl, Nat.lt_of_lt_of_le hlt hb.size, fun j hj => ?_⟩
    rw [hb.cell (p := ⟨b, off + j * 3, none⟩) hlt, hb.cell (p := ⟨b, off + j * 3 + 1, none⟩) hlt, hb.cell (p := ⟨b, off + j * 3 + 2, none⟩) hlt]
    exact hc j hj

/-- all numbers of the pieces, in order -/
def flat3 (m : List (Int × Int × Int)) : List Int := m.flatMap fun p => [p.1, p.2.1, p.2.2]
theorem flat3_cons (p : Int × Int × Int) (m : List (Int × Int × Int)) : flat3 (p :: m) = p.1 :: p.2.1 :: p.2.2 :: flat3 m := by simp [flat3]
theorem flat3_append (a b : List (Int × Int × Int)) : flat3 (a ++ b) = flat3 a ++ flat3 b := by simp [flat3]
theorem flat3_length (m : List (Int × Int × Int)) : (flat3 m).length = m.length * 3 := by
  induction m with
  | nil => rfl
  | cons p m ih => rw [flat3_cons]; simp only [List.length_cons, ih]; omega
theorem flat3_getD (m : List (Int × Int × Int)) (j : Nat) (h : j < m.length) : (flat3 m)[j * 3]? = some (m.getD j (0, 0, 0)).1 ∧ (flat3 m)[j * 3 + 1]? = some (m.getD j (0, 0, 0)).2.1 ∧ (flat3 m)[j * 3 + 2]? = some (m.getD j (0, 0, 0)).2.2 := by
  induction m generalizing j with
  | nil => simp at h
  | cons p m ih =>
    rw [flat3_cons]
    cases j with
    | zero => exact ⟨rfl, rfl, rfl⟩
    | succ j =>
      have := ih j (by simpa using h)
      rw [show (j + 1) * 3 = j * 3 + 1 + 1 + 1 by omega]
      simpa using this

/-- the cells of pieces -/
def enc3 (m : List (Int × Int × Int)) : List Value := (flat3 m).map (Value.int .i64)
theorem enc3_append (a b : List (Int × Int × Int)) : enc3 (a ++ b) = enc3 a ++ enc3 b := by unfold enc3; rw [flat3_append, List.map_append]
theorem enc3_length (m : List (Int × Int × Int)) : (enc3 m).length = m.length * 3 := by unfold enc3; rw [List.length_map, flat3_length]

/-- what a row of pieces that the call owns holds -/
theorem pcAt_of_owns {w : World} {base e : Nat} {v : Value} {n : Nat} {m : List (Int × Int × Int)} (h : w.ownsRow base e 3 v n (enc3 m)) : ∃ ao cap, v = .slice ao m.length cap ∧ PcAt w ao m := by
  obtain ⟨h1, h2⟩ := h
  simp only [enc3_length] at h1
  have hn : n = m.length := by omega
  subst hn
  rcases h2 with ⟨rfl, h0⟩ | ⟨g, cap, cur, rfl, hb, hh, h3, h4, h5, h6⟩
  · exact ⟨none, 0, by rw [h0], .inl (List.eq_nil_of_length_eq_zero h0)⟩
  · have hown : w.ownsRow base e 3 (.slice (some ⟨g, 0, none⟩) m.length cap) m.length (enc3 m) := ⟨by simp [enc3_length], .inr ⟨g, cap, cur, rfl, hb, hh, h3, h4, h5, h6⟩⟩
    refine ⟨_, cap, rfl, .inr ⟨g, 0, rfl, (Array.getElem?_eq_some_iff.1 hh).1, fun j hj => ?_⟩⟩
    obtain ⟨f0, f1, f2⟩ := flat3_getD m j hj
    rw [Nat.zero_add, hown.cellAt (j * 3) (by omega), hown.cellAt (j * 3 + 1) (by omega), hown.cellAt (j * 3 + 2) (by omega)]
    simp only [enc3, List.getElem?_map, f0, f1, f2]
    exact ⟨rfl, rfl, rfl⟩

/-- three cells in a new block -/
theorem cells_three_new (w : World) (B : Nat) (t : TypeId) (x y z : Value) (hB : B = w.heap.size) : ∀ j u, [x, y, z][j]? = some u → (w.alloc (.cells #[x, y, z] t)).cell? ((⟨B, 0, none⟩ : Addr).add j) = some u := by
  subst hB
  intro j u hj
  match j, hj with
  | 0, hj => simp at hj; subst hj; simp [Addr.add]
  | 1, hj => simp at hj; subst hj; simp [Addr.add]
  | 2, hj => simp at hj; subst hj; simp [Addr.add]

end Go.Proofs.YtjjhhmlogddnkaiDoor
