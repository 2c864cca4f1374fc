/-
  How the lists of a snapshot lie in memory.
-/
import Derived.Test.YtjjhhmlogddnkaiDoorPBase
import Derived.Test.YtjjhhmlogddnkaiDoorPlMath
namespace Go.Proofs.YtjjhhmlogddnkaiDoor
open Go.RowKit

theorem Tryd.infoBool : (Tryd.prog.info? 4).map (fun i => (i.zero, i.size, i.bytes)) = some (some (.bool false), 1, 1) := by kernel_rfl
/-- bools lie at ao -/
def BsAt (w : World) (ao : Option Addr) (l : List Bool) : Prop :=
  l = [] ∨ ∃ b off, ao = some ⟨b, off, none⟩ ∧ b < w.heap.size ∧ ∀ j, j < l.length → w.cell? ⟨b, off + j, none⟩ = some (.bool (l.getD j false))
theorem BsAt.below {w w' : World} {ao : Option Addr} {l : List Bool} (h : BsAt w ao l) (hb : Below w.heap.size w w') : BsAt w' ao l := by
  rcases h with h | ⟨b, off, rfl, hlt, hc⟩
  · exact .inl h
  · refine .inr ⟨b, off, rfl, Nat.lt_of_lt_of_le hlt hb.size, fun j hj => ?_⟩
    rw [hb.cell (p := ⟨b, off + j, none⟩) hlt]
    exact hc j hj
theorem bsAt_of_owns {w : World} {base e : Nat} {v : Value} {n : Nat} {l : List Bool} (h : w.ownsRow base e 1 v n (l.map Value.bool)) : ∃ ao cap, v = .slice ao l.length cap ∧ BsAt w ao l := by
  obtain ⟨h1, h2⟩ := h
  simp only [List.length_map, Nat.mul_one] at h1
  subst h1
  rcases h2 with ⟨rfl, h0⟩ | ⟨g, cap, cur, rfl, hb, hh, h3, h4, h5, h6⟩
  · exact ⟨none, 0, by rw [h0], .inl (List.eq_nil_of_length_eq_zero h0)⟩
  · refine ⟨_, cap, rfl, .inr ⟨g, 0, rfl, (Array.getElem?_eq_some_iff.1 hh).1, fun j hj => ?_⟩⟩
    have := World.ownsRow.cellAt (w := w) (base := base) (e := e) (size := 1) (xs := l.map Value.bool) ⟨by simp, .inr ⟨g, cap, cur, rfl, hb, hh, h3, h4, h5, h6⟩⟩ j (by omega)
    rw [Nat.zero_add, this, List.getElem?_map, List.getD_eq_getElem?_getD, List.getElem?_eq_getElem hj]
    rfl

theorem hidep {p : Prop} (h : p) : Hid p := h
theorem retp_int {a b : Int} (h : a = b) : Ending.returned (.int .i64 a) = .returned (.int .i64 b) := by rw [h]
theorem retp_bool {a b : Bool} (h : a = b) : Ending.returned (.bool a) = .returned (.bool b) := by rw [h]
theorem PcAt.at3 {w : World} {b off : Nat} {m : List (Int × Int × Int)} {k : Nat} (hk : k < m.length) (hc : ∀ j, j < m.length → w.cell? ⟨b, off + j * 3, none⟩ = some (.int .i64 (m.getD j (0, 0, 0)).1) ∧ w.cell? ⟨b, off + j * 3 + 1, none⟩ = some (.int .i64 (m.getD j (0, 0, 0)).2.1) ∧ w.cell? ⟨b, off + j * 3 + 2, none⟩ = some (.int .i64 (m.getD j (0, 0, 0)).2.2)) :
    w.cell? ⟨b, off + k * 3, none⟩ = some (.int .i64 m[k].1) ∧ w.cell? ⟨b, off + k * 3 + 1, none⟩ = some (.int .i64 m[k].2.1) ∧ w.cell? ⟨b, off + k * 3 + 2, none⟩ = some (.int .i64 m[k].2.2) := by
  have h := hc k hk
  simpa only [List.getD_eq_getElem?_getD, List.getElem?_eq_getElem hk, Option.getD_some] using h
theorem BsAt.at1 {w : World} {b off : Nat} {l : List Bool} {k : Nat} (hk : k < l.length) (hc : ∀ j, j < l.length → w.cell? ⟨b, off + j, none⟩ = some (.bool (l.getD j false))) : w.cell? ⟨b, off + k, none⟩ = some (.bool l[k]) := by
  have h := hc k hk
  simpa only [List.getD_eq_getElem?_getD, List.getElem?_eq_getElem hk, Option.getD_some] using h
theorem PcAt.lt {w : World} {b off : Nat} {m : List (Int × Int × Int)} (h : PcAt w (some ⟨b, off, none⟩) m) (hm : m ≠ []) : b < w.heap.size := by
  rcases h with h | ⟨b', off', e, h, _⟩
  · exact absurd h hm
  · cases e; exact h

end Go.Proofs.YtjjhhmlogddnkaiDoor
