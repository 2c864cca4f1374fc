/-
  How lists of intervals and of numbers lie in memory, and small facts on worlds: for the walks over the set of times.
-/
import Derived.Test.YteibdmfcclkjpacRows
import Derived.Test.YteibdmfcclkjpacSets
import Derived.WalkKit
import Derived.WalkSpells
import Derived.WalkLawsBesides
namespace Go.Proofs.Yteibdmfcclkjpac
open Go.RowKit

theorem ret_slice {ao : Option Addr} {n m n' m' : Nat} (h : n = n') (h' : m = m') : Ending.returned (.slice ao n m) = .returned (.slice ao n' m') := by rw [h, h']

/-- the pairs of l lie at ao, two cells each -/
def IvAt (w : World) (ao : Option Addr) (l : List (Int × Int)) : Prop :=
  l = [] ∨ ∃ b off, ao = some ⟨b, off, none⟩ ∧ b < w.heap.size ∧ ∀ j, j < l.length → w.cell? ⟨b, off + j * 2, none⟩ = some (.int .i64 (l.getD j (0, 0)).1) ∧ w.cell? ⟨b, off + j * 2 + 1, none⟩ = some (.int .i64 (l.getD j (0, 0)).2)

/-- the numbers of l lie at ao -/
def ZsAt (w : World) (ao : Option Addr) (l : List Int) : Prop :=
  l = [] ∨ ∃ b off, ao = some ⟨b, off, none⟩ ∧ b < w.heap.size ∧ ∀ j, j < l.length → w.cell? ⟨b, off + j, none⟩ = some (.int .i64 (l.getD j 0))

theorem IvAt.below {w w' : World} {ao : Option Addr} {l : List (Int × Int)} (h : IvAt w ao l) (hb : Below w.heap.size w w') : IvAt w' ao l := by
  rcases h with h | ⟨b, off, rfl, hlt, hc⟩
  · exact .inl h
  · refine .inr ⟨b, off, rfl, Nat.lt_of_lt_of_le hlt hb.size, fun j hj => ?_⟩
    rw [hb.cell (p := ⟨b, off + j * 2, none⟩) hlt, hb.cell (p := ⟨b, off + j * 2 + 1, none⟩) hlt]
    exact hc j hj

theorem ZsAt.below {w w' : World} {ao : Option Addr} {l : List Int} (h : ZsAt w ao l) (hb : Below w.heap.size w w') : ZsAt w' ao l := by
  rcases h with h | ⟨b, off, rfl, hlt, hc⟩
  · exact .inl h
  · refine .inr ⟨b, off, rfl, Nat.lt_of_lt_of_le hlt hb.size, fun j hj => ?_⟩
    rw [hb.cell (p := ⟨b, off + j, none⟩) hlt]
    exact hc j hj


theorem Try.infoInt : (Try.prog.info? 3).map (fun i => (i.zero, i.size, i.bytes)) = some (some (.int .i64 0), 1, 8) := by kernel_rfl
theorem Try.infoIvl : (Try.prog.info? 85).map (fun i => (i.zero, i.size, i.bytes)) = some (some (.agg #[.int .i64 0, .int .i64 0]), 2, 16) := by kernel_rfl

/-- what a row of numbers that the call owns holds -/
theorem zsAt_of_owns {w : World} {base e : Nat} {v : Value} {n : Nat} {l : List Int} (h : w.ownsRow base e 1 v n (l.map (Value.int .i64))) : ∃ ao cap, v = .slice ao l.length cap ∧ ZsAt w ao l := by
  obtain ⟨h1, h2⟩ := h
  simp only [List.length_map, Nat.mul_one] at h1
  subst h1
  rcases h2 with ⟨rfl, h0⟩ | ⟨g, cap, cur, rfl, hb, hh, h3, h4, h5, h6⟩
  · exact ⟨none, 0, by rw [h0], .inl (List.eq_nil_of_length_eq_zero h0)⟩
  · refine ⟨_, cap, rfl, .inr ⟨g, 0, rfl, (Array.getElem?_eq_some_iff.1 hh).1, fun j hj => ?_⟩⟩
    have := World.ownsRow.cellAt (w := w) (base := base) (e := e) (size := 1) (xs := l.map (Value.int .i64)) ⟨by simp, .inr ⟨g, cap, cur, rfl, hb, hh, h3, h4, h5, h6⟩⟩ j (by omega)
    rw [Nat.zero_add, this, List.getElem?_map, List.getD_eq_getElem?_getD, List.getElem?_eq_getElem hj]
    rfl

/-- the cells of pairs -/
def encs (l : List (Int × Int)) : List Value := (flat l).map (Value.int .i64)

/-- what a row of pairs that the call owns holds -/
theorem ivAt_of_owns {w : World} {base e : Nat} {v : Value} {n : Nat} {l : List (Int × Int)} (h : w.ownsRow base e 2 v n (encs l)) : ∃ ao cap, v = .slice ao l.length cap ∧ IvAt w ao l := by
  obtain ⟨h1, h2⟩ := h
  simp only [encs, List.length_map, flat_length] at h1
  have hn : n = l.length := by omega
  subst hn
  rcases h2 with ⟨rfl, h0⟩ | ⟨g, cap, cur, rfl, hb, hh, h3, h4, h5, h6⟩
  · exact ⟨none, 0, by rw [h0], .inl (List.eq_nil_of_length_eq_zero h0)⟩
  · have hown : w.ownsRow base e 2 (.slice (some ⟨g, 0, none⟩) l.length cap) l.length (encs l) := ⟨by simp [encs, flat_length]; omega, .inr ⟨g, cap, cur, rfl, hb, hh, h3, h4, h5, h6⟩⟩
    refine ⟨_, cap, rfl, .inr ⟨g, 0, rfl, (Array.getElem?_eq_some_iff.1 hh).1, fun j hj => ?_⟩⟩
    obtain ⟨f0, f1⟩ := flat_getD l j hj
    rw [Nat.zero_add, hown.cellAt (j * 2) (by omega), hown.cellAt (j * 2 + 1) (by omega)]
    simp only [encs, List.getElem?_map, f0, f1]
    exact ⟨rfl, rfl⟩

/-- an owned row stays while nothing below the heap's size turns -/
theorem ownsRow_below {w w' : World} {base e size : Nat} {v : Value} {n : Nat} {xs : List Value} (h : w.ownsRow base e size v n xs) (hb : Below w.heap.size w w') : w'.ownsRow base e size v n xs :=
  h.kept (row := none) ⟨hb.os, hb.tape, hb.output, hb.size, fun k hk _ => hb.block k hk⟩ (by cases v.ownBlock <;> simp)

/-- two cells in a new block -/
theorem cells_two_new (w : World) (B : Nat) (t : TypeId) (x y : Value) (hB : B = w.heap.size) : ∀ j u, [x, y][j]? = some u → (w.alloc (.cells #[x, y] t)).cell? ((⟨B, 0, none⟩ : Addr).add j) = some u := by
  subst hB
  intro j u hj
  match j, hj with
  | 0, hj => simp at hj; subst hj; simp [Addr.add]
  | 1, hj => simp at hj; subst hj; simp [Addr.add]

/-- what a call that tells a set and an error hands back: the error n with nothing, or a set -/
def Told (w w' : World) (e : Ending) (n : Int) (r : List (Int × Int)) : Prop :=
  ∃ ao cap, e = .returned (.tuple #[.slice ao r.length cap, .int .i64 n]) ∧ IvAt w' ao r ∧ Below w.heap.size w w'

/-- the same, in memory of the call's own -/
def Told2 (w w' : World) (e : Ending) (n : Int) (r : List (Int × Int)) : Prop :=
  ∃ v, e = .returned (.tuple #[v, .int .i64 n]) ∧ w'.ownsRow w.heap.size 85 2 v r.length (encs r) ∧ Below w.heap.size w w'
theorem told_of_own {w w' : World} {e : Ending} {n : Int} {r : List (Int × Int)} (h : Told2 w w' e n r) : Told w w' e n r := by
  obtain ⟨v, he, ho, hb⟩ := h
  obtain ⟨ao, cap, rfl, hz⟩ := ivAt_of_owns ho
  exact ⟨ao, cap, he, hz, hb⟩
theorem nil2 (w W : World) : W.ownsRow w.heap.size 85 2 (.slice none 0 0) ([] : List (Int × Int)).length (encs []) := World.ownsRow_nil _ _ _ _
theorem owns_base2 {w : World} {base base' e size : Nat} {v : Value} {n : Nat} {xs : List Value} (h : w.ownsRow base e size v n xs) (hb : base' ≤ base) : w.ownsRow base' e size v n xs :=
  ⟨h.1, h.2.imp id (fun ⟨g, c, cur, h1, h2, h3⟩ => ⟨g, c, cur, h1, Nat.le_trans hb h2, h3⟩)⟩
theorem hide2 {p : Prop} (h : p) : Hid p := h

end Go.Proofs.Yteibdmfcclkjpac
