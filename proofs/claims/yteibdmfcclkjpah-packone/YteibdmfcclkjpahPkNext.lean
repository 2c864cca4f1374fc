/-
  How the reference reads a number of a graph's bytes.
-/
import Derived.Test.YteibdmfcclkjpahPkNum
namespace Go.Proofs.Yteibdmfcclkjpah
open Go.RowKit

/-- two bytes as a number -/
def at2 (s : List UInt8) (i : Nat) : Nat := (s.getD i 0).toNat * 256 + (s.getD (i + 1) 0).toNat
/-- the next number, where at most so much may be: where one is then, the error, and the number -/
def nx (s : List UInt8) (st : Nat × Int) (most : Int) : (Nat × Int) × Int :=
  if st.2 = 0 then if st.1 + 2 ≤ s.length then if most < (at2 s st.1 : Int) then ((st.1 + 2, 2), 0) else ((st.1 + 2, 0), (at2 s st.1 : Int)) else ((st.1, 5), 0) else (st, 0)
theorem at2_lt (s : List UInt8) (i : Nat) : at2 s i < 65536 := by
  unfold at2
  have h1 := (s.getD i 0).toNat_lt
  have h2 := (s.getD (i + 1) 0).toNat_lt
  omega
theorem nx_range {s : List UInt8} {st : Nat × Int} {most : Int} (hm : 0 ≤ most) : 0 ≤ (nx s st most).2 ∧ (nx s st most).2 ≤ most := by
  unfold nx
  split
  · split
    · split
      · simp only; omega
      · simp only; omega
    · simp only; omega
  · simp only; omega
theorem nx_at {s : List UInt8} {st : Nat × Int} {most : Int} (h : st.1 ≤ s.length) : (nx s st most).1.1 ≤ s.length := by
  unfold nx
  split
  · split
    · split <;> simp only <;> omega
    · exact h
  · exact h

/-- the boxes of the place and of the error -/
structure Bx2 (AB EB : Nat) (st : Nat × Int) (w : World) : Prop where
  a : w.heap[AB]? = some (.cells #[.int .i64 (st.1 : Int)] 3 (0, 0))
  e : w.heap[EB]? = some (.cells #[.int .i64 st.2] 26 (0, 0))
/-- what a call of next keeps -/
structure Kn (base AB EB : Nat) (w w' : World) : Prop where
  bel : Below base w w'
  size : w'.heap.size = w.heap.size
  blk : ∀ b, b ≠ AB → b ≠ EB → w'.heap[b]? = w.heap[b]?

theorem one_set {w : World} {b : Nat} {x y : Value} {T : TypeId} (h : w.heap[b]? = some (.cells #[x] T (0, 0))) : (w.setCell ⟨b, 0, none⟩ y).heap[b]? = some (.cells #[y] T (0, 0)) := box_set h 0 y

end Go.Proofs.Yteibdmfcclkjpah
