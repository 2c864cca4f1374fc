/-
  The table that the library's Itoa reads, and what Itoa tells.
-/
import Derived.Test.YtjjhhmlogddnkaeDoorPk1
import Derived.Test.YtjjhhmlogddnkaeDoorShelf
namespace Go.Proofs.YtjjhhmlogddnkaeDoor
open Go.RowKit

/-- the table that Itoa reads -/
def Tab (w : World) : Prop := Lib.TabIs Tryd.prog w "internal/strconv.uint64pow10" .u64 Lib.pow10Tab
/-- .. and it lies below B -/
structure TbI (B : Nat) (w : World) : Prop where
  tab : Tab w
  low : ∀ g, Tryd.prog.globalNamed "internal/strconv.uint64pow10" = some g → g < B
theorem Tab.low {w : World} (h : Tab w) : TbI w.heap.size w := by
  refine ⟨h, fun g hg => ?_⟩
  have h' : w.var? Tryd.prog "internal/strconv.uint64pow10" = some _ := h
  rcases Nat.lt_or_ge g w.heap.size with k | k
  · exact k
  · simp [World.var?, hg, Array.getElem?_eq_none k] at h'
theorem TbI.mono {B B' : Nat} {w : World} (h : TbI B w) (k : B ≤ B') : TbI B' w := ⟨h.tab, fun g hg => Nat.lt_of_lt_of_le (h.low g hg) k⟩
theorem TbI.below {B : Nat} {w w' : World} (h : TbI B w) (hb : Below B w w') : TbI B w' := by
  refine ⟨?_, h.low⟩
  have h' : w.var? Tryd.prog "internal/strconv.uint64pow10" = some _ := h.tab
  obtain ⟨g, hg⟩ : ∃ g, Tryd.prog.globalNamed "internal/strconv.uint64pow10" = some g := by
    cases e : Tryd.prog.globalNamed "internal/strconv.uint64pow10" with
    | none => simp [World.var?, e] at h'
    | some g => exact ⟨g, rfl⟩
  exact var?_below hb hg (h.low g hg) h'

theorem below_grw (B : Nat) (w : World) (hB : B ≤ w.heap.size) (k : Nat) (os : Array Obj) : Below B w (Sort.grow (w.drewN k) os) :=
  ⟨rfl, rfl, rfl, by simp [Sort.grow, World.drewN], fun j hj => by
    have hj' : j < w.heap.size := by omega
    simp [Sort.grow, World.drewN, Array.getElem?_append_left hj']⟩

/-- Itoa of a number from 0 on -/
theorem itoa_any (n : Int) (h0 : 0 ≤ n) (h1 : n ≤ 9999) (w : World) (h : Tab w) :
    Calls Tryd.prog 20 #[.int .i64 n] w fun e w' => e = .returned (.string ⟨(Lib.itoa n).toArray⟩) ∧ Below w.heap.size w w' :=
  (Tryd.strconv_Itoa n (by omega) (by omega) w h).mono fun _ _ ⟨h1, k, os, h2⟩ => ⟨h1, by rw [h2]; exact below_grw _ w (Nat.le_refl _) k os⟩

theorem bsize (l : List UInt8) : (⟨l.toArray⟩ : ByteArray).size = l.length := by show l.toArray.size = _; simp
end Go.Proofs.YtjjhhmlogddnkaeDoor
