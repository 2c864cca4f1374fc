/-
  A region that draws its order, whose operations only read and whose callees only make new memory: one walk in the order of the text serves every order.
-/
import Derived.Test.YtjjhhmlogddnkaiDoorPk1
import Derived.Deep.QuietTactic
import Derived.BigQuiet
namespace Go.Proofs.YtjjhhmlogddnkaiDoor
open Go.RowKit

/-- a world in which all that was there in w0 is as it was -/
structure HeldIn (w0 : World) where
  w : World
  h : Below w0.heap.size w0 w

theorem wp_region_held {P : Program} (w0 : World) {id : Nat} {Q : Exit → Act → World → Prop} {a : Act} {w : World} {l : List Oper} (h0 : Below w0.heap.size w0 w) (hm : P.follows .mixedOrders = true) (hB : Region.lexB .any l.toArray = true)
    (h : wpQuiet P l.toArray (fun w' => ∃ s : HeldIn w0, w' = s.w) (fun a' => ∀ w', (∃ s : HeldIn w0, w' = s.w) → Q .normal a' w') l a) : (Code.region id l.toArray true).wp P Q a w :=
  wp_region_quiet (C := fun w' => ∃ s : HeldIn w0, w' = s.w) hm hB ⟨⟨_, h0.drew⟩, rfl⟩ (by simpa using h)

/-- a callee that only makes new memory, at such a region -/
theorem held_of {P : Program} {f : FuncId} {args : Array Value} {w0 : World} {s : HeldIn w0} {v : Value}
    (h : Calls P f args s.w fun e w' => e = .returned v ∧ Below s.w.heap.size s.w w') : Calls P f args s.w fun e w'' => e = .returned v ∧ ∃ s' : HeldIn w0, w'' = s'.w :=
  h.mono fun _ w' ⟨he, hb⟩ => ⟨he, ⟨w', s.h.trans (hb.mono s.h.size)⟩, rfl⟩
theorem held_same {P : Program} {f : FuncId} {args : Array Value} {w0 : World} {s : HeldIn w0} {v : Value}
    (h : Calls P f args s.w fun e w' => e = .returned v ∧ w' = s.w) : Calls P f args s.w fun e w'' => e = .returned v ∧ ∃ s' : HeldIn w0, w'' = s'.w :=
  h.mono fun _ _ ⟨he, hb⟩ => ⟨he, s, hb⟩

end Go.Proofs.YtjjhhmlogddnkaiDoor
