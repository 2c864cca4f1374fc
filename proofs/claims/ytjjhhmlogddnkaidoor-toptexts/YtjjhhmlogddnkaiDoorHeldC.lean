/-
  A region that draws its order, whose operations only read, whose callees only make new memory, and whose last two operations (a store and an assignment) wait for all the others: one walk in the order of the text serves every order.
-/
import Derived.Test.YtjjhhmlogddnkaiDoorHeldB
namespace Go.Proofs.YtjjhhmlogddnkaiDoor
open Go.RowKit

theorem wp_region_held_back2 {P : Program} (w0 : World) {id : Nat} {full : Array Oper} {Q : Exit → Act → World → Prop} {a : Act} {w : World} (h0 : Below w0.heap.size w0 w) (hm : P.follows .mixedOrders = true) (hn : 1 < full.size)
    (hB : Region.lexB .any full.pop.pop = true) (hf : fwdB full.pop.pop = true) (hl : lastB full.pop.pop full.pop.back! = true) (hf2 : fwdB full.pop = true) (hl2 : lastB full.pop full.back! = true)
    (h : wpQuiet P full.pop.pop (fun w' => ∃ s : HeldIn w0, w' = s.w) (fun a' => ∀ w', (∃ s : HeldIn w0, w' = s.w) → BackQ P full.pop.back! (BackQ P full.back! Q) .normal a' w') full.pop.pop.toList a) : (Code.region id full true).wp P Q a w := by
  have e : full = full.pop.push full.back! := (Array.eq_push_pop_back!_of_size_ne_zero (by omega))
  have e' : full.pop = full.pop.pop.push full.pop.back! := (Array.eq_push_pop_back!_of_size_ne_zero (by simp; omega))
  rw [e']  at hf2 hl2
  generalize full.pop.pop = ops at *
  generalize full.pop.back! = st at *
  generalize full.back! = sl at *
  rw [e'] at e
  subst e
  simp only [Region.lexB, Bool.and_eq_true] at hB
  refine wp_region_any hm ?_
  have h1 : wpAny P .any ops (BackQ P st (BackQ P sl Q)) ops.size (Array.replicate ops.size false) a w.drew := by
    refine wpAny_of_quiet (C := fun w' => ∃ s : HeldIn w0, w' = s.w) (Q := fun a' => ∀ w', (∃ s : HeldIn w0, w' = s.w) → BackQ P st (BackQ P sl Q) .normal a' w') (fun _ w' hw' h => h w' hw') _ _ _ _ ⟨⟨_, h0.drew⟩, rfl⟩ ?_
    have := wpAnyQ_lex (C := fun w' => ∃ s : HeldIn w0, w' = s.w) (md := .any) hB.1 ops.toList 0 (Array.replicate ops.size false) a (by simp) (by simpa using hB.2) h
    simpa using this
  have cl : ∀ os : Array Oper, Closed os (Array.replicate os.size false) := fun os j o hj hlj => by
    have : j < os.size := (Array.getElem?_eq_some_iff.1 hj).1
    simp [this] at hlj
  have e1 : ∀ (os : Array Oper) (s : Oper), (Array.replicate os.size false).push false = Array.replicate (os.push s).size false := fun os s => by
    apply Array.ext
    · simp
    · intro k h1 h2
      simp [Array.getElem_push]
  have h2 := pop_sound hf hl ops.size _ a w.drew (by simp) (cl ops) h1
  rw [e1 ops st, show ops.size + 1 = (ops.push st).size by simp] at h2
  have h3 := pop_sound hf2 hl2 (ops.push st).size _ a w.drew (by simp) (cl _) h2
  rw [e1 (ops.push st) sl, show (ops.push st).size + 1 = ((ops.push st).push sl).size by simp] at h3
  exact h3

end Go.Proofs.YtjjhhmlogddnkaiDoor
