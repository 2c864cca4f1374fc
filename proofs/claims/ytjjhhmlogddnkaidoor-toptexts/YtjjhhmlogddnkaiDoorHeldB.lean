/-
  A region that draws its order, whose operations only read, whose callees only make new memory, and whose last operation (a store) waits for all the others: one walk in the order of the text serves every order. And rows of numbers that a call writes into.
-/
import Derived.Test.YtjjhhmlogddnkaiDoorHeld
import Derived.Test.YtjjhhmlogddnkaiDoorPk1
import Derived.Test.YtjjhhmlogddnkaiDoorSBase
import Derived.Test.YtjjhhmlogddnkaiDoorGby
import Derived.Deep.AppendLies
namespace Go.Proofs.YtjjhhmlogddnkaiDoor
open Go.RowKit

theorem wp_region_held_back {P : Program} (w0 : World) {id : Nat} {full : Array Oper} {Q : Exit → Act → World → Prop} {a : Act} {w : World} (h0 : Below w0.heap.size w0 w) (hm : P.follows .mixedOrders = true) (hn : 0 < full.size) (hB : Region.lexB .any full.pop = true) (hf : fwdB full.pop = true) (hl : lastB full.pop full.back! = true)
    (h : wpQuiet P full.pop (fun w' => ∃ s : HeldIn w0, w' = s.w) (fun a' => ∀ w', (∃ s : HeldIn w0, w' = s.w) → BackQ P full.back! Q .normal a' w') full.pop.toList a) : (Code.region id full true).wp P Q a w := by
  have e : full = full.pop.push full.back! := (Array.eq_push_pop_back!_of_size_ne_zero (by omega))
  generalize full.pop = ops at *
  generalize full.back! = st at *
  subst e
  simp only [Region.lexB, Bool.and_eq_true] at hB
  refine wp_region_any hm ?_
  have h1 : wpAny P .any ops (BackQ P st Q) ops.size (Array.replicate ops.size false) a w.drew := by
    refine wpAny_of_quiet (C := fun w' => ∃ s : HeldIn w0, w' = s.w) (Q := fun a' => ∀ w', (∃ s : HeldIn w0, w' = s.w) → BackQ P st Q .normal a' w') (fun _ w' hw' h => h w' hw') _ _ _ _ ⟨⟨_, h0.drew⟩, rfl⟩ ?_
    have := wpAnyQ_lex (C := fun w' => ∃ s : HeldIn w0, w' = s.w) (md := .any) hB.1 ops.toList 0 (Array.replicate ops.size false) a (by simp) (by simpa using hB.2) h
    simpa using this
  have h2 := pop_sound hf hl ops.size _ a w.drew (by simp) (by
    intro j o hj hlj
    have : j < ops.size := (Array.getElem?_eq_some_iff.1 hj).1
    simp [this] at hlj) h1
  have e1 : (Array.replicate ops.size false).push false = Array.replicate (ops.push st).size false := by
    apply Array.ext
    · simp
    · intro k h1 h2
      simp [Array.getElem_push]
  rw [e1] at h2
  have e2 : (ops.push st).size = ops.size + 1 := by simp
  rw [e2] at h2 ⊢
  exact h2

theorem gby_set (w : World) (b j : Nat) (u : Value) : w.grownBy (w.setCell ⟨b, j, none⟩ u) (some b) :=
  ⟨rfl, rfl, rfl, by simp [World.setCell], fun k _ hk => Below.heap_setCell _ _ _ _ (fun e => hk (by simp [e]))⟩
theorem PcAt.grown {w w' : World} {ao : Option Addr} {m : List (Int × Int × Int)} {gb : Nat} (h : PcAt w ao m) (hg : w.grownBy w' (some gb)) (hne : ∀ b off, ao = some ⟨b, off, none⟩ → b ≠ gb) : PcAt w' ao m := by
  rcases h with h | ⟨b, off, rfl, hlt, hc⟩
  · exact .inl h
  · have hn : some b ≠ some gb := fun e => hne b off rfl (Option.some.inj e)
    refine .inr ⟨b, off, rfl, Nat.lt_of_lt_of_le hlt hg.size, fun j hj => ?_⟩
    rw [hg.cell_far ⟨b, off + j * 3, none⟩ hlt hn, hg.cell_far ⟨b, off + j * 3 + 1, none⟩ hlt hn, hg.cell_far ⟨b, off + j * 3 + 2, none⟩ hlt hn]
    exact hc j hj

/-- a row of numbers, in memory of the call's own -/
abbrev Zo (w : World) (base gb n cap : Nat) (x : List Int) : Prop := w.ownsRow base 3 1 (.slice (some ⟨gb, 0, none⟩) n cap) n (x.map (Value.int .i64))
theorem Zo.len {w : World} {base gb n cap : Nat} {x : List Int} (h : Zo w base gb n cap x) : x.length = n := by have := h.1; simpa using this
theorem Zo.cell {w : World} {base gb n cap : Nat} {x : List Int} (h : Zo w base gb n cap x) {k : Nat} (hk : k < n) : w.cell? ⟨gb, k, none⟩ = some (.int .i64 (x.getD k 0)) := by
  have hl := h.len
  rw [World.ownsRow.cellAt h k (by omega), List.getElem?_map, List.getD_eq_getElem?_getD, List.getElem?_eq_getElem (by omega)]; rfl
theorem Zo.set {w : World} {base gb n cap : Nat} {x : List Int} (h : Zo w base gb n cap x) (k : Nat) (v : Int) : Zo (w.setCell ⟨gb, k, none⟩ (.int .i64 v)) base gb n cap (x.set k v) := by
  have := (World.ownsRow.stored h k (.int .i64 v)).1
  rw [← List.map_set] at this
  exact this
theorem Zo.below {w w' : World} {base gb n cap : Nat} {x : List Int} (h : Zo w base gb n cap x) (hb : Below w.heap.size w w') : Zo w' base gb n cap x := ownsRow_below h hb
/-- what stands in a row of numbers -/
def rdL (w : World) (gb n : Nat) : List Int := (List.range n).map fun j => intOf ((w.cell? ⟨gb, j, none⟩).getD (.int .i64 0))
theorem Zo.rd {w : World} {base gb n cap : Nat} {x : List Int} (h : Zo w base gb n cap x) : rdL w gb n = x := by
  have hl := h.len
  apply List.ext_getElem (by simp [rdL, hl])
  intro i h1 h2
  simp only [rdL, List.getElem_map, List.getElem_range]
  rw [h.cell (k := i) (by omega), List.getD_eq_getElem?_getD, List.getElem?_eq_getElem h2]; rfl
def flagOf : Value → Nat
  | .bool true => 1
  | _ => 0

end Go.Proofs.YtjjhhmlogddnkaiDoor
