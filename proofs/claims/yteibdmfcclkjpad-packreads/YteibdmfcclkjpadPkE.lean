/-
  What Encode of the program answers.
-/
import Derived.Test.YteibdmfcclkjpadPkC
import Derived.Test.YteibdmfcclkjpadGCheck
namespace Go.Proofs.Yteibdmfcclkjpad
open Go.RowKit

/-- the bytes of numbers, in memory of the call's own -/
def RowIs (B : Nat) (W : World) (o : Value) (L : List Int) : Prop := W.ownsRow B 5 1 o (codeL L).length ((codeL L).map bv)
theorem RowIs.form {B : Nat} {W : World} {o : Value} {L : List Int} (h : RowIs B W o L) : ∃ a n c, o = .slice a n c := by
  obtain ⟨a, c, e, _⟩ := row_form h
  exact ⟨a, _, c, e⟩
theorem codeL_app (a b : List Int) : codeL (a ++ b) = codeL a ++ codeL b := by unfold codeL; rw [List.flatMap_append]

theorem small_hd {g : Gr} (R : Right g) : ∀ x ∈ numHd g, 0 ≤ x ∧ x < 65536 := fun x hx => nums_small R x (by unfold nums; simp [hx])
theorem small_lv {g : Gr} (R : Right g) {p : Int × Int} (hp : p ∈ g.lives) : ∀ x ∈ numLv p, 0 ≤ x ∧ x < 65536 := fun x hx => nums_small R x (List.mem_append_right _ (List.mem_append_left _ (List.mem_flatMap.2 ⟨p, hp, hx⟩)))
theorem small_ed {g : Gr} (R : Right g) {e : Ed} (he : e ∈ g.edges) : ∀ x ∈ numEd e, 0 ≤ x ∧ x < 65536 := fun x hx => nums_small R x (List.mem_append_right _ (List.mem_append_right _ (List.mem_flatMap.2 ⟨e, he, hx⟩)))
theorem small_e3 {g : Gr} (R : Right g) {e : Ed} (he : e ∈ g.edges) : ∀ x ∈ [e.1, e.2.1, (e.2.2.length : Int)], 0 ≤ x ∧ x < 65536 := fun x hx => small_ed R he x (List.mem_append_left _ hx)
theorem small_lg {g : Gr} (R : Right g) {e : Ed} (he : e ∈ g.edges) {l : Lg} (hl : l ∈ e.2.2) : ∀ x ∈ numLg l, 0 ≤ x ∧ x < 65536 := fun x hx => small_ed R he x (List.mem_append_right _ (List.mem_flatMap.2 ⟨l, hl, hx⟩))

end Go.Proofs.Yteibdmfcclkjpad
