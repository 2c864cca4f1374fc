/-
  What small of the reference answers.
-/
import Derived.Test.YtjlnokjaabcldabDoorPFit
namespace Go.Proofs.YtjlnokjaabcldabDoor
open Go.RowKit

theorem small_any (base : Nat) (v : Value) (out : List (Int × Int × Int)) (w : World) (hown : w.ownsRow base 36 3 v out.length (enc3 out)) (hn : ∀ q ∈ out, NearP q) (hlen : out.length ≤ 1000) :
    Calls Tryd.prog 30 #[v] w fun e w' => ∃ n r v', FitIs out n r ∧ e = .returned (.tuple #[v', .int .i64 n]) ∧ w'.ownsRow base 36 3 v' r.length (enc3 r) ∧ w' = w := by
  obtain ⟨vo, vc, hve, _⟩ := pcAt_of_owns hown
  subst hve
  have HOW : Hid (w.ownsRow base 36 3 (.slice vo out.length vc) out.length (enc3 out)) := hown
  have HNil : Hid (w.ownsRow base 36 3 (.slice none 0 0) ([] : List (Int × Int × Int)).length (enc3 [])) := World.ownsRow_nil _ _ _ _
  have HN : Hid (∀ q ∈ out, NearP q) := hn
  clear hown hn
  by_cases h200 : 200 < out.length
  · have HC : Hid (FitIs out 2 []) := .inr (.inl ⟨HN.out, h200, rfl, rfl⟩)
    go_enter Tryd.func30, Tryd.ntmps30
    go_wp2
    go_ret2
    exact ⟨_, _, _, HC.out, rfl, HNil.out, rfl⟩
  · have HC : Hid (FitIs out 0 out) := .inr (.inr ⟨HN.out, by omega, rfl, rfl⟩)
    go_enter Tryd.func30, Tryd.ntmps30
    go_wp2
    go_ret2
    exact ⟨_, _, _, HC.out, rfl, HOW.out, rfl⟩

end Go.Proofs.YtjlnokjaabcldabDoor
