/-
  What Has and Set of the reference answer: what Has and Check of the program answer.
-/
import Derived.Test.YtjlnokjaabcldabDoorChk
import Derived.Test.YtjlnokjaabcldabDoorHas
import Derived.Deep.RegionWith
namespace Go.Proofs.YtjlnokjaabcldabDoor
open Go.RowKit

theorem near_yes (x : Int) (w : World) (h : nearB x) : Calls Tryd.prog 22 #[.int .i64 x] w fun e w' => e = .returned (.bool true) ∧ w' = w := by
  unfold nearB at h
  obtain ⟨h1, h2⟩ := h
  go_enter Tryd.func22, Tryd.ntmps22
  go_wp2
  go_ret
  exact ⟨rfl, rfl⟩
theorem near_no (x : Int) (w : World) (h : ¬ nearB x) : Calls Tryd.prog 22 #[.int .i64 x] w fun e w' => e = .returned (.bool false) ∧ w' = w := by
  unfold nearB at h
  by_cases h1 : -1000000000 ≤ x
  · have h2 : ¬ x ≤ 1000000000 := fun h' => h ⟨h1, h'⟩
    clear h
    go_enter Tryd.func22, Tryd.ntmps22
    go_wp2
    go_ret
    exact ⟨rfl, rfl⟩
  · clear h
    go_enter Tryd.func22, Tryd.ntmps22
    go_wp2
    go_ret
    exact ⟨rfl, rfl⟩

/-- is a number near? -/
def nb (x : Int) : Bool := decide (-1000000000 ≤ x) && decide (x ≤ 1000000000)
theorem nb_yes {x : Int} (h : nearB x) : nb x = true := by unfold nearB at h; simp [nb]; omega
theorem nb_no {x : Int} (h : ¬ nearB x) : nb x = false := by
  unfold nearB at h
  rw [Bool.eq_false_iff]
  intro hb
  simp [nb] at hb
  exact h hb
theorem near_any (x : Int) (w : World) : Calls Tryd.prog 22 #[.int .i64 x] w fun e w' => e = .returned (.bool (nb x)) ∧ w' = w := by
  by_cases h : nearB x
  · rw [nb_yes h]; exact near_yes x w h
  · rw [nb_no h]; exact near_no x w h

theorem chk_far_at {l : List (Int × Int)} {k : Nat} (h : l.length ≤ 200) (hk : k < l.length) (hn : ¬ (nearB l[k].1 ∧ nearB l[k].2)) : chk l = 5 :=
  chk_far h fun hh => hn (by have := hh k hk; rwa [List.getD_eq_getElem?_getD, List.getElem?_eq_getElem hk] at this)

end Go.Proofs.YtjlnokjaabcldabDoor
