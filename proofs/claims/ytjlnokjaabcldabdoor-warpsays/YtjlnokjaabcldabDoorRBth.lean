/-
  What Both and In of the reference answer: two values put together.
-/
import Derived.Test.YtjlnokjaabcldabDoorBase
import Derived.Test.YtjlnokjaabcldabDoorChk
import Derived.Test.YtjlnokjaabcldabDoorMTurns
namespace Go.Proofs.YtjlnokjaabcldabDoor
open Go.RowKit

theorem Both_any (x y how : Int) (w : World) (hh : how = 1 ∨ how = 2 ∨ how = 3) (hx : wideB x) (hy : wideB y) :
    Calls Tryd.prog 38 #[.int .i64 x, .int .i64 y, .int .i64 how] w fun e w' => e = .returned (.int .i64 (both how x y)) ∧ w' = w := by
  unfold wideB at hx hy
  obtain ⟨x1, x2⟩ := hx
  obtain ⟨y1, y2⟩ := hy
  rcases hh with rfl | rfl | rfl
  · by_cases h : x < y
    · have HC : Hid (both 1 x y = x) := by show min x y = x; omega
      have d1 : decide (x < y) = true := by simpa using h
      go_enter Tryd.func38, Tryd.ntmps38
      go_wp2
      go_ret
      exact ⟨ret_int HC.out.symm, rfl⟩
    · have HC : Hid (both 1 x y = y) := by show min x y = y; omega
      have d1 : decide (x < y) = false := by simpa using h
      go_enter Tryd.func38, Tryd.ntmps38
      go_wp2
      go_ret
      exact ⟨ret_int HC.out.symm, rfl⟩
  · by_cases h : x < y
    · have HC : Hid (both 2 x y = y) := by show max x y = y; omega
      have d1 : decide (x < y) = true := by simpa using h
      go_enter Tryd.func38, Tryd.ntmps38
      go_wp2
      go_ret
      exact ⟨ret_int HC.out.symm, rfl⟩
    · have HC : Hid (both 2 x y = x) := by show max x y = x; omega
      have d1 : decide (x < y) = false := by simpa using h
      go_enter Tryd.func38, Tryd.ntmps38
      go_wp2
      go_ret
      exact ⟨ret_int HC.out.symm, rfl⟩
  · have HC : Hid (both 3 x y = x + y) := rfl
    go_enter Tryd.func38, Tryd.ntmps38
    go_wp2
    go_ret
    exact ⟨ret_int HC.out.symm, rfl⟩

theorem In13_any (how : Int) (w : World) :
    Calls Tryd.prog 17 #[.int .i64 how, .int .i64 1, .int .i64 3] w fun e w' => e = .returned (.bool (isHow how)) ∧ w' = w := by
  by_cases h1 : 1 ≤ how
  · by_cases h2 : how ≤ 3
    · have HC : Hid (isHow how = true) := isHow_yes (by omega)
      go_enter Tryd.func17, Tryd.ntmps17
      go_wp2
      go_ret
      exact ⟨ret_bool HC.out.symm, rfl⟩
    · have HC : Hid (isHow how = false) := isHow_no (by omega)
      go_enter Tryd.func17, Tryd.ntmps17
      go_wp2
      go_ret
      exact ⟨ret_bool HC.out.symm, rfl⟩
  · have HC : Hid (isHow how = false) := isHow_no (by omega)
    go_enter Tryd.func17, Tryd.ntmps17
    go_wp2
    go_ret
    exact ⟨ret_bool HC.out.symm, rfl⟩

end Go.Proofs.YtjlnokjaabcldabDoor
