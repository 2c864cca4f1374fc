/-
  What Join and Joins of the program answer: two values put together.
-/
import Derived.Test.YtjlnokjaabcldaeBase
import Derived.Test.YtjlnokjaabcldaeChk
import Derived.Test.YtjlnokjaabcldaeMTurns
namespace Go.Proofs.Ytjlnokjaabcldae
open Go.RowKit

theorem join_any (x y how : Int) (w : World) (hh : how = 1 ∨ how = 2 ∨ how = 3) (hx : wideB x) (hy : wideB y) :
    Calls Try.prog 33 #[.int .i64 x, .int .i64 y, .int .i64 how] w fun e w' => e = .returned (.int .i64 (both how x y)) ∧ w' = w := by
  unfold wideB at hx hy
  obtain ⟨x1, x2⟩ := hx
  obtain ⟨y1, y2⟩ := hy
  rcases hh with rfl | rfl | rfl
  · have HC : Hid (both 1 x y = min x y) := rfl
    go_enter Try.func33, Try.ntmps33
    go_wp2
    all_goals go_ret
    all_goals exact ⟨ret_int (by first | (rw [HC.out]; done) | (rw [HC.out]; omega)), rfl⟩
  · have HC : Hid (both 2 x y = max x y) := rfl
    go_enter Try.func33, Try.ntmps33
    go_wp2
    all_goals go_ret
    all_goals exact ⟨ret_int (by first | (rw [HC.out]; done) | (rw [HC.out]; omega)), rfl⟩
  · have HC : Hid (both 3 x y = x + y) := rfl
    go_enter Try.func33, Try.ntmps33
    go_wp2
    all_goals go_ret
    all_goals exact ⟨ret_int (by first | (rw [HC.out]; done) | (rw [HC.out]; omega)), rfl⟩

theorem joins_any (how : Int) (w : World) :
    Calls Try.prog 29 #[.int .i64 how] w fun e w' => e = .returned (.bool (isHow how)) ∧ w' = w := by
  by_cases h1 : how = 1
  · have HC : Hid (isHow how = true) := isHow_yes (.inl h1)
    subst h1
    go_enter Try.func29, Try.ntmps29
    go_wp2
    go_ret
    exact ⟨ret_bool HC.out.symm, rfl⟩
  · have d1 : (how == 1) = false := by simpa using h1
    by_cases h2 : how = 2
    · have HC : Hid (isHow how = true) := isHow_yes (.inr (.inl h2))
      subst h2
      clear d1 h1
      go_enter Try.func29, Try.ntmps29
      go_wp2
      go_ret
      exact ⟨ret_bool HC.out.symm, rfl⟩
    · have d2 : (how == 2) = false := by simpa using h2
      by_cases h3 : how = 3
      · have HC : Hid (isHow how = true) := isHow_yes (.inr (.inr h3))
        subst h3
        clear d1 d2 h1 h2
        go_enter Try.func29, Try.ntmps29
        go_wp2
        go_ret
        exact ⟨ret_bool HC.out.symm, rfl⟩
      · have d3 : (how == 3) = false := by simpa using h3
        have HC : Hid (isHow how = false) := isHow_no (by omega)
        clear h1 h2 h3
        go_enter Try.func29, Try.ntmps29
        go_wp2
        go_ret
        exact ⟨ret_bool HC.out.symm, rfl⟩

end Go.Proofs.Ytjlnokjaabcldae
