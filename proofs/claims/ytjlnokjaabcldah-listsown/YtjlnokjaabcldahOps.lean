/-
  What Union, Meet and Minus of the program answer.
-/
import Derived.Test.YtjlnokjaabcldahComb
namespace Go.Proofs.Ytjlnokjaabcldah
open Go.RowKit

def wOr (x y : Bool) : Bool := x || y
def wAnd (x y : Bool) : Bool := x && y
def wNot (x y : Bool) : Bool := x && !y

theorem Union_fn (x y : Bool) (w : World) : Calls Try.prog 26 #[.bool x, .bool y] w fun e w' => e = .returned (.bool (wOr x y)) ∧ w' = w := by
  cases x <;> cases y
  all_goals
    go_enter Try.func26, Try.ntmps26
    go_wp2
    go_ret
    exact ⟨rfl, rfl⟩

set_option maxHeartbeats 1000000 in
theorem Union_own (ao bo : Option Addr) (ca cb : Nat) (a b : List (Int × Int)) (w : World) (hA : IvAt w ao a) (hB : IvAt w bo b) :
    Calls Try.prog 11 #[.slice ao a.length ca, .slice bo b.length cb] w fun e w' => ∃ n r, CombIs wOr a b n r ∧ Told2 w w' e n r := by
  have hc := combine_own 26 wOr rfl (enters_of Try.func26 (by kernel_rfl) rfl) Union_fn ao bo ca cb a b w hA hB
  go_enter Try.func11, Try.ntmps11
  go_wp2_with fail
  refine hc.mono ?_
  rintro e w1 ⟨n, r, hC, v, rfl, ho, hb⟩
  go_wp2
  go_ret2
  exact ⟨_, _, hC, _, rfl, ho, hb⟩
theorem Union_any (ao bo : Option Addr) (ca cb : Nat) (a b : List (Int × Int)) (w : World) (hA : IvAt w ao a) (hB : IvAt w bo b) :
    Calls Try.prog 11 #[.slice ao a.length ca, .slice bo b.length cb] w fun e w' => ∃ n r, CombIs wOr a b n r ∧ Told w w' e n r :=
  (Union_own ao bo ca cb a b w hA hB).mono fun _ _ ⟨n, r, hC, h⟩ => ⟨n, r, hC, told_of_own h⟩

theorem Meet_fn (x y : Bool) (w : World) : Calls Try.prog 27 #[.bool x, .bool y] w fun e w' => e = .returned (.bool (wAnd x y)) ∧ w' = w := by
  cases x <;> cases y
  all_goals
    go_enter Try.func27, Try.ntmps27
    go_wp2
    go_ret
    exact ⟨rfl, rfl⟩

set_option maxHeartbeats 1000000 in
theorem Meet_own (ao bo : Option Addr) (ca cb : Nat) (a b : List (Int × Int)) (w : World) (hA : IvAt w ao a) (hB : IvAt w bo b) :
    Calls Try.prog 12 #[.slice ao a.length ca, .slice bo b.length cb] w fun e w' => ∃ n r, CombIs wAnd a b n r ∧ Told2 w w' e n r := by
  have hc := combine_own 27 wAnd rfl (enters_of Try.func27 (by kernel_rfl) rfl) Meet_fn ao bo ca cb a b w hA hB
  go_enter Try.func12, Try.ntmps12
  go_wp2_with fail
  refine hc.mono ?_
  rintro e w1 ⟨n, r, hC, v, rfl, ho, hb⟩
  go_wp2
  go_ret2
  exact ⟨_, _, hC, _, rfl, ho, hb⟩
theorem Meet_any (ao bo : Option Addr) (ca cb : Nat) (a b : List (Int × Int)) (w : World) (hA : IvAt w ao a) (hB : IvAt w bo b) :
    Calls Try.prog 12 #[.slice ao a.length ca, .slice bo b.length cb] w fun e w' => ∃ n r, CombIs wAnd a b n r ∧ Told w w' e n r :=
  (Meet_own ao bo ca cb a b w hA hB).mono fun _ _ ⟨n, r, hC, h⟩ => ⟨n, r, hC, told_of_own h⟩

theorem Minus_fn (x y : Bool) (w : World) : Calls Try.prog 28 #[.bool x, .bool y] w fun e w' => e = .returned (.bool (wNot x y)) ∧ w' = w := by
  cases x <;> cases y
  all_goals
    go_enter Try.func28, Try.ntmps28
    go_wp2
    go_ret
    exact ⟨rfl, rfl⟩

set_option maxHeartbeats 1000000 in
theorem Minus_own (ao bo : Option Addr) (ca cb : Nat) (a b : List (Int × Int)) (w : World) (hA : IvAt w ao a) (hB : IvAt w bo b) :
    Calls Try.prog 13 #[.slice ao a.length ca, .slice bo b.length cb] w fun e w' => ∃ n r, CombIs wNot a b n r ∧ Told2 w w' e n r := by
  have hc := combine_own 28 wNot rfl (enters_of Try.func28 (by kernel_rfl) rfl) Minus_fn ao bo ca cb a b w hA hB
  go_enter Try.func13, Try.ntmps13
  go_wp2_with fail
  refine hc.mono ?_
  rintro e w1 ⟨n, r, hC, v, rfl, ho, hb⟩
  go_wp2
  go_ret2
  exact ⟨_, _, hC, _, rfl, ho, hb⟩
theorem Minus_any (ao bo : Option Addr) (ca cb : Nat) (a b : List (Int × Int)) (w : World) (hA : IvAt w ao a) (hB : IvAt w bo b) :
    Calls Try.prog 13 #[.slice ao a.length ca, .slice bo b.length cb] w fun e w' => ∃ n r, CombIs wNot a b n r ∧ Told w w' e n r :=
  (Minus_own ao bo ca cb a b w hA hB).mono fun _ _ ⟨n, r, hC, h⟩ => ⟨n, r, hC, told_of_own h⟩

end Go.Proofs.Ytjlnokjaabcldah
