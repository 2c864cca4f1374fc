/-
  The walk of the law IvlSets: it returns true, and nothing that was there is changed.
-/
import Derived.Test.YtianoalbcaphiaaRSets2
import Derived.Test.YtianoalbcaphiaaEq
namespace Go.Proofs.Ytianoalbcaphiaa
open Go.RowKit

theorem comb_len {want : Bool → Bool → Bool} {a b : List (Int × Int)} {n : Int} {r : List (Int × Int)} (h : CombIs want a b n r) : r.length ≤ 200 := by
  rcases h with ⟨_, _, rfl⟩ | ⟨_, _, _, rfl⟩ | ⟨_, _, s, _, ⟨_, _, rfl⟩ | ⟨h, _, rfl⟩⟩
  · simp
  · simp
  · simp
  · exact h

/-- the functions of the law, in a new block -/
theorem cell_three (w : World) (x y z : Value) (t : TypeId) : (w.alloc (.cells #[x, y, z] t)).cell? ⟨w.heap.size, 0, none⟩ = some x ∧ (w.alloc (.cells #[x, y, z] t)).cell? ⟨w.heap.size, 1, none⟩ = some y ∧ (w.alloc (.cells #[x, y, z] t)).cell? ⟨w.heap.size, 2, none⟩ = some z := by
  refine ⟨?_, ?_, ?_⟩ <;> rw [World.cell?_alloc_at _ _ _ _ rfl] <;> rfl

set_option maxRecDepth 100000 in
set_option maxHeartbeats 4000000 in
theorem ivlSets_walk (ao bo : Option Addr) (ca cb : Nat) (a b : List (Int × Int)) (w : World) (hA : IvAt w ao a) (hB : IvAt w bo b) :
    Calls Try.prog 4 #[.slice ao a.length ca, .slice bo b.length cb] w fun e w' => e = .returned (.bool true) ∧ Below w.heap.size w w' := by
  go_enter Try.func4, Try.ntmps4
  go_wp2
  go_loopw [5, 6, 7, 8, 9, 10, 13] (fun _ _ _ _ _ _ i wr => ∃ k : Nat, k ≤ 3 ∧ i = .int .i64 k ∧ Below (w.alloc (.cells #[.func (.func 15) #[] #[], .func (.func 16) #[] #[], .func (.func 17) #[] #[]] 33)).heap.size (w.alloc (.cells #[.func (.func 15) #[] #[], .func (.func 16) #[] #[], .func (.func 17) #[] #[]] 33)) wr) (fun _ _ _ _ _ _ i _ => 3 - (intOf i).toNat)
  case atStart => exact ⟨0, Nat.zero_le _, rfl, Below.refl _ _⟩
  case round =>
    obtain ⟨k, hk, rfl, hb⟩ := hrel
    have hbw : Below w.heap.size w wr := bt (ba _ _) hb
    by_cases hlt : k < 3
    · rcases (show k = 0 ∨ k = 1 ∨ k = 2 by omega) with rfl | rfl | rfl
      · have cf := (hb.cell (p := ⟨w.heap.size, 0, none⟩) (by simp)).trans (cell_three w (.func (.func 15) #[] #[]) (.func (.func 16) #[] #[]) (.func (.func 17) #[] #[]) 33).1
        go_wp2_with fail
        refine (Union_any ao bo ca cb a b _ (hA.below hbw) (hB.below hbw)).mono ?_
        rintro e w1 ⟨n, x, hC, xo, xc, rfl, hx, hb1⟩
        have hx1 := comb_len hC
        have HC : Hid (CombIs wOr a b n x) := hC
        have g1 := bt hbw hb1
        clear hC
        go_wp2_with fail
        refine (Sets_any 0 wOr (by simp) ao bo ca cb a b _ (hA.below g1) (hB.below g1)).mono ?_
        rintro e w2 ⟨n', y, hR, yo, yc, rfl, hy, hb2⟩
        obtain ⟨rfl, rfl⟩ := comb_ref HC.out hR
        have hx2 := hx.below hb2
        have hb12 := bt hb1 hb2
        clear hR HC hx g1 hb1 hb2
        go_wp2_with fail
        refine (Equal_any xo yo xc yc x x _ hx2 hy (by omega)).mono ?_
        rintro e w3 ⟨rfl, hb3⟩
        rw [show decide (x = x) = true from by simp]
        have hbF : Below _ _ w3 := bt hb (bt hb12 hb3)
        clear hx2 hy hb12 hb3 cf hx1
        go_wp2
        go_roundw
        case rel => exact ⟨0 + 1, by omega, by go_num, hbF⟩
        case measure => simp [intOf]
      · have cf := (hb.cell (p := ⟨w.heap.size, 1, none⟩) (by simp)).trans (cell_three w (.func (.func 15) #[] #[]) (.func (.func 16) #[] #[]) (.func (.func 17) #[] #[]) 33).2.1
        go_wp2_with fail
        refine (Meet_any ao bo ca cb a b _ (hA.below hbw) (hB.below hbw)).mono ?_
        rintro e w1 ⟨n, x, hC, xo, xc, rfl, hx, hb1⟩
        have hx1 := comb_len hC
        have HC : Hid (CombIs wAnd a b n x) := hC
        have g1 := bt hbw hb1
        clear hC
        go_wp2_with fail
        refine (Sets_any 1 wAnd (by simp) ao bo ca cb a b _ (hA.below g1) (hB.below g1)).mono ?_
        rintro e w2 ⟨n', y, hR, yo, yc, rfl, hy, hb2⟩
        obtain ⟨rfl, rfl⟩ := comb_ref HC.out hR
        have hx2 := hx.below hb2
        have hb12 := bt hb1 hb2
        clear hR HC hx g1 hb1 hb2
        go_wp2_with fail
        refine (Equal_any xo yo xc yc x x _ hx2 hy (by omega)).mono ?_
        rintro e w3 ⟨rfl, hb3⟩
        rw [show decide (x = x) = true from by simp]
        have hbF : Below _ _ w3 := bt hb (bt hb12 hb3)
        clear hx2 hy hb12 hb3 cf hx1
        go_wp2
        go_roundw
        case rel => exact ⟨1 + 1, by omega, by go_num, hbF⟩
        case measure => simp [intOf]
      · have cf := (hb.cell (p := ⟨w.heap.size, 2, none⟩) (by simp)).trans (cell_three w (.func (.func 15) #[] #[]) (.func (.func 16) #[] #[]) (.func (.func 17) #[] #[]) 33).2.2
        go_wp2_with fail
        refine (Minus_any ao bo ca cb a b _ (hA.below hbw) (hB.below hbw)).mono ?_
        rintro e w1 ⟨n, x, hC, xo, xc, rfl, hx, hb1⟩
        have hx1 := comb_len hC
        have HC : Hid (CombIs wNot a b n x) := hC
        have g1 := bt hbw hb1
        clear hC
        go_wp2_with fail
        refine (Sets_any 2 wNot (by simp) ao bo ca cb a b _ (hA.below g1) (hB.below g1)).mono ?_
        rintro e w2 ⟨n', y, hR, yo, yc, rfl, hy, hb2⟩
        obtain ⟨rfl, rfl⟩ := comb_ref HC.out hR
        have hx2 := hx.below hb2
        have hb12 := bt hb1 hb2
        clear hR HC hx g1 hb1 hb2
        go_wp2_with fail
        refine (Equal_any xo yo xc yc x x _ hx2 hy (by omega)).mono ?_
        rintro e w3 ⟨rfl, hb3⟩
        rw [show decide (x = x) = true from by simp]
        have hbF : Below _ _ w3 := bt hb (bt hb12 hb3)
        clear hx2 hy hb12 hb3 cf hx1
        go_wp2
        go_roundw
        case rel => exact ⟨2 + 1, by omega, by go_num, hbF⟩
        case measure => simp [intOf]
    · have hk3 : k = 3 := by omega
      subst hk3
      go_wp2
      go_ret
      exact ⟨rfl, hbw⟩

end Go.Proofs.Ytianoalbcaphiaa
