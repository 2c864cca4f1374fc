/-
  said of the laws on the whole: the line's way is told rightly.
-/
import Derived.Test.YtjjhhmlogddnkaiDoorTLine
namespace Go.Proofs.YtjjhhmlogddnkaiDoor
open Go.RowKit

theorem three_ints (w : World) (T : TypeId) (a b c : Int) : ZsAt (w.alloc (.cells #[.int .i64 a, .int .i64 b, .int .i64 c] T)) (some ⟨w.heap.size, 0, none⟩) [a, b, c] := by
  refine .inr ⟨_, _, rfl, by simp, fun j hj => ?_⟩
  have hj' : j = 0 ∨ j = 1 ∨ j = 2 := by simp at hj; omega
  rcases hj' with rfl | rfl | rfl
  · exact new_cell rfl rfl
  · exact new_cell rfl rfl
  · exact new_cell rfl rfl
theorem two_hops (w : World) (T : TypeId) (a b c d : Int) : IvAt (w.alloc (.cells #[.int .i64 a, .int .i64 b, .int .i64 c, .int .i64 d] T)) (some ⟨w.heap.size, 0, none⟩) [(a, b), (c, d)] := by
  refine .inr ⟨_, _, rfl, by simp, fun j hj => ?_⟩
  have hj' : j = 0 ∨ j = 1 := by simp at hj; omega
  rcases hj' with rfl | rfl
  · exact ⟨new_cell rfl rfl, new_cell rfl rfl⟩
  · exact ⟨new_cell rfl rfl, new_cell rfl rfl⟩

set_option maxRecDepth 100000 in
set_option maxHeartbeats 1000000 in
theorem said_any (w : World) : Calls Tryd.prog 4 #[] w fun r w' => r = .returned (.bool true) ∧ Below w.heap.size w w' := by
  have H1 := hideg (fun la ea W (hG : GAt W la ea gLine) => eArr_any gLine la ea 3 2 0 0 W hG)
  have H2 := hideg (fun la ea W (hG : GAt W la ea gLine) => cCosts_any gLine la ea 3 2 0 0 W hG)
  have H3 := hideg (fun la ea W (hG : GAt W la ea gLine) => eWay_any gLine la ea 3 2 0 0 2 W hG)
  rw [line_arr, line_p0] at H1
  rw [line_p0] at H2
  have HP := hideg (fun W => line_any W)
  have HC : Hid (∀ L, LeastE gLine prCost 0 0 L → L = [0, 1, 3]) := fun L h => line_costs h
  have HW : Hid (∀ e l, WayIs gLine 0 0 2 e l → e = 0 ∧ l = [(0, 0), (1, 4)]) := fun e l h => line_wayIs h
  generalize gLine = gl at *
  go_enter Tryd.func4, Tryd.ntmps4
  go_wp2_with fail
  refine (HP.out _).mono ?_
  rintro r w1 ⟨la1, ea1, rfl, hG1, hb1⟩
  go_wp2_with fail
  refine (H1.out la1 ea1 _ hG1).mono ?_
  rintro r w2 ⟨u2, rfl, ho2, hb2⟩
  have hbb := ptg hb1 hb2
  clear hb1 hb2 hG1 H1
  go_wp2_with fail
  refine (HP.out _).mono ?_
  rintro r w3 ⟨la3, ea3, rfl, hG3, hb3⟩
  have ho2 := ownsRow_below ho2 hb3
  go_wp2_with fail
  refine (H2.out la3 ea3 _ hG3).mono ?_
  rintro r w4 ⟨u4, L4, rfl, hE4, ho4, hb4⟩
  have e4 := HC.out L4 hE4
  subst e4
  have ho2 := ownsRow_below ho2 hb4
  have hbb := ptg hbb (ptg hb3 hb4)
  clear hb3 hb4 hG3 H2 hE4 HC
  go_wp2_with fail
  refine (HP.out _).mono ?_
  rintro r w5 ⟨la5, ea5, rfl, hG5, hb5⟩
  have ho2 := ownsRow_below ho2 hb5
  have ho4 := ownsRow_below ho4 hb5
  go_wp2_with fail
  refine (H3.out la5 ea5 _ hG5).mono ?_
  rintro r w6 ⟨u6, e6, l6, rfl, hW6, ho6, hb6⟩
  obtain ⟨rfl, rfl⟩ := HW.out e6 l6 hW6
  have ho2 := ownsRow_below ho2 hb6
  have ho4 := ownsRow_below ho4 hb6
  have hbF := ptg hbb (ptg hb5 hb6)
  clear hb5 hb6 hbb hG5 HP H3 hW6 HW
  obtain ⟨a2, c2, rfl, z2⟩ := zsAt_of_owns ho2
  obtain ⟨a4, c4, rfl, z4⟩ := zsAt_of_owns ho4
  obtain ⟨a6, c6, rfl, z6⟩ := ivAt_of_owns ho6
  have hE1 := EqualI_any a2 (some ⟨w6.heap.size, 0, none⟩) c2 3 [0, 2, 7] [0, 2, 7] (w6.alloc (.cells #[.int .i64 0, .int .i64 2, .int .i64 7] 3)) (z2.below (gal _ _)) (three_ints _ _ _ _ _) (by simp)
  have HE2 := hideg (fun W (hb : Below w6.heap.size w6 W) => EqualI_any a4 (some ⟨W.heap.size, 0, none⟩) c4 3 [0, 1, 3] [0, 1, 3] (W.alloc (.cells #[.int .i64 0, .int .i64 1, .int .i64 3] 3)) (z4.below (ptg hb (gal _ _))) (three_ints _ _ _ _ _) (by simp))
  have HE3 := hideg (fun W (hb : Below w6.heap.size w6 W) => EqualHop_any a6 (some ⟨W.heap.size, 0, none⟩) c6 2 [(0, 0), (1, 4)] [(0, 0), (1, 4)] (W.alloc (.cells #[.int .i64 0, .int .i64 0, .int .i64 1, .int .i64 4] 43)) (z6.below (ptg hb (gal _ _))) (two_hops _ _ _ _ _ _) (by simp))
  rw [show decide (([0, 2, 7] : List Int) = [0, 2, 7]) = true from by decide] at hE1
  rw [show decide (([0, 1, 3] : List Int) = [0, 1, 3]) = true from by decide] at HE2
  rw [show decide (([(0, 0), (1, 4)] : List Hp) = [(0, 0), (1, 4)]) = true from by decide] at HE3
  simp only [List.length_cons, List.length_nil, Nat.zero_add] at hE1 HE2 HE3
  clear z2 z4 z6 ho2 ho4 ho6
  go_wp2_with fail
  refine hE1.mono ?_
  rintro r w7 ⟨rfl, hb7⟩
  have hb67 := ptg (gal w6 _) hb7
  have hE2 := HE2.out _ hb67
  clear hE1 hb7 HE2
  go_wp2_with fail
  refine hE2.mono ?_
  rintro r w8 ⟨rfl, hb8⟩
  have hb68 := ptg hb67 (ptg (gal w7 _) hb8)
  have hE3 := HE3.out _ hb68
  clear hE2 hb8 HE3 hb67
  go_wp2_with fail
  refine hE3.mono ?_
  rintro r w9 ⟨rfl, hb9⟩
  have hbG := ptg hbF (ptg hb68 (ptg (gal w8 _) hb9))
  clear hE3 hb9 hb68 hbF
  go_wp2
  go_ret
  exact ⟨rfl, hbG⟩

end Go.Proofs.YtjjhhmlogddnkaiDoor
