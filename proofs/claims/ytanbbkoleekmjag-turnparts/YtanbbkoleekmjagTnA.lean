/-
  What mirrored and turned of the program answer.
-/
import Derived.Test.YtanbbkoleekmjagPk1
import Derived.Test.YtanbbkoleekmjagJpB
namespace Go.Proofs.Ytanbbkoleekmjag
open Go.RowKit

theorem mirrored_any (a b h : Int) (w : World) (ha : 0 ≤ a ∧ a ≤ 1000) (hb : 0 ≤ b ∧ b ≤ 1000) (hh : 0 ≤ h ∧ h ≤ 1000) :
    Calls Try.prog 41 #[.agg #[.int .i64 a, .int .i64 b], .int .i64 h] w fun r w' => r = .returned (.agg #[.int .i64 (h - b), .int .i64 (h - a)]) ∧ Below w.heap.size w w' := by
  have e1 : IntKind.i64.wrap (h - b) = h - b := wrap_nj _ (by omega) (by omega)
  have e2 : IntKind.i64.wrap (h - a) = h - a := wrap_nj _ (by omega) (by omega)
  go_enter Try.func41, Try.ntmps41
  go_wp2
  exact bodyPost_ret (v := .agg #[.int .i64 (h - b), .int .i64 (h - a)]) (by simp [results, Try.results41, go_sem]) rfl ⟨rfl, ptg (gal w _) (gal _ _)⟩

theorem two_second {w : World} {b : Nat} {x y : Value} {T : TypeId} (h : w.heap[b]? = some (.cells #[x, y] T (0, 0))) : w.cell? ⟨b, 1, none⟩ = some y := by rw [Lib.cell_of_heap h]; rfl

set_option maxHeartbeats 1000000 in
theorem turned_any (l : Lg) (h : Int) (w : World) (hf : fitB l h = true) (hh : 1 ≤ h ∧ h ≤ 100) :
    Calls Try.prog 42 #[.agg #[.int .i64 l.1, .int .i64 l.2.1, .int .i64 l.2.2.1, .int .i64 l.2.2.2], .int .i64 h] w fun r w' => r = .returned (.tuple #[.agg #[.int .i64 (revLg h l).1, .int .i64 (revLg h l).2.1, .int .i64 (revLg h l).2.2.1, .int .i64 (revLg h l).2.2.2], .bool (decide (0 < rvB h l))]) ∧ Below w.heap.size w w' := by
  have hf := (fitB_iff _ _).1 hf
  obtain ⟨l1, l2, l3, l4⟩ := l
  simp only at hf
  have e1 : IntKind.i64.wrap (l1 + l3) = l1 + l3 := wrap_nj _ (by omega) (by omega)
  have e2 : IntKind.i64.wrap (l2 + l3) = l2 + l3 := wrap_nj _ (by omega) (by omega)
  obtain ⟨m, hm⟩ : ∃ m : Int, m = min (l2 + l3) h := ⟨_, rfl⟩
  have E1 : (revLg h (l1, l2, l3, l4)).1 = h - m := by unfold revLg rvA; simp only; omega
  have E2 : (revLg h (l1, l2, l3, l4)).2.1 = h - (l1 + l3) := by unfold revLg rvB; simp only; omega
  have E3 : (revLg h (l1, l2, l3, l4)).2.2 = (l3, l4) := rfl
  have E4 : decide (0 < rvB h (l1, l2, l3, l4)) = decide (l1 + l3 < m) := by unfold rvB; simp only [decide_eq_decide]; omega
  rw [E1, E2, E3, E4]
  have hM := hideg (fun W => mirrored_any (l1 + l3) m h W (by omega) (by omega) (by omega))
  clear E1 E2 E3 E4
  have hmm : (m = h ∧ h < l2 + l3) ∨ (m = l2 + l3 ∧ l2 + l3 ≤ h) := by omega
  clear hm
  generalize h - m = z1 at *
  generalize h - (l1 + l3) = z2 at *
  obtain ⟨w0, hw0⟩ : ∃ x, x = ((w.alloc (.cells #[.int .i64 l1, .int .i64 l2, .int .i64 l3, .int .i64 l4] 75)).alloc (.cells #[.int .i64 0, .int .i64 0, .int .i64 0, .int .i64 0] 75)).alloc (.cells #[.int .i64 (l1 + l3), .int .i64 m] 55) := ⟨_, rfl⟩
  have hs0 : w0.heap.size = w.heap.size + 1 + 1 + 1 := by rw [hw0]; simp
  have k2 : w0.heap[w.heap.size]? = some (.cells #[.int .i64 l1, .int .i64 l2, .int .i64 l3, .int .i64 l4] 75 (0, 0)) := by rw [hw0, heap_alloc_old _ _ (by simp; omega), heap_alloc_old _ _ (by simp)]; exact heap_alloc_new w _
  have k4 : w0.heap[w.heap.size + 1]? = some (.cells #[.int .i64 0, .int .i64 0, .int .i64 0, .int .i64 0] 75 (0, 0)) := by
    rw [hw0, heap_alloc_old _ _ (by simp)]
    have := heap_alloc_new (w.alloc (.cells #[.int .i64 l1, .int .i64 l2, .int .i64 l3, .int .i64 l4] 75)) (.cells #[.int .i64 0, .int .i64 0, .int .i64 0, .int .i64 0] 75)
    simpa using this
  have k6 : w0.heap[w.heap.size + 1 + 1]? = some (.cells #[.int .i64 (l1 + l3), .int .i64 m] 55 (0, 0)) := by
    rw [hw0]
    have := heap_alloc_new ((w.alloc (.cells #[.int .i64 l1, .int .i64 l2, .int .i64 l3, .int .i64 l4] 75)).alloc (.cells #[.int .i64 0, .int .i64 0, .int .i64 0, .int .i64 0] 75)) (.cells #[.int .i64 (l1 + l3), .int .i64 m] 55)
    simpa using this
  have hb0 : Below w.heap.size w w0 := by rw [hw0]; exact ptg (ptg (gal w _) (gal _ _)) (gal _ _)
  have HS0 := hideg hs0
  have K := hideg (⟨k2, k4, k6, hb0⟩ : _ ∧ _ ∧ _ ∧ _)
  have HW0 := hideg hw0.symm
  clear hs0 k2 k4 k6 hb0 hw0
  rcases hmm with ⟨rfl, hm⟩ | ⟨rfl, hm⟩
  all_goals
    try have hmn : ¬ (m < l2 + l3) := by omega
    go_enter Try.func42, Try.ntmps42
    go_wp2_with fail
    rw [HW0.out]
    refine (hM.out _).mono ?_
    rintro r w1 ⟨rfl, hb1⟩
    obtain ⟨k2, k4, k6, hb0⟩ := K.out
    have hs0 := HS0.out
    have q2 := (hb1.block w.heap.size (by omega)).trans k2
    have q4 := (hb1.block (w.heap.size + 1) (by omega)).trans k4
    have q6 := (hb1.block (w.heap.size + 1 + 1) (by omega)).trans k6
    have hz := hb1.size
    have hbw := ptg hb0 hb1
    clear k2 k4 k6 hb0 hM HW0 K hb1
    have c0 : w1.cell? ⟨w.heap.size, 2, none⟩ = some (.int .i64 l3) := by rw [Lib.cell_of_heap q2]; rfl
    have c1 : w1.cell? ⟨w.heap.size, 3, none⟩ = some (.int .i64 l4) := by rw [Lib.cell_of_heap q2]; rfl
    go_wp2_with fail
    obtain ⟨w2, hw2⟩ : ∃ x, x = w1.alloc (.cells #[.int .i64 z1, .int .i64 z2] 55) := ⟨_, rfl⟩
    rw [← hw2]
    have d0 : w2.cell? ⟨w1.heap.size, 0, none⟩ = some (.int .i64 z1) := by rw [hw2]; exact new_cell rfl rfl
    have d1 : w2.cell? ⟨w1.heap.size, 1, none⟩ = some (.int .i64 z2) := by rw [hw2]; exact new_cell rfl rfl
    have hb2 : Below w1.heap.size w1 w2 := by rw [hw2]; exact gal w1 _
    have p2 := (hb2.block w.heap.size (by omega)).trans q2
    have p4 := (hb2.block (w.heap.size + 1) (by omega)).trans q4
    have p6 := (hb2.block (w.heap.size + 1 + 1) (by omega)).trans q6
    have d2 : w2.cell? ⟨w.heap.size, 2, none⟩ = some (.int .i64 l3) := by rw [Lib.cell_of_heap p2]; rfl
    have d3 : w2.cell? ⟨w.heap.size, 3, none⟩ = some (.int .i64 l4) := by rw [Lib.cell_of_heap p2]; rfl
    have d4 : w2.cell? ⟨w.heap.size + 1 + 1, 0, none⟩ = some (.int .i64 (l1 + l3)) := by rw [Lib.cell_of_heap p6]; rfl
    have d5 := two_second p6
    have o0 : w2.cell? ⟨w.heap.size + 1, 0, none⟩ = some (.int .i64 0) := by rw [Lib.cell_of_heap p4]; rfl
    have o1 : w2.cell? ⟨w.heap.size + 1, 1, none⟩ = some (.int .i64 0) := by rw [Lib.cell_of_heap p4]; rfl
    have o2 : w2.cell? ⟨w.heap.size + 1, 2, none⟩ = some (.int .i64 0) := by rw [Lib.cell_of_heap p4]; rfl
    have o3 : w2.cell? ⟨w.heap.size + 1, 3, none⟩ = some (.int .i64 0) := by rw [Lib.cell_of_heap p4]; rfl
    have f0 : w2.frozen? ⟨w.heap.size + 1, 0, none⟩ = false := Lib.frozen_of_heap p4 0
    have f1 : w2.frozen? ⟨w.heap.size + 1, 1, none⟩ = false := Lib.frozen_of_heap p4 1
    have f2 : w2.frozen? ⟨w.heap.size + 1, 2, none⟩ = false := Lib.frozen_of_heap p4 2
    have f3 : w2.frozen? ⟨w.heap.size + 1, 3, none⟩ = false := Lib.frozen_of_heap p4 3
    have hbF := ptg hbw hb2
    clear hb2 p2 p4 p6 q2 q4 q6 c0 c1 hw2 hbw hz hs0 HS0
    have HBF := hideg ((((hbF.setCell (p := ⟨w.heap.size + 1, 0, none⟩) (by simp) (.int .i64 z1)).setCell (p := ⟨w.heap.size + 1, 1, none⟩) (by simp) (.int .i64 z2)).setCell (p := ⟨w.heap.size + 1, 2, none⟩) (by simp) (.int .i64 l3)).setCell (p := ⟨w.heap.size + 1, 3, none⟩) (by simp) (.int .i64 l4)).drew
    clear hbF
    go_region
    go_wp2
    exact bodyPost_ret (v := .tuple #[.agg #[.int .i64 z1, .int .i64 z2, .int .i64 l3, .int .i64 l4], .bool (decide (l1 + l3 < _))]) (by simp [results, Try.results42, go_sem, o0, o1, o2, o3] <;> omega) rfl ⟨rfl, HBF.out⟩

end Go.Proofs.Ytanbbkoleekmjag
