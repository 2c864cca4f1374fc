/-
  The graph of two vertices that some laws try first.
-/
import Derived.Test.YtanbbkoleekmjagJpC
namespace Go.Proofs.Ytanbbkoleekmjag
open Go.RowKit

/-- two vertices, one edge -/
def gPair : Gr := ⟨10, [(0, 10), (2, 9)], [(0, 1, [(1, 4, 3, 7)])]⟩

theorem pair_at (w : World) (o : Obj) (T1 T2 T3 : TypeId) : GAt ((((w.alloc o).alloc (.cells #[.int .i64 0, .int .i64 10, .int .i64 2, .int .i64 9] T1)).alloc (.cells #[.int .i64 1, .int .i64 4, .int .i64 3, .int .i64 7] T2)).alloc (.cells #[.int .i64 0, .int .i64 1, .slice (some ⟨w.heap.size + 1 + 1, 0, none⟩) 1 1] T3)) (some ⟨w.heap.size + 1, 0, none⟩) (some ⟨w.heap.size + 1 + 1 + 1, 0, none⟩) gPair := by
  refine ⟨.inr ⟨_, _, rfl, by simp <;> omega, fun j hj => ?_⟩, .inr ⟨_, _, rfl, by simp, fun j hj => ?_⟩, by simp [gPair], by simp [gPair]⟩
  · have hj' : j = 0 ∨ j = 1 := by simp [gPair] at hj; omega
    rcases hj' with rfl | rfl
    · exact ⟨by rw [(gal _ _).cell (by simp <;> omega), (gal _ _).cell (by simp <;> omega)]; exact new_cell (by simp) rfl, by rw [(gal _ _).cell (by simp <;> omega), (gal _ _).cell (by simp <;> omega)]; exact new_cell (by simp) rfl⟩
    · exact ⟨by rw [(gal _ _).cell (by simp <;> omega), (gal _ _).cell (by simp <;> omega)]; exact new_cell (by simp) rfl, by rw [(gal _ _).cell (by simp <;> omega), (gal _ _).cell (by simp <;> omega)]; exact new_cell (by simp) rfl⟩
  · have hj' : j = 0 := by simp [gPair] at hj; omega
    subst hj'
    refine ⟨new_cell (by simp) rfl, new_cell (by simp) rfl, some ⟨w.heap.size + 1 + 1, 0, none⟩, 1, new_cell (by simp) rfl, .inr ⟨_, _, rfl, by simp <;> omega, fun k hk => ?_⟩, by simp [gPair], by omega⟩
    have hk' : k = 0 := by simp [gPair] at hk; omega
    subst hk'
    exact ⟨by rw [(gal _ _).cell (by simp <;> omega)]; exact new_cell (by simp) rfl, by rw [(gal _ _).cell (by simp <;> omega)]; exact new_cell (by simp) rfl, by rw [(gal _ _).cell (by simp <;> omega)]; exact new_cell (by simp) rfl, by rw [(gal _ _).cell (by simp <;> omega)]; exact new_cell (by simp) rfl⟩

set_option maxRecDepth 100000 in
set_option maxHeartbeats 2000000 in
theorem pair_any (w : World) : Calls Try.prog 10 #[] w fun r w' => ∃ la ea, r = .returned (.agg #[.int .i64 gPair.hor, .slice la gPair.lives.length 2, .slice ea gPair.edges.length 1]) ∧ GAt w' la ea gPair ∧ Below w.heap.size w w' := by
  go_enter Try.func10, Try.ntmps10
  go_wp2
  have hG := pair_at w (.cells #[.int .i64 10, .slice (some ⟨w.heap.size + 1, 0, none⟩) 2 2, .slice (some ⟨w.heap.size + 1 + 1 + 1, 0, none⟩) 1 1] 25) 55 75 78
  have q : ∀ j x, #[Value.int .i64 10, .slice (some ⟨w.heap.size + 1, 0, none⟩) 2 2, .slice (some ⟨w.heap.size + 1 + 1 + 1, 0, none⟩) 1 1][j]? = some x → ((((w.alloc (.cells #[.int .i64 10, .slice (some ⟨w.heap.size + 1, 0, none⟩) 2 2, .slice (some ⟨w.heap.size + 1 + 1 + 1, 0, none⟩) 1 1] 25)).alloc (.cells #[.int .i64 0, .int .i64 10, .int .i64 2, .int .i64 9] 55)).alloc (.cells #[.int .i64 1, .int .i64 4, .int .i64 3, .int .i64 7] 75)).alloc (.cells #[.int .i64 0, .int .i64 1, .slice (some ⟨w.heap.size + 1 + 1, 0, none⟩) 1 1] 78)).cell? ⟨w.heap.size, j, none⟩ = some x := by
    intro j x hx
    rw [(gal _ _).cell (by simp <;> omega), (gal _ _).cell (by simp <;> omega), (gal _ _).cell (by simp <;> omega)]
    exact new_cell rfl hx
  have q0 := q 0 _ rfl
  have q1 := q 1 _ rfl
  have q2 := q 2 _ rfl
  refine bodyPost_ret (v := .agg #[.int .i64 gPair.hor, .slice (some ⟨w.heap.size + 1, 0, none⟩) gPair.lives.length 2, .slice (some ⟨w.heap.size + 1 + 1 + 1, 0, none⟩) gPair.edges.length 1]) (by simp [results, Try.results10, go_sem, q0, q1, q2, gPair]) rfl ⟨_, _, rfl, hG, ptg (ptg (ptg (gal _ _) (gal _ _)) (gal _ _)) (gal _ _)⟩

theorem pair_yes : goAns gPair 0 0 [(0, 3)] = (1, 6, 7, 0) := by decide
theorem pair_no : goAns gPair 0 0 [(0, 4)] = (0, 0, 0, 5) := by decide

theorem one_hop (w : World) (T : TypeId) (a b : Int) : IvAt (w.alloc (.cells #[.int .i64 a, .int .i64 b] T)) (some ⟨w.heap.size, 0, none⟩) [(a, b)] := by
  refine .inr ⟨_, _, rfl, by simp, fun j hj => ?_⟩
  have hj' : j = 0 := by simp at hj; omega
  subst hj'
  exact ⟨new_cell rfl rfl, new_cell rfl rfl⟩

end Go.Proofs.Ytanbbkoleekmjag
