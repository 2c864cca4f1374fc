/-
  The line of three vertices that the laws on the whole try first; said: is its way told rightly?
-/
import Derived.Test.YtjjhhmlogddnkaiDoorChLaw
import Derived.Test.YtjjhhmlogddnkaiDoorErD
import Derived.Test.YtjjhhmlogddnkaiDoorEqI
import Derived.Test.YtjjhhmlogddnkaiDoorEqH
import Derived.Test.YtjjhhmlogddnkaiDoorLawCSays0
namespace Go.Proofs.YtjjhhmlogddnkaiDoor
open Go.RowKit

/-- three vertices, two edges -/
def gLine : Gr := ⟨12, [(0, 12), (0, 12), (1, 12)], [(0, 1, [(0, 3, 2, 5), (3, 6, 1, 1)]), (1, 2, [(4, 5, 3, 2)])]⟩

theorem line_chk : gChk gLine = 0 := by decide +kernel
theorem line_p0 : placeE gLine 0 0 = 0 := by decide +kernel
theorem line_arr : arrA gLine 0 0 = [0, 2, 7] := by decide +kernel
theorem line_way : (erF gLine 0 0).1.getD 2 0 ≠ 1099511627776 ∧ (trF (erF gLine 0 0).2 0 300 2).reverse = [(0, 0), (1, 4)] := by decide +kernel
theorem line_wayIs {e : Int} {l : List Hp} (h : WayIs gLine 0 0 2 e l) : e = 0 ∧ l = [(0, 0), (1, 4)] := by
  rcases h with ⟨h1, _⟩ | ⟨_, h1, _⟩ | ⟨_, _, _, h1, _, h2⟩
  · exact absurd line_p0 h1
  · rcases h1 with h1 | h1
    · exact absurd ⟨by omega, by decide⟩ h1
    · exact absurd h1 line_way.1
  · exact ⟨h1, by rw [h2]; exact line_way.2⟩
theorem line_least : LeastIs gLine prCost 0 0 [0, 1, 3] := by
  have ha : aliveB 0 gLine.lives 0 = true := by decide
  have hb : Pay gLine prCost 0 0 0 0 0 := ⟨ha, .base (by unfold F1; rw [if_pos ⟨rfl, rfl⟩])⟩
  have h3 : Pay gLine prCost 0 0 0 (0 + 1 + 1 + 1) 0 := ⟨ha, .wait (.wait (.wait hb.2 (by decide)) (by decide)) (by decide)⟩
  have hm1 : ((0 : Int), (3 : Int), (0 : Int), (1 : Int), (4 : Int), (1 : Int)) ∈ ridesF gLine := by decide +kernel
  have hm2 : ((1 : Int), (4 : Int), (1 : Int), (2 : Int), (7 : Int), (2 : Int)) ∈ ridesF gLine := by decide +kernel
  have h4 : Pay gLine prCost 0 0 1 4 1 := ⟨ha, Pd.ride hm1 h3.2⟩
  have h7 : Pay gLine prCost 0 0 2 7 3 := ⟨ha, Pd.ride hm2 h4.2⟩
  have hr : ∀ r ∈ ridesF gLine, (if r.2.2.2.1 = 1 then (1 : Int) else if r.2.2.2.1 = 2 then 3 else 0) ≤ (if r.2.2.1 = 1 then (1 : Int) else if r.2.2.1 = 2 then 3 else 0) + prCost r := by decide +kernel
  refine ⟨rfl, fun x hx => ?_, fun x hx t p hp => ?_⟩
  · have hx' : x = 0 ∨ x = 1 ∨ x = 2 := by simp [gLine] at hx; omega
    rcases hx' with rfl | rfl | rfl
    · exact .inr ⟨0, hb⟩
    · exact .inr ⟨4, h4⟩
    · exact .inr ⟨7, h7⟩
  · have hx' : x = 0 ∨ x = 1 ∨ x = 2 := by simp [gLine] at hx; omega
    have := pay_bound (b := fun x => if x = 1 then (1 : Int) else if x = 2 then 3 else 0) (by decide) hr hp
    rcases hx' with rfl | rfl | rfl
    · simpa using this
    · simpa using this
    · simpa using this
theorem line_costs {L : List Int} (h : LeastE gLine prCost 0 0 L) : L = [0, 1, 3] := least_unique (gChk_right line_chk) (prCost_ok (gChk_right line_chk)) (by omega) (leastE_ok h line_p0) line_least

theorem line_at (w : World) (o : Obj) (T1 T2 T3 T4 : TypeId) : GAt (((((w.alloc o).alloc (.cells #[.int .i64 0, .int .i64 12, .int .i64 0, .int .i64 12, .int .i64 1, .int .i64 12] T1)).alloc (.cells #[.int .i64 0, .int .i64 3, .int .i64 2, .int .i64 5, .int .i64 3, .int .i64 6, .int .i64 1, .int .i64 1] T2)).alloc (.cells #[.int .i64 4, .int .i64 5, .int .i64 3, .int .i64 2] T3)).alloc (.cells #[.int .i64 0, .int .i64 1, .slice (some ⟨w.heap.size + 1 + 1, 0, none⟩) 2 2, .int .i64 1, .int .i64 2, .slice (some ⟨w.heap.size + 1 + 1 + 1, 0, none⟩) 1 1] T4)) (some ⟨w.heap.size + 1, 0, none⟩) (some ⟨w.heap.size + 1 + 1 + 1 + 1, 0, none⟩) gLine := by
  have q1 : ∀ j x, #[Value.int .i64 0, .int .i64 12, .int .i64 0, .int .i64 12, .int .i64 1, .int .i64 12][j]? = some x → (((((w.alloc o).alloc (.cells #[.int .i64 0, .int .i64 12, .int .i64 0, .int .i64 12, .int .i64 1, .int .i64 12] T1)).alloc (.cells #[.int .i64 0, .int .i64 3, .int .i64 2, .int .i64 5, .int .i64 3, .int .i64 6, .int .i64 1, .int .i64 1] T2)).alloc (.cells #[.int .i64 4, .int .i64 5, .int .i64 3, .int .i64 2] T3)).alloc (.cells #[.int .i64 0, .int .i64 1, .slice (some ⟨w.heap.size + 1 + 1, 0, none⟩) 2 2, .int .i64 1, .int .i64 2, .slice (some ⟨w.heap.size + 1 + 1 + 1, 0, none⟩) 1 1] T4)).cell? ⟨w.heap.size + 1, j, none⟩ = some x := by
    intro j x hx
    rw [(gal _ _).cell (by simp <;> omega), (gal _ _).cell (by simp <;> omega), (gal _ _).cell (by simp <;> omega)]
    exact new_cell (by simp) hx
  have q2 : ∀ j x, #[Value.int .i64 0, .int .i64 3, .int .i64 2, .int .i64 5, .int .i64 3, .int .i64 6, .int .i64 1, .int .i64 1][j]? = some x → (((((w.alloc o).alloc (.cells #[.int .i64 0, .int .i64 12, .int .i64 0, .int .i64 12, .int .i64 1, .int .i64 12] T1)).alloc (.cells #[.int .i64 0, .int .i64 3, .int .i64 2, .int .i64 5, .int .i64 3, .int .i64 6, .int .i64 1, .int .i64 1] T2)).alloc (.cells #[.int .i64 4, .int .i64 5, .int .i64 3, .int .i64 2] T3)).alloc (.cells #[.int .i64 0, .int .i64 1, .slice (some ⟨w.heap.size + 1 + 1, 0, none⟩) 2 2, .int .i64 1, .int .i64 2, .slice (some ⟨w.heap.size + 1 + 1 + 1, 0, none⟩) 1 1] T4)).cell? ⟨w.heap.size + 1 + 1, j, none⟩ = some x := by
    intro j x hx
    rw [(gal _ _).cell (by simp <;> omega), (gal _ _).cell (by simp <;> omega)]
    exact new_cell (by simp) hx
  have q3 : ∀ j x, #[Value.int .i64 4, .int .i64 5, .int .i64 3, .int .i64 2][j]? = some x → (((((w.alloc o).alloc (.cells #[.int .i64 0, .int .i64 12, .int .i64 0, .int .i64 12, .int .i64 1, .int .i64 12] T1)).alloc (.cells #[.int .i64 0, .int .i64 3, .int .i64 2, .int .i64 5, .int .i64 3, .int .i64 6, .int .i64 1, .int .i64 1] T2)).alloc (.cells #[.int .i64 4, .int .i64 5, .int .i64 3, .int .i64 2] T3)).alloc (.cells #[.int .i64 0, .int .i64 1, .slice (some ⟨w.heap.size + 1 + 1, 0, none⟩) 2 2, .int .i64 1, .int .i64 2, .slice (some ⟨w.heap.size + 1 + 1 + 1, 0, none⟩) 1 1] T4)).cell? ⟨w.heap.size + 1 + 1 + 1, j, none⟩ = some x := by
    intro j x hx
    rw [(gal _ _).cell (by simp <;> omega)]
    exact new_cell (by simp) hx
  refine ⟨.inr ⟨_, _, rfl, by simp <;> omega, fun j hj => ?_⟩, .inr ⟨_, _, rfl, by simp, fun j hj => ?_⟩, by simp [gLine], by simp [gLine]⟩
  · have hj' : j = 0 ∨ j = 1 ∨ j = 2 := by simp [gLine] at hj; omega
    rcases hj' with rfl | rfl | rfl
    · exact ⟨q1 0 _ rfl, q1 1 _ rfl⟩
    · exact ⟨q1 2 _ rfl, q1 3 _ rfl⟩
    · exact ⟨q1 4 _ rfl, q1 5 _ rfl⟩
  · have hj' : j = 0 ∨ j = 1 := by simp [gLine] at hj; omega
    rcases hj' with rfl | rfl
    · refine ⟨new_cell (by simp) rfl, new_cell (by simp) rfl, some ⟨w.heap.size + 1 + 1, 0, none⟩, 2, new_cell (by simp) rfl, .inr ⟨_, _, rfl, by simp <;> omega, fun k hk => ?_⟩, by simp [gLine], by omega⟩
      have hk' : k = 0 ∨ k = 1 := by simp [gLine] at hk; omega
      rcases hk' with rfl | rfl
      · exact ⟨q2 0 _ rfl, q2 1 _ rfl, q2 2 _ rfl, q2 3 _ rfl⟩
      · exact ⟨q2 4 _ rfl, q2 5 _ rfl, q2 6 _ rfl, q2 7 _ rfl⟩
    · refine ⟨new_cell (by simp) rfl, new_cell (by simp) rfl, some ⟨w.heap.size + 1 + 1 + 1, 0, none⟩, 1, new_cell (by simp) rfl, .inr ⟨_, _, rfl, by simp <;> omega, fun k hk => ?_⟩, by simp [gLine], by omega⟩
      have hk' : k = 0 := by simp [gLine] at hk; omega
      subst hk'
      exact ⟨q3 0 _ rfl, q3 1 _ rfl, q3 2 _ rfl, q3 3 _ rfl⟩

set_option maxRecDepth 100000 in
set_option maxHeartbeats 2000000 in
theorem line_any (w : World) : Calls Tryd.prog 9 #[] w fun r w' => ∃ la ea, r = .returned (.agg #[.int .i64 gLine.hor, .slice la gLine.lives.length 3, .slice ea gLine.edges.length 2]) ∧ GAt w' la ea gLine ∧ Below w.heap.size w w' := by
  go_enter Tryd.func9, Tryd.ntmps9
  go_wp2
  obtain ⟨o, ho⟩ : ∃ o : Obj, o = .cells #[.int .i64 12, .slice (some ⟨w.heap.size + 1, 0, none⟩) 3 3, .slice (some ⟨w.heap.size + 1 + 1 + 1 + 1, 0, none⟩) 2 2] 25 := ⟨_, rfl⟩
  have hG := line_at w o 51 56 56 54
  have q : ∀ j x, #[Value.int .i64 12, .slice (some ⟨w.heap.size + 1, 0, none⟩) 3 3, .slice (some ⟨w.heap.size + 1 + 1 + 1 + 1, 0, none⟩) 2 2][j]? = some x → (((((w.alloc o).alloc (.cells #[.int .i64 0, .int .i64 12, .int .i64 0, .int .i64 12, .int .i64 1, .int .i64 12] 51)).alloc (.cells #[.int .i64 0, .int .i64 3, .int .i64 2, .int .i64 5, .int .i64 3, .int .i64 6, .int .i64 1, .int .i64 1] 56)).alloc (.cells #[.int .i64 4, .int .i64 5, .int .i64 3, .int .i64 2] 56)).alloc (.cells #[.int .i64 0, .int .i64 1, .slice (some ⟨w.heap.size + 1 + 1, 0, none⟩) 2 2, .int .i64 1, .int .i64 2, .slice (some ⟨w.heap.size + 1 + 1 + 1, 0, none⟩) 1 1] 54)).cell? ⟨w.heap.size, j, none⟩ = some x := by
    intro j x hx
    rw [(gal _ _).cell (by simp <;> omega), (gal _ _).cell (by simp <;> omega), (gal _ _).cell (by simp <;> omega), (gal _ _).cell (by simp <;> omega), ho]
    exact new_cell rfl hx
  have q0 := q 0 _ rfl
  have q1 := q 1 _ rfl
  have q2 := q 2 _ rfl
  subst ho
  refine bodyPost_ret (v := .agg #[.int .i64 gLine.hor, .slice (some ⟨w.heap.size + 1, 0, none⟩) gLine.lives.length 3, .slice (some ⟨w.heap.size + 1 + 1 + 1 + 1, 0, none⟩) gLine.edges.length 2]) (by simp [results, Tryd.results9, go_sem, q0, q1, q2, gLine]) rfl ⟨_, _, rfl, hG, ptg (ptg (ptg (ptg (gal _ _) (gal _ _)) (gal _ _)) (gal _ _)) (gal _ _)⟩

end Go.Proofs.YtjjhhmlogddnkaiDoor
