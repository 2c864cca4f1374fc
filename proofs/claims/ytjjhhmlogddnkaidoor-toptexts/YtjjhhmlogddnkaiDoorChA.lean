/-
  What prices of rides are; what take of the program's states does.
-/
import Derived.Test.YtjjhhmlogddnkaiDoorChMap
import Derived.Test.YtjjhhmlogddnkaiDoorErA
namespace Go.Proofs.YtjjhhmlogddnkaiDoor
open Go.RowKit

/-- a ride as a value -/
def rideV (r : Ri) : Value := .agg #[.int .i64 r.1, .int .i64 r.2.1, .int .i64 r.2.2.1, .int .i64 r.2.2.2.1, .int .i64 r.2.2.2.2.1, .int .i64 r.2.2.2.2.2]
theorem costOf_any (r : Ri) (w : World) : Calls Tryd.prog 20 #[rideV r] w fun res w' => res = .returned (.int .i64 r.2.2.2.2.2) ∧ Below w.heap.size w w' := by
  obtain ⟨E, d, a, e, ar, c⟩ := r
  simp only [rideV]
  go_enter Tryd.func20, Tryd.ntmps20
  go_wp2
  go_ret
  exact ⟨rfl, gal w _⟩
theorem encV_mk (p E d a e ar c : Int) : encV (p, E, d, a, e, ar, c) = .agg #[.int .i64 p, .int .i64 E, .int .i64 d, .int .i64 a, .int .i64 e, .int .i64 ar, .int .i64 c] := rfl
set_option maxRecDepth 100000 in
set_option maxHeartbeats 1000000 in
theorem take_any (b n : Nat) (M : Mp) (r : Ri) (p : Int) (w : World) (hM : MapAt w b n M) (hn : n < 100000) (hr : Wi r.2.1 ∧ Wi r.2.2.1 ∧ Wi r.2.2.2.1 ∧ Wi r.2.2.2.2.1) (hp : 0 ≤ p ∧ p ≤ 1000) (hx : ∀ x, M r.2.2.1 r.2.1 = some x → -1000000 ≤ x.1 ∧ x.1 ≤ 1000000) :
    Calls Tryd.prog 56 #[.map (some b), rideV r, .int .i64 p] w fun res w' => (∃ v, res = .returned v) ∧ MapAt w' b (n + 1) (takeM M r p) ∧ w.grownBy w' (some b) := by
  obtain ⟨E, d, a, e, ar, c⟩ := r
  simp only [rideV]
  simp only at hr hx
  obtain ⟨hd, ha, he, har⟩ := hr
  obtain ⟨w1, hw1⟩ : ∃ x, x = w.alloc (.cells #[.int .i64 E, .int .i64 d, .int .i64 a, .int .i64 e, .int .i64 ar, .int .i64 c] 68) := ⟨_, rfl⟩
  have b1 : Below w.heap.size w w1 := by rw [hw1]; exact gal w _
  have M1 := hM.below b1
  have k1 := M1.look ha hd
  have y1 : w1.cell? ⟨w.heap.size, 1, none⟩ = some (.int .i64 d) := by rw [hw1]; exact new_cell rfl rfl
  have y2 : w1.cell? ⟨w.heap.size, 2, none⟩ = some (.int .i64 a) := by rw [hw1]; exact new_cell rfl rfl
  have hw1s := hw1.symm
  cases h1 : M a d with
  | none =>
    have HT : Hid (takeM M (E, d, a, e, ar, c) p = M) := by show _ = _; unfold takeM; simp only; rw [h1]
    rw [h1] at k1
    simp only [keyV, Option.getD_none, encV_mk, Option.isSome_none] at k1
    clear h1 hw1
    go_enter Tryd.func56, Tryd.ntmps56
    go_wp2
    refine bodyPost_ret (results_none rfl _ _ _) rfl ⟨⟨_, rfl⟩, ?_, ?_⟩
    · rw [HT.out]; exact (M1.alloc _).mono (by omega)
    · exact gby_of_below (ptg b1 (gal w1 _)) _
  | some x =>
    obtain ⟨q, E2, d2, a2, e2, ar2, c2⟩ := x
    have hq := hx _ h1
    simp only at hq
    rw [h1] at k1
    simp only [keyV, Option.getD_some, encV_mk, Option.isSome_some] at k1
    have hw2 : IntKind.i64.wrap (q + p) = q + p := wrap_nj _ (by omega) (by omega)
    obtain ⟨w3, hw3⟩ : ∃ x, x = (w1.alloc (.cells #[.int .i64 q, .int .i64 E2, .int .i64 d2, .int .i64 a2, .int .i64 e2, .int .i64 ar2, .int .i64 c2] 90)).alloc (.cells #[.int .i64 e, .int .i64 ar] 93) := ⟨_, rfl⟩
    have b3 : Below w1.heap.size w1 w3 := by rw [hw3]; exact ptg (gal _ _) (gal _ _)
    have s3 : w3.heap.size = w1.heap.size + 1 + 1 := by rw [hw3]; simp
    have s1 : w1.heap.size = w.heap.size + 1 := by rw [hw1]; simp
    have M3 := M1.below b3
    have k2 := M3.look he har
    have z0 : w3.cell? ⟨w1.heap.size, 0, none⟩ = some (.int .i64 q) := by rw [hw3, (gal _ _).cell (by simp)]; exact new_cell rfl rfl
    have z1 : w3.cell? ⟨w1.heap.size + 1, 0, none⟩ = some (.int .i64 e) := by rw [hw3]; exact new_cell (by simp) rfl
    have z2 : w3.cell? ⟨w1.heap.size + 1, 1, none⟩ = some (.int .i64 ar) := by rw [hw3]; exact new_cell (by simp) rfl
    have y3 : w1.cell? ⟨w.heap.size, 3, none⟩ = some (.int .i64 e) := by rw [hw1]; exact new_cell rfl rfl
    have y4 : w1.cell? ⟨w.heap.size, 4, none⟩ = some (.int .i64 ar) := by rw [hw1]; exact new_cell rfl rfl
    have y3' : (w1.alloc (.cells #[.int .i64 q, .int .i64 E2, .int .i64 d2, .int .i64 a2, .int .i64 e2, .int .i64 ar2, .int .i64 c2] 90)).cell? ⟨w.heap.size, 3, none⟩ = some (.int .i64 e) := ((gal w1 _).cell (p := ⟨w.heap.size, 3, none⟩) (by simp only; omega)).trans y3
    have y4' : (w1.alloc (.cells #[.int .i64 q, .int .i64 E2, .int .i64 d2, .int .i64 a2, .int .i64 e2, .int .i64 ar2, .int .i64 c2] 90)).cell? ⟨w.heap.size, 4, none⟩ = some (.int .i64 ar) := ((gal w1 _).cell (p := ⟨w.heap.size, 4, none⟩) (by simp only; omega)).trans y4
    have hw3s := hw3.symm
    have no : ∀ W, Below w3.heap.size w3 W → takeM M (E, d, a, e, ar, c) p = M → MapAt W b (n + 1) (takeM M (E, d, a, e, ar, c) p) ∧ w.grownBy W (some b) := fun W h h' => by
      rw [h']; exact ⟨(M3.below h).mono (by omega), gby_of_below (ptg b1 (ptg b3 h)) _⟩
    have yes : ∀ W, Below w3.heap.size w3 W → takeM M (E, d, a, e, ar, c) p = mset M e ar (q + p, E, d, a, e, ar, c) → ∃ w', (Instr.mapUpdate 87 (.map (some b)) (.agg #[.int .i64 e, .int .i64 ar]) (.agg #[.int .i64 (q + p), .int .i64 E, .int .i64 d, .int .i64 a, .int .i64 e, .int .i64 ar, .int .i64 c])).run Tryd.prog W = .ok () w' ∧ Hid (MapAt w' b (n + 1) (takeM M (E, d, a, e, ar, c) p) ∧ w.grownBy w' (some b)) := fun W h h' => by
      obtain ⟨w', r1, r2, r3⟩ := (M3.below h).store (by unfold maxLen; omega) he har (q + p, E, d, a, e, ar, c)
      exact ⟨w', r1, by rw [h']; exact r2, gby_trans (gby_of_below (ptg b1 (ptg b3 h)) _) r3⟩
    have HNo := hideg no
    have HYes := hideg yes
    have cY : ∀ W, Below w3.heap.size w3 W → ∀ j x, w1.cell? ⟨w.heap.size, j, none⟩ = some x → W.cell? ⟨w.heap.size, j, none⟩ = some x := fun W h j x hx => ((ptg b3 h).cell (p := ⟨w.heap.size, j, none⟩) (by simp only; omega)).trans hx
    have HC := hideg cY
    have y0 : w1.cell? ⟨w.heap.size, 0, none⟩ = some (.int .i64 E) := by rw [hw1]; exact new_cell rfl rfl
    have y5 : w1.cell? ⟨w.heap.size, 5, none⟩ = some (.int .i64 c) := by rw [hw1]; exact new_cell rfl rfl
    have HTk : Hid (takeM M (E, d, a, e, ar, c) p = if lessB (M e ar) (q + p) = true then mset M e ar (q + p, E, d, a, e, ar, c) else M) := by show _ = _; unfold takeM; simp only; rw [h1]
    have HSz : Hid (w3.heap.size = w1.heap.size + 1 + 1) := s3
    clear no yes hM M1 M3 hx h1 cY hw1 hw3 s1 s3
    cases h2 : M e ar with
    | none =>
      rw [h2] at k2
      simp only [keyV, Option.getD_none, encV_mk, Option.isSome_none] at k2
      have HT : Hid (takeM M (E, d, a, e, ar, c) p = mset M e ar (q + p, E, d, a, e, ar, c)) := by show _ = _; rw [HTk.out, h2]; rfl
      obtain ⟨w', hup, HF⟩ := HYes.out (w3.alloc (.cells #[.int .i64 0, .int .i64 0, .int .i64 0, .int .i64 0, .int .i64 0, .int .i64 0, .int .i64 0] 90)) (gal w3 _) HT.out
      clear HTk h2
      have z0' := ((gal w3 (.cells #[.int .i64 0, .int .i64 0, .int .i64 0, .int .i64 0, .int .i64 0, .int .i64 0, .int .i64 0] 90)).cell (p := ⟨w1.heap.size, 0, none⟩) (by simp only; have := HSz.out; omega)).trans z0
      have z1' := ((gal w3 (.cells #[.int .i64 0, .int .i64 0, .int .i64 0, .int .i64 0, .int .i64 0, .int .i64 0, .int .i64 0] 90)).cell (p := ⟨w1.heap.size + 1, 0, none⟩) (by simp only; have := HSz.out; omega)).trans z1
      have z2' := ((gal w3 (.cells #[.int .i64 0, .int .i64 0, .int .i64 0, .int .i64 0, .int .i64 0, .int .i64 0, .int .i64 0] 90)).cell (p := ⟨w1.heap.size + 1, 1, none⟩) (by simp only; have := HSz.out; omega)).trans z2
      have c0 := HC.out _ (gal w3 (.cells #[.int .i64 0, .int .i64 0, .int .i64 0, .int .i64 0, .int .i64 0, .int .i64 0, .int .i64 0] 90)) 0 _ y0
      have c1 := HC.out _ (gal w3 (.cells #[.int .i64 0, .int .i64 0, .int .i64 0, .int .i64 0, .int .i64 0, .int .i64 0, .int .i64 0] 90)) 1 _ y1
      have c2' := HC.out _ (gal w3 (.cells #[.int .i64 0, .int .i64 0, .int .i64 0, .int .i64 0, .int .i64 0, .int .i64 0, .int .i64 0] 90)) 2 _ y2
      have c3 := HC.out _ (gal w3 (.cells #[.int .i64 0, .int .i64 0, .int .i64 0, .int .i64 0, .int .i64 0, .int .i64 0, .int .i64 0] 90)) 3 _ y3
      have c4 := HC.out _ (gal w3 (.cells #[.int .i64 0, .int .i64 0, .int .i64 0, .int .i64 0, .int .i64 0, .int .i64 0, .int .i64 0] 90)) 4 _ y4
      have c5 := HC.out _ (gal w3 (.cells #[.int .i64 0, .int .i64 0, .int .i64 0, .int .i64 0, .int .i64 0, .int .i64 0, .int .i64 0] 90)) 5 _ y5
      go_enter Tryd.func56, Tryd.ntmps56
      go_wp2
      refine bodyPost_end (results_none rfl _ _ _) rfl ⟨⟨_, rfl⟩, HF.out.1, HF.out.2⟩
    | some y =>
      obtain ⟨q2, E3, d3, a3, e3, ar3, c3⟩ := y
      rw [h2] at k2
      simp only [keyV, Option.getD_some, encV_mk, Option.isSome_some] at k2
      by_cases hl : q + p < q2
      · have HT : Hid (takeM M (E, d, a, e, ar, c) p = mset M e ar (q + p, E, d, a, e, ar, c)) := by
          show _ = _; rw [HTk.out, h2, if_pos (by simp [lessB, hl])]
        obtain ⟨w', hup, HF⟩ := HYes.out (w3.alloc (.cells #[.int .i64 q2, .int .i64 E3, .int .i64 d3, .int .i64 a3, .int .i64 e3, .int .i64 ar3, .int .i64 c3] 90)) (gal w3 _) HT.out
        clear HTk h2
        have z0' := ((gal w3 (.cells #[.int .i64 q2, .int .i64 E3, .int .i64 d3, .int .i64 a3, .int .i64 e3, .int .i64 ar3, .int .i64 c3] 90)).cell (p := ⟨w1.heap.size, 0, none⟩) (by simp only; have := HSz.out; omega)).trans z0
        have z1' := ((gal w3 (.cells #[.int .i64 q2, .int .i64 E3, .int .i64 d3, .int .i64 a3, .int .i64 e3, .int .i64 ar3, .int .i64 c3] 90)).cell (p := ⟨w1.heap.size + 1, 0, none⟩) (by simp only; have := HSz.out; omega)).trans z1
        have z2' := ((gal w3 (.cells #[.int .i64 q2, .int .i64 E3, .int .i64 d3, .int .i64 a3, .int .i64 e3, .int .i64 ar3, .int .i64 c3] 90)).cell (p := ⟨w1.heap.size + 1, 1, none⟩) (by simp only; have := HSz.out; omega)).trans z2
        have c0 := HC.out _ (gal w3 (.cells #[.int .i64 q2, .int .i64 E3, .int .i64 d3, .int .i64 a3, .int .i64 e3, .int .i64 ar3, .int .i64 c3] 90)) 0 _ y0
        have c1 := HC.out _ (gal w3 (.cells #[.int .i64 q2, .int .i64 E3, .int .i64 d3, .int .i64 a3, .int .i64 e3, .int .i64 ar3, .int .i64 c3] 90)) 1 _ y1
        have c2' := HC.out _ (gal w3 (.cells #[.int .i64 q2, .int .i64 E3, .int .i64 d3, .int .i64 a3, .int .i64 e3, .int .i64 ar3, .int .i64 c3] 90)) 2 _ y2
        have c3' := HC.out _ (gal w3 (.cells #[.int .i64 q2, .int .i64 E3, .int .i64 d3, .int .i64 a3, .int .i64 e3, .int .i64 ar3, .int .i64 c3] 90)) 3 _ y3
        have c4 := HC.out _ (gal w3 (.cells #[.int .i64 q2, .int .i64 E3, .int .i64 d3, .int .i64 a3, .int .i64 e3, .int .i64 ar3, .int .i64 c3] 90)) 4 _ y4
        have c5 := HC.out _ (gal w3 (.cells #[.int .i64 q2, .int .i64 E3, .int .i64 d3, .int .i64 a3, .int .i64 e3, .int .i64 ar3, .int .i64 c3] 90)) 5 _ y5
        go_enter Tryd.func56, Tryd.ntmps56
        go_wp2
        refine bodyPost_end (results_none rfl _ _ _) rfl ⟨⟨_, rfl⟩, HF.out.1, HF.out.2⟩
      · have HT : Hid (takeM M (E, d, a, e, ar, c) p = M) := by
          show _ = _; rw [HTk.out, h2, if_neg (by simp [lessB]; omega)]
        have z0' := ((gal w3 (.cells #[.int .i64 q2, .int .i64 E3, .int .i64 d3, .int .i64 a3, .int .i64 e3, .int .i64 ar3, .int .i64 c3] 90)).cell (p := ⟨w1.heap.size, 0, none⟩) (by simp only; have := HSz.out; omega)).trans z0
        clear HTk h2 HYes
        go_enter Tryd.func56, Tryd.ntmps56
        go_wp2
        refine bodyPost_end (results_none rfl _ _ _) rfl ⟨⟨_, rfl⟩, (HNo.out _ (gal w3 _) HT.out).1, (HNo.out _ (gal w3 _) HT.out).2⟩

end Go.Proofs.YtjjhhmlogddnkaiDoor
