/-
  A pair turned round: the laws on time turned round begin so.
-/
import Derived.Test.YtanbbkoleekmjagTnB
import Derived.Test.YtanbbkoleekmjagSame
import Derived.Test.YtanbbkoleekmjagPair
namespace Go.Proofs.Ytanbbkoleekmjag
open Go.RowKit

theorem pairG_at (w : World) (o : Obj) (T1 T2 T3 : TypeId) (h a b c d A C x y z u : Int) : GAt ((((w.alloc o).alloc (.cells #[.int .i64 a, .int .i64 b, .int .i64 c, .int .i64 d] T1)).alloc (.cells #[.int .i64 x, .int .i64 y, .int .i64 z, .int .i64 u] T2)).alloc (.cells #[.int .i64 A, .int .i64 C, .slice (some ⟨w.heap.size + 1 + 1, 0, none⟩) 1 1] T3)) (some ⟨w.heap.size + 1, 0, none⟩) (some ⟨w.heap.size + 1 + 1 + 1, 0, none⟩) ⟨h, [(a, b), (c, d)], [(A, C, [(x, y, z, u)])]⟩ := by
  refine ⟨.inr ⟨_, _, rfl, by simp <;> omega, fun j hj => ?_⟩, .inr ⟨_, _, rfl, by simp, fun j hj => ?_⟩, by simp, by simp⟩
  · have hj' : j = 0 ∨ j = 1 := by simp at hj; omega
    rcases hj' with rfl | rfl
    · exact ⟨by rw [(gal _ _).cell (by simp <;> omega), (gal _ _).cell (by simp <;> omega)]; exact new_cell (by simp) rfl, by rw [(gal _ _).cell (by simp <;> omega), (gal _ _).cell (by simp <;> omega)]; exact new_cell (by simp) rfl⟩
    · exact ⟨by rw [(gal _ _).cell (by simp <;> omega), (gal _ _).cell (by simp <;> omega)]; exact new_cell (by simp) rfl, by rw [(gal _ _).cell (by simp <;> omega), (gal _ _).cell (by simp <;> omega)]; exact new_cell (by simp) rfl⟩
  · have hj' : j = 0 := by simp at hj; omega
    subst hj'
    refine ⟨new_cell (by simp) rfl, new_cell (by simp) rfl, some ⟨w.heap.size + 1 + 1, 0, none⟩, 1, new_cell (by simp) rfl, .inr ⟨_, _, rfl, by simp <;> omega, fun k hk => ?_⟩, by simp, by omega⟩
    have hk' : k = 0 := by simp at hk; omega
    subst hk'
    exact ⟨by rw [(gal _ _).cell (by simp <;> omega)]; exact new_cell (by simp) rfl, by rw [(gal _ _).cell (by simp <;> omega)]; exact new_cell (by simp) rfl, by rw [(gal _ _).cell (by simp <;> omega)]; exact new_cell (by simp) rfl, by rw [(gal _ _).cell (by simp <;> omega)]; exact new_cell (by simp) rfl⟩

theorem gbx_new (w W : World) (hb : Below w.heap.size w W) (g : Gr) (la ea : Option Addr) (lc ec : Nat) (T : TypeId) : GBx w (W.alloc (.cells #[.int .i64 g.hor, .slice la g.lives.length lc, .slice ea g.edges.length ec] T)) W.heap.size g la ea lc ec :=
  ⟨by simp, by simp, by simp, ptg hb (gal W _), by simp⟩
theorem tRevA_err {g : Gr} (h : ¬ (tRevA g).2 = 0) : (tRevA g).1 = ⟨0, [], []⟩ := by
  unfold tRevA revA at h ⊢
  split
  · rename_i h1
    rw [if_pos h1] at h
    split
    · rfl
    · rename_i h2; rw [if_neg h2] at h; exact absurd rfl h
  · rfl
theorem tRevA_ok {g : Gr} (h : (tRevA g).2 = 0) : gChk g = 0 ∧ (revG g).edges.length ≤ 30 ∧ (tRevA g).1 = revG g := by
  unfold tRevA revA at h ⊢
  split
  · rename_i h1
    rw [if_pos h1] at h
    split
    · rename_i h2; rw [if_pos h2] at h; exact absurd h (by decide)
    · exact ⟨h1, by omega, rfl⟩
  · rename_i h1
    rw [if_neg h1] at h; exact absurd h h1
theorem tRevA_of {g : Gr} (h : gChk g = 0) (h2 : (revG g).edges.length ≤ 30) : tRevA g = (revG g, 0) := by
  unfold tRevA revA
  rw [if_pos h, if_neg (by omega)]

def gRiap : Gr := ⟨10, [(0, 10), (1, 8)], [(1, 0, [(3, 6, 3, 7)])]⟩
theorem pair_rev : tRevA gPair = (gRiap, 0) := by
  have h1 : gChk gPair = 0 := by decide +kernel
  have h2 : (revG gPair).lives = gRiap.lives := by decide +kernel
  have h3 : (revG gPair).edges = gRiap.edges := by first | kernel_rfl | (simp [revG, revEs, revE, rvB, revLg, rvA, gPair, gRiap])
  have h4 : (revG gPair) = gRiap := by
    have h5 : (revG gPair).hor = gRiap.hor := rfl
    generalize revG gPair = x at *
    obtain ⟨a, b, c⟩ := x
    simp only at h2 h3 h5
    rw [h2, h3, h5]
  unfold tRevA revA
  rw [if_pos h1, h4, if_neg (by decide +kernel)]

set_option maxRecDepth 100000 in
set_option maxHeartbeats 1000000 in
theorem turned0_any (w : World) : Calls Try.prog 19 #[] w fun r w' => r = .returned (.bool true) ∧ Below w.heap.size w w' := by
  have h1 := fun la ea W (hG : GAt W la ea gPair) => tRev_any gPair la ea 2 1 W hG
  rw [pair_rev] at h1
  have hp := fun W => pair_any W
  generalize gPair = gp at *
  have HP := hideg hp
  have H1 := hideg h1
  have HS := hideg (fun la ea lb eb lc ec ld ed W hA hB => Same_any gRiap la ea lb eb lc ec ld ed W hA hB)
  have HGi : Hid (gRiap.hor = 10 ∧ gRiap.lives.length = 2 ∧ gRiap.edges.length = 1) := ⟨rfl, rfl, rfl⟩
  have HGa := hideg (fun w o => pairG_at w o 55 75 78 10 0 10 1 8 1 0 3 6 3 7)
  rw [show (⟨10, [(0, 10), (1, 8)], [(1, 0, [(3, 6, 3, 7)])]⟩ : Gr) = gRiap from rfl] at HGa
  simp only [HGi.out.1, HGi.out.2.1, HGi.out.2.2] at H1 HS
  generalize gRiap = gr at *
  clear hp h1
  go_enter Try.func19, Try.ntmps19
  go_wp2_with fail
  refine (HP.out _).mono ?_
  rintro r w1 ⟨la, ea, rfl, hG1, hb1⟩
  go_wp2_with fail
  refine (H1.out la ea _ hG1).mono ?_
  rintro r w2 ⟨la2, ea2, lc2, ec2, rfl, hG2, hb2⟩
  have hbb := ptg hb1 hb2
  have hg2 := HGa.out w2 (.cells #[.int .i64 10, .slice la2 2 lc2, .slice ea2 1 ec2] 25)
  clear hb1 hb2 hG1 HP H1
  obtain ⟨w3, hw3⟩ : ∃ x, x = (((w2.alloc (.cells #[.int .i64 10, .slice la2 2 lc2, .slice ea2 1 ec2] 25)).alloc (.cells #[.int .i64 0, .int .i64 10, .int .i64 1, .int .i64 8] 55)).alloc (.cells #[.int .i64 3, .int .i64 6, .int .i64 3, .int .i64 7] 75)).alloc (.cells #[.int .i64 1, .int .i64 0, .slice (some ⟨w2.heap.size + 1 + 1, 0, none⟩) 1 1] 78) := ⟨_, rfl⟩
  have hb3 : Below w2.heap.size w2 w3 := by rw [hw3]; exact ptg (ptg (ptg (gal _ _) (gal _ _)) (gal _ _)) (gal _ _)
  rw [← hw3] at hg2
  have HSm := hideg (HS.out la2 ea2 (some ⟨w2.heap.size + 1, 0, none⟩) (some ⟨w2.heap.size + 1 + 1 + 1, 0, none⟩) lc2 ec2 2 1 w3 (hG2.below hb3) hg2)
  have HW3 := hideg hw3.symm
  have hbF := ptg hbb hb3
  clear HS HGa HGi hG2 hg2 hw3 hb3 hbb
  go_wp2_with fail
  rw [HW3.out]
  refine HSm.out.mono ?_
  rintro r w4 ⟨rfl, hb4⟩
  have hbE := ptg hbF hb4
  clear HSm HW3 hbF hb4
  go_wp2
  go_ret
  exact ⟨rfl, hbE⟩

end Go.Proofs.Ytanbbkoleekmjag
