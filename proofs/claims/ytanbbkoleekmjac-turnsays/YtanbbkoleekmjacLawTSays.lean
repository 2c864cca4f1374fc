/-
  The law TurnSays, walked.
-/
import Derived.Test.YtanbbkoleekmjacTnB
import Derived.Test.YtanbbkoleekmjacTnC
import Derived.Test.YtanbbkoleekmjacSame
import Derived.Test.YtanbbkoleekmjacJpC
namespace Go.Proofs.Ytanbbkoleekmjac
open Go.RowKit

/-- a box is written over -/
theorem GBx.put {w W : World} {B D : Nat} {g g' : Gr} {la ea la' ea' : Option Addr} {lc ec lc' ec' : Nat} {cs : Array Value} {T : TypeId} (h : GBx w W B g la ea lc ec) (hne : B ≠ D) (hD : w.heap.size ≤ D) (hs : cs.size = 3) (hd : W.heap[D]? = some (.cells cs T (0, 0))) :
    GBx w (((W.setCell ⟨D, 0, none⟩ (.int .i64 g'.hor)).setCell ⟨D, 1, none⟩ (.slice la' g'.lives.length lc')).setCell ⟨D, 2, none⟩ (.slice ea' g'.edges.length ec')) B g la ea lc ec ∧
    GBx w (((W.setCell ⟨D, 0, none⟩ (.int .i64 g'.hor)).setCell ⟨D, 1, none⟩ (.slice la' g'.lives.length lc')).setCell ⟨D, 2, none⟩ (.slice ea' g'.edges.length ec')) D g' la' ea' lc' ec' := by
  have h1 := h.set hne hD (.int .i64 g'.hor) (.slice la' g'.lives.length lc') (.slice ea' g'.edges.length ec')
  refine ⟨h1, ?_⟩
  have hb : (((W.setCell ⟨D, 0, none⟩ (.int .i64 g'.hor)).setCell ⟨D, 1, none⟩ (.slice la' g'.lives.length lc')).setCell ⟨D, 2, none⟩ (.slice ea' g'.edges.length ec')).heap[D]? = some (.cells (((cs.setIfInBounds 0 (.int .i64 g'.hor)).setIfInBounds 1 (.slice la' g'.lives.length lc')).setIfInBounds 2 (.slice ea' g'.edges.length ec')) T (0, 0)) := box_set (box_set (box_set hd 0 _) 1 _) 2 _
  obtain ⟨l⟩ := cs
  match l, hs with
  | [x, y, z], _ => exact ⟨by rw [Lib.cell_of_heap hb]; rfl, by rw [Lib.cell_of_heap hb]; rfl, by rw [Lib.cell_of_heap hb]; rfl, h1.bel, heap_ltg hb⟩
theorem gbx_new (w W : World) (hb : Below w.heap.size w W) (g : Gr) (la ea : Option Addr) (lc ec : Nat) (T : TypeId) : GBx w (W.alloc (.cells #[.int .i64 g.hor, .slice la g.lives.length lc, .slice ea g.edges.length ec] T)) W.heap.size g la ea lc ec :=
  ⟨by simp, by simp, by simp, ptg hb (gal W _), by simp⟩
theorem gz_at (w : World) (la ea : Option Addr) : GAt w la ea ⟨0, [], []⟩ := ⟨.inl rfl, .inl rfl, by simp, by simp⟩

set_option maxRecDepth 100000 in
set_option maxHeartbeats 1000000 in
theorem turnSays_bad (g : Gr) (K : List Bool) (la ea ka : Option Addr) (lc ec kc : Nat) (w : World) (hG : GAt w la ea g) (h0 : ¬ gChk g = 0) :
    Calls Try.prog 7 #[.agg #[.int .i64 g.hor, .slice la g.lives.length lc, .slice ea g.edges.length ec], .slice ka K.length kc] w fun r w' => r = .returned (.bool true) ∧ Below w.heap.size w w' := by
  have B0 := gbx_start w g la ea lc ec 25
  have h1 := RGraph_any g la ea lc ec _ (hG.below B0.bel)
  have HRv := hideg (fun W (hb : Below w.heap.size w W) => (tRev_bad g la ea lc ec W (hG.below hb) h0).mono (R' := fun r w' => ∃ la' ea' lc' ec', r = .returned (.tuple #[.agg #[.int .i64 0, .slice la' 0 lc', .slice ea' 0 ec'], .int .i64 (gChk g)]) ∧ GAt w' la' ea' ⟨0, [], []⟩ ∧ Below W.heap.size W w') (fun r w' h => ⟨none, none, 0, 0, h.1, gz_at _ _ _, h.2⟩))
  have HOn := hideg (fun W (hb : Below w.heap.size w W) => (tOnly_bad g K la ea ka lc ec kc W (hG.below hb) h0).mono (R' := fun r w' => ∃ la' ea' lc' ec', r = .returned (.tuple #[.agg #[.int .i64 0, .slice la' 0 lc', .slice ea' 0 ec'], .int .i64 (gChk g)]) ∧ GAt w' la' ea' ⟨0, [], []⟩ ∧ Below W.heap.size W w') (fun r w' h => ⟨none, none, 0, 0, h.1, gz_at _ _ _, h.2⟩))
  have d1 : (gChk g == 0) = false := by simpa using h0
  generalize gChk g = n at *
  clear hG h0
  go_enter Try.func7, Try.ntmps7
  go_wp2_with fail
  refine h1.mono ?_
  rintro r w1 ⟨rfl, hb1⟩
  have B1 := B0.below hb1
  obtain ⟨wv, hwv⟩ : ∃ x, x = (w1.alloc (.cells #[.int .i64 0, .slice none 0 0, .slice none 0 0] 25)).alloc (.cells #[.int .i64 0, .slice none 0 0, .slice none 0 0] 25) := ⟨_, rfl⟩
  have hbv : Below w1.heap.size w1 wv := by rw [hwv]; exact ptg (gal w1 _) (gal _ _)
  have Bg := B1.below hbv
  have HWV := hideg hwv.symm
  have k7 : wv.heap[w1.heap.size]? = some (.cells #[.int .i64 0, .slice none 0 0, .slice none 0 0] 25 (0, 0)) := by rw [hwv, heap_alloc_old _ _ (by simp)]; exact heap_alloc_new w1 _
  have k8 : wv.heap[w1.heap.size + 1]? = some (.cells #[.int .i64 0, .slice none 0 0, .slice none 0 0] 25 (0, 0)) := by
    rw [hwv]
    have := heap_alloc_new (w1.alloc (.cells #[.int .i64 0, .slice none 0 0, .slice none 0 0] 25)) (.cells #[.int .i64 0, .slice none 0 0, .slice none 0 0] 25)
    simpa using this
  have g0 := Bg.c0
  have g1 := Bg.c1
  have g2 := Bg.c2
  rw [hwv] at g0 g1 g2
  have B7 : GBx w wv (w1.heap.size) ⟨0, [], []⟩ none none 0 0 := ⟨by rw [Lib.cell_of_heap k7]; rfl, by rw [Lib.cell_of_heap k7]; rfl, by rw [Lib.cell_of_heap k7]; rfl, Bg.bel, heap_ltg k7⟩
  have B8 : GBx w wv (w1.heap.size + 1) ⟨0, [], []⟩ none none 0 0 := ⟨by rw [Lib.cell_of_heap k8]; rfl, by rw [Lib.cell_of_heap k8]; rfl, by rw [Lib.cell_of_heap k8]; rfl, Bg.bel, heap_ltg k8⟩
  have H7 := hideg (gz_at wv none none)
  have H8 := hideg (gz_at wv none none)
  clear h1 hb1 B0 B1 hwv hbv k7 k8
  go_wp2_with fail
  rw [HWV.out]
  clear HWV
  refine (HRv.out _ Bg.bel).mono ?_
  rintro r w3 ⟨la3, ea3, lc3, ec3, rfl, hG3, hb3⟩
  have Bg3 := Bg.below hb3
  obtain ⟨w4, hw4⟩ : ∃ x, x = w3.alloc (.cells #[.int .i64 0, .slice la3 0 lc3, .slice ea3 0 ec3] 25) := ⟨_, rfl⟩
  have hb4 : Below w3.heap.size w3 w4 := by rw [hw4]; exact gal w3 _
  have Bg4 := Bg3.below hb4
  have B9 : GBx w w4 w3.heap.size ⟨0, [], []⟩ la3 ea3 lc3 ec3 := by rw [hw4]; exact gbx_new w w3 Bg3.bel ⟨0, [], []⟩ la3 ea3 lc3 ec3 _
  have B7' := (B7.below hb3).below hb4
  have B8' := (B8.below hb3).below hb4
  have H7' := hideg ((H7.out.below hb3).below hb4)
  have H8' := hideg ((H8.out.below hb3).below hb4)
  have H9 := hideg (hG3.below hb4)
  have HW4 := hideg hw4.symm
  clear g0 g1 g2
  have g0 := Bg4.c0
  have g1 := Bg4.c1
  have g2 := Bg4.c2
  rw [hw4] at g0 g1 g2
  clear HRv Bg Bg3 B7 B8 H7 H8 hb3 hG3 hb4 hw4
  go_wp2_with fail
  rw [HW4.out]
  refine (HOn.out _ Bg4.bel).mono ?_
  rintro r w5 ⟨la5, ea5, lc5, ec5, rfl, hG5, hb5⟩
  have Bg5 := Bg4.below hb5
  have B9' := B9.below hb5
  have B7 := B7'.below hb5
  have B8 := B8'.below hb5
  have H7 := hideg (H7'.out.below hb5)
  have H8 := hideg (H8'.out.below hb5)
  have H9' := hideg (H9.out.below hb5)
  obtain ⟨w6, hw6⟩ : ∃ x, x = w5.alloc (.cells #[.int .i64 0, .slice la5 0 lc5, .slice ea5 0 ec5] 25) := ⟨_, rfl⟩
  have hb6 : Below w5.heap.size w5 w6 := by rw [hw6]; exact gal w5 _
  have B11 : GBx w w6 w5.heap.size ⟨0, [], []⟩ la5 ea5 lc5 ec5 := by rw [hw6]; exact gbx_new w w5 Bg5.bel ⟨0, [], []⟩ la5 ea5 lc5 ec5 _
  have B9 := B9'.below hb6
  have B7' := B7.below hb6
  have B8' := B8.below hb6
  have H7' := H7.out.below hb6
  have H9 := H9'.out.below hb6
  have H8' := hideg (H8.out.below hb6)
  have H11 := hideg (hG5.below hb6)
  have HSame := hideg (Same_any ⟨0, [], []⟩ la3 ea3 none none lc3 ec3 0 0 w6 H9 H7')
  have HW6 := hideg hw6.symm
  clear g0 g1 g2 HW4
  have a0 := B9.c0
  have a1 := B9.c1
  have a2 := B9.c2
  have b0 := B7'.c0
  have b1 := B7'.c1
  have b2 := B7'.c2
  rw [hw6] at a0 a1 a2 b0 b1 b2
  clear HOn Bg4 Bg5 B9' B7 B8 H7 H8 H9' hb5 hb6 hG5 hw6
  go_wp2_with fail
  rw [HW6.out]
  refine HSame.out.mono ?_
  rintro r w7 ⟨rfl, hb7⟩
  have B11' := B11.below hb7
  have B8 := B8'.below hb7
  have HSame2 := hideg (Same_any ⟨0, [], []⟩ la5 ea5 none none lc5 ec5 0 0 w7 (H11.out.below hb7) (H8'.out.below hb7))
  clear a0 a1 a2 b0 b1 b2 HW6 HSame
  have a0 := B11'.c0
  have a1 := B11'.c1
  have a2 := B11'.c2
  have b0 := B8.c0
  have b1 := B8.c1
  have b2 := B8.c2
  have hbF := B8.bel
  clear hb7 B11 B9 B7' B8' H7' H9 H11 H8'
  go_wp2_with fail
  refine HSame2.out.mono ?_
  rintro r w8 ⟨rfl, hb8⟩
  have hbE := ptg hbF hb8
  clear a0 a1 a2 b0 b1 b2 HSame2 hbF B11' B8 hb8
  go_wp2
  go_ret
  exact ⟨rfl, hbE⟩

set_option maxRecDepth 100000 in
set_option maxHeartbeats 1000000 in
theorem turnSays_form (g : Gr) (K : List Bool) (la ea ka : Option Addr) (lc ec kc : Nat) (w : World) (hG : GAt w la ea g) (h0 : gChk g = 0) (hl : ¬ K.length = g.lives.length) :
    Calls Try.prog 7 #[.agg #[.int .i64 g.hor, .slice la g.lives.length lc, .slice ea g.edges.length ec], .slice ka K.length kc] w fun r w' => r = .returned (.bool true) ∧ Below w.heap.size w w' := by
  have B0 := gbx_start w g la ea lc ec 25
  have h1 := RGraph_any g la ea lc ec _ (hG.below B0.bel)
  have HRr := hideg (fun W (hb : Below w.heap.size w W) => RRev_any g la ea lc ec W (hG.below hb) (gChk_right h0))
  have HRv := hideg (fun W (hb : Below w.heap.size w W) => tRev_ok g la ea lc ec W (hG.below hb) h0)
  have HOn := hideg (fun W (hb : Below w.heap.size w W) => (tOnly_form g K la ea ka lc ec kc W (hG.below hb) h0 hl).mono (R' := fun r w' => ∃ la' ea' lc' ec', r = .returned (.tuple #[.agg #[.int .i64 0, .slice la' 0 lc', .slice ea' 0 ec'], .int .i64 5]) ∧ GAt w' la' ea' ⟨0, [], []⟩ ∧ Below W.heap.size W w') (fun r w' h => ⟨none, none, 0, 0, h.1, gz_at _ _ _, h.2⟩))
  rw [h0] at h1
  have dl : ((K.length : Int) == (g.lives.length : Int)) = false := by simpa using fun e => hl (by omega)
  generalize (revA g).1 = G1 at *
  generalize (revA g).2 = e1 at *
  clear hG h0 hl
  go_enter Try.func7, Try.ntmps7
  go_wp2_with fail
  refine h1.mono ?_
  rintro r w1 ⟨rfl, hb1⟩
  have B1 := B0.below hb1
  obtain ⟨wv, hwv⟩ : ∃ x, x = (w1.alloc (.cells #[.int .i64 0, .slice none 0 0, .slice none 0 0] 25)).alloc (.cells #[.int .i64 0, .slice none 0 0, .slice none 0 0] 25) := ⟨_, rfl⟩
  have hbv : Below w1.heap.size w1 wv := by rw [hwv]; exact ptg (gal w1 _) (gal _ _)
  have Bg := B1.below hbv
  have HWV := hideg hwv.symm
  have k7 : wv.heap[w1.heap.size]? = some (.cells #[.int .i64 0, .slice none 0 0, .slice none 0 0] 25 (0, 0)) := by rw [hwv, heap_alloc_old _ _ (by simp)]; exact heap_alloc_new w1 _
  have k8 : wv.heap[w1.heap.size + 1]? = some (.cells #[.int .i64 0, .slice none 0 0, .slice none 0 0] 25 (0, 0)) := by
    rw [hwv]
    have := heap_alloc_new (w1.alloc (.cells #[.int .i64 0, .slice none 0 0, .slice none 0 0] 25)) (.cells #[.int .i64 0, .slice none 0 0, .slice none 0 0] 25)
    simpa using this
  have g0 := Bg.c0
  have g1 := Bg.c1
  have g2 := Bg.c2
  rw [hwv] at g0 g1 g2
  go_wp2_with fail
  rw [HWV.out]
  refine (HRr.out _ Bg.bel).mono ?_
  rintro r w2 ⟨la7, ea7, lc7, ec7, rfl, hN7, hb2⟩
  have hs2 := hb2.size
  have j7 := (hb2.block _ (heap_ltg k7)).trans k7
  have j8 := (hb2.block _ (heap_ltg k8)).trans k8
  have Bg2 := Bg.below hb2
  have hwl := B1.bel.size
  have hwl2 := B1.lt
  have hsv : w1.heap.size + 1 < wv.heap.size := heap_ltg k8
  obtain ⟨Bg3, B7⟩ := Bg2.put (g' := G1) (la' := la7) (ea' := ea7) (lc' := lc7) (ec' := ec7) (D := w1.heap.size) (by omega) (by omega) rfl j7
  have hN7' := ((hN7.set (D := w1.heap.size) (by omega) 0 (.int .i64 G1.hor)).set (D := w1.heap.size) (by omega) 1 (.slice la7 G1.lives.length lc7)).set (D := w1.heap.size) (by omega) 2 (.slice ea7 G1.edges.length ec7)
  have j8' : (((w2.setCell ⟨w1.heap.size, 0, none⟩ (.int .i64 G1.hor)).setCell ⟨w1.heap.size, 1, none⟩ (.slice la7 G1.lives.length lc7)).setCell ⟨w1.heap.size, 2, none⟩ (.slice ea7 G1.edges.length ec7)).heap[w1.heap.size + 1]? = some (.cells #[.int .i64 0, .slice none 0 0, .slice none 0 0] 25 (0, 0)) := by
    rw [Below.heap_setCell _ _ _ _ (by show w1.heap.size + 1 ≠ w1.heap.size; omega), Below.heap_setCell _ _ _ _ (by show w1.heap.size + 1 ≠ w1.heap.size; omega), Below.heap_setCell _ _ _ _ (by show w1.heap.size + 1 ≠ w1.heap.size; omega)]
    exact j8
  have c0 : w2.cell? ⟨w1.heap.size, 0, none⟩ = some (.int .i64 0) := by rw [Lib.cell_of_heap j7]; rfl
  have c1 : w2.cell? ⟨w1.heap.size, 1, none⟩ = some (.slice none 0 0) := by rw [Lib.cell_of_heap j7]; rfl
  have c2 : w2.cell? ⟨w1.heap.size, 2, none⟩ = some (.slice none 0 0) := by rw [Lib.cell_of_heap j7]; rfl
  have f0 : w2.frozen? ⟨w1.heap.size, 0, none⟩ = false := Lib.frozen_of_heap j7 0
  have f1 : w2.frozen? ⟨w1.heap.size, 1, none⟩ = false := Lib.frozen_of_heap j7 1
  have f2 : w2.frozen? ⟨w1.heap.size, 2, none⟩ = false := Lib.frozen_of_heap j7 2
  clear g0 g1 g2
  have g0 := Bg3.c0
  have g1 := Bg3.c1
  have g2 := Bg3.c2
  obtain ⟨ws, hws⟩ : ∃ x, x = ((w2.setCell ⟨w1.heap.size, 0, none⟩ (.int .i64 G1.hor)).setCell ⟨w1.heap.size, 1, none⟩ (.slice la7 G1.lives.length lc7)).setCell ⟨w1.heap.size, 2, none⟩ (.slice ea7 G1.edges.length ec7) := ⟨_, rfl⟩
  have hss : ws.heap.size = w2.heap.size := by rw [hws]; simp [World.setCell]
  have HSS := hideg hss
  have HWS := hideg hws.symm
  rw [← hws] at Bg3 B7 hN7' j8'
  have HJ8 := hideg j8'
  have HN7 := hideg hN7'
  clear HRr h1 hb1 B0 Bg hwv hbv k7 k8 hN7 hb2 Bg2 j7 j8 hss hws hN7' j8' HWV
  go_wp2_with fail
  rw [HWS.out]
  have Bg := Bg3
  have B8 : GBx w ws (w1.heap.size + 1) ⟨0, [], []⟩ none none 0 0 := ⟨by rw [Lib.cell_of_heap HJ8.out]; rfl, by rw [Lib.cell_of_heap HJ8.out]; rfl, by rw [Lib.cell_of_heap HJ8.out]; rfl, Bg.bel, heap_ltg HJ8.out⟩
  have H7 := hideg HN7.out.gat
  have H8 := hideg (gz_at ws none none)
  clear c0 c1 c2 f0 f1 f2 HWS HSS HJ8 HN7 Bg3 B1
  refine (HRv.out _ Bg.bel).mono ?_
  rintro r w3 ⟨la3, ea3, lc3, ec3, rfl, hG3, hb3⟩
  have Bg3 := Bg.below hb3
  obtain ⟨w4, hw4⟩ : ∃ x, x = w3.alloc (.cells #[.int .i64 G1.hor, .slice la3 G1.lives.length lc3, .slice ea3 G1.edges.length ec3] 25) := ⟨_, rfl⟩
  have hb4 : Below w3.heap.size w3 w4 := by rw [hw4]; exact gal w3 _
  have Bg4 := Bg3.below hb4
  have B9 : GBx w w4 w3.heap.size G1 la3 ea3 lc3 ec3 := by rw [hw4]; exact gbx_new w w3 Bg3.bel G1 la3 ea3 lc3 ec3 _
  have B7' := (B7.below hb3).below hb4
  have B8' := (B8.below hb3).below hb4
  have H7' := hideg ((H7.out.below hb3).below hb4)
  have H8' := hideg ((H8.out.below hb3).below hb4)
  have H9 := hideg (hG3.below hb4)
  have HW4 := hideg hw4.symm
  clear g0 g1 g2
  have g0 := Bg4.c0
  have g1 := Bg4.c1
  have g2 := Bg4.c2
  rw [hw4] at g0 g1 g2
  clear HRv Bg Bg3 B7 B8 H7 H8 hb3 hG3 hb4 hw4
  go_wp2_with fail
  rw [HW4.out]
  refine (HOn.out _ Bg4.bel).mono ?_
  rintro r w5 ⟨la5, ea5, lc5, ec5, rfl, hG5, hb5⟩
  have Bg5 := Bg4.below hb5
  have B9' := B9.below hb5
  have B7 := B7'.below hb5
  have B8 := B8'.below hb5
  have H7 := hideg (H7'.out.below hb5)
  have H8 := hideg (H8'.out.below hb5)
  have H9' := hideg (H9.out.below hb5)
  obtain ⟨w6, hw6⟩ : ∃ x, x = w5.alloc (.cells #[.int .i64 0, .slice la5 0 lc5, .slice ea5 0 ec5] 25) := ⟨_, rfl⟩
  have hb6 : Below w5.heap.size w5 w6 := by rw [hw6]; exact gal w5 _
  have B11 : GBx w w6 w5.heap.size ⟨0, [], []⟩ la5 ea5 lc5 ec5 := by rw [hw6]; exact gbx_new w w5 Bg5.bel ⟨0, [], []⟩ la5 ea5 lc5 ec5 _
  have B9 := B9'.below hb6
  have B7' := B7.below hb6
  have B8' := B8.below hb6
  have H7' := H7.out.below hb6
  have H9 := H9'.out.below hb6
  have H8' := hideg (H8.out.below hb6)
  have H11 := hideg (hG5.below hb6)
  have HSame := hideg (Same_any G1 la3 ea3 la7 ea7 lc3 ec3 lc7 ec7 w6 H9 H7')
  have HW6 := hideg hw6.symm
  clear g0 g1 g2 HW4
  have a0 := B9.c0
  have a1 := B9.c1
  have a2 := B9.c2
  have b0 := B7'.c0
  have b1 := B7'.c1
  have b2 := B7'.c2
  rw [hw6] at a0 a1 a2 b0 b1 b2
  clear HOn Bg4 Bg5 B9' B7 B8 H7 H8 H9' hb5 hb6 hG5 hw6
  go_wp2_with fail
  rw [HW6.out]
  refine HSame.out.mono ?_
  rintro r w7 ⟨rfl, hb7⟩
  have B11' := B11.below hb7
  have B8 := B8'.below hb7
  have HSame2 := hideg (Same_any ⟨0, [], []⟩ la5 ea5 none none lc5 ec5 0 0 w7 (H11.out.below hb7) (H8'.out.below hb7))
  clear a0 a1 a2 b0 b1 b2 HW6 HSame
  have a0 := B11'.c0
  have a1 := B11'.c1
  have a2 := B11'.c2
  have b0 := B8.c0
  have b1 := B8.c1
  have b2 := B8.c2
  have hbF := B8.bel
  clear hb7 B11 B9 B7' B8' H7' H9 H11 H8'
  go_wp2_with fail
  refine HSame2.out.mono ?_
  rintro r w8 ⟨rfl, hb8⟩
  have hbE := ptg hbF hb8
  clear a0 a1 a2 b0 b1 b2 HSame2 hbF B11' B8 hb8
  go_wp2
  go_ret
  exact ⟨rfl, hbE⟩

set_option maxRecDepth 100000 in
set_option maxHeartbeats 1000000 in
theorem turnSays_ok (g : Gr) (K : List Bool) (la ea ka : Option Addr) (lc ec kc : Nat) (w : World) (hG : GAt w la ea g) (hK : BsAt w ka K) (h0 : gChk g = 0) (hl : K.length = g.lives.length) :
    Calls Try.prog 7 #[.agg #[.int .i64 g.hor, .slice la g.lives.length lc, .slice ea g.edges.length ec], .slice ka K.length kc] w fun r w' => r = .returned (.bool true) ∧ Below w.heap.size w w' := by
  have B0 := gbx_start w g la ea lc ec 25
  have h1 := RGraph_any g la ea lc ec _ (hG.below B0.bel)
  have HRr := hideg (fun W (hb : Below w.heap.size w W) => RRev_any g la ea lc ec W (hG.below hb) (gChk_right h0))
  have HRv := hideg (fun W (hb : Below w.heap.size w W) => tRev_ok g la ea lc ec W (hG.below hb) h0)
  have HRp := hideg (fun W (hb : Below w.heap.size w W) => RPart_any g K la ea ka lc ec kc W (hG.below hb) (gChk_right h0) (hK.below hb) hl)
  have HOn := hideg (fun W (hb : Below w.heap.size w W) => tOnly_ok g K la ea ka lc ec kc W (hG.below hb) h0 (hK.below hb) hl)
  rw [h0] at h1
  have dl : ((K.length : Int) == (g.lives.length : Int)) = true := by simp [hl]
  generalize (revA g).1 = G1 at *
  generalize (revA g).2 = e1 at *
  generalize partG K g = G2 at *
  clear hG h0 hl hK
  go_enter Try.func7, Try.ntmps7
  go_wp2_with fail
  refine h1.mono ?_
  rintro r w1 ⟨rfl, hb1⟩
  have B1 := B0.below hb1
  obtain ⟨wv, hwv⟩ : ∃ x, x = (w1.alloc (.cells #[.int .i64 0, .slice none 0 0, .slice none 0 0] 25)).alloc (.cells #[.int .i64 0, .slice none 0 0, .slice none 0 0] 25) := ⟨_, rfl⟩
  have hbv : Below w1.heap.size w1 wv := by rw [hwv]; exact ptg (gal w1 _) (gal _ _)
  have Bg := B1.below hbv
  have HWV := hideg hwv.symm
  have k7 : wv.heap[w1.heap.size]? = some (.cells #[.int .i64 0, .slice none 0 0, .slice none 0 0] 25 (0, 0)) := by rw [hwv, heap_alloc_old _ _ (by simp)]; exact heap_alloc_new w1 _
  have k8 : wv.heap[w1.heap.size + 1]? = some (.cells #[.int .i64 0, .slice none 0 0, .slice none 0 0] 25 (0, 0)) := by
    rw [hwv]
    have := heap_alloc_new (w1.alloc (.cells #[.int .i64 0, .slice none 0 0, .slice none 0 0] 25)) (.cells #[.int .i64 0, .slice none 0 0, .slice none 0 0] 25)
    simpa using this
  have g0 := Bg.c0
  have g1 := Bg.c1
  have g2 := Bg.c2
  rw [hwv] at g0 g1 g2
  go_wp2_with fail
  rw [HWV.out]
  refine (HRr.out _ Bg.bel).mono ?_
  rintro r w2 ⟨la7, ea7, lc7, ec7, rfl, hN7, hb2⟩
  have hs2 := hb2.size
  have j7 := (hb2.block _ (heap_ltg k7)).trans k7
  have j8 := (hb2.block _ (heap_ltg k8)).trans k8
  have Bg2 := Bg.below hb2
  have hwl := B1.bel.size
  have hwl2 := B1.lt
  have hsv : w1.heap.size + 1 < wv.heap.size := heap_ltg k8
  obtain ⟨Bg3, B7⟩ := Bg2.put (g' := G1) (la' := la7) (ea' := ea7) (lc' := lc7) (ec' := ec7) (D := w1.heap.size) (by omega) (by omega) rfl j7
  have hN7' := ((hN7.set (D := w1.heap.size) (by omega) 0 (.int .i64 G1.hor)).set (D := w1.heap.size) (by omega) 1 (.slice la7 G1.lives.length lc7)).set (D := w1.heap.size) (by omega) 2 (.slice ea7 G1.edges.length ec7)
  have j8' : (((w2.setCell ⟨w1.heap.size, 0, none⟩ (.int .i64 G1.hor)).setCell ⟨w1.heap.size, 1, none⟩ (.slice la7 G1.lives.length lc7)).setCell ⟨w1.heap.size, 2, none⟩ (.slice ea7 G1.edges.length ec7)).heap[w1.heap.size + 1]? = some (.cells #[.int .i64 0, .slice none 0 0, .slice none 0 0] 25 (0, 0)) := by
    rw [Below.heap_setCell _ _ _ _ (by show w1.heap.size + 1 ≠ w1.heap.size; omega), Below.heap_setCell _ _ _ _ (by show w1.heap.size + 1 ≠ w1.heap.size; omega), Below.heap_setCell _ _ _ _ (by show w1.heap.size + 1 ≠ w1.heap.size; omega)]
    exact j8
  have c0 : w2.cell? ⟨w1.heap.size, 0, none⟩ = some (.int .i64 0) := by rw [Lib.cell_of_heap j7]; rfl
  have c1 : w2.cell? ⟨w1.heap.size, 1, none⟩ = some (.slice none 0 0) := by rw [Lib.cell_of_heap j7]; rfl
  have c2 : w2.cell? ⟨w1.heap.size, 2, none⟩ = some (.slice none 0 0) := by rw [Lib.cell_of_heap j7]; rfl
  have f0 : w2.frozen? ⟨w1.heap.size, 0, none⟩ = false := Lib.frozen_of_heap j7 0
  have f1 : w2.frozen? ⟨w1.heap.size, 1, none⟩ = false := Lib.frozen_of_heap j7 1
  have f2 : w2.frozen? ⟨w1.heap.size, 2, none⟩ = false := Lib.frozen_of_heap j7 2
  clear g0 g1 g2
  have g0 := Bg3.c0
  have g1 := Bg3.c1
  have g2 := Bg3.c2
  obtain ⟨ws, hws⟩ : ∃ x, x = ((w2.setCell ⟨w1.heap.size, 0, none⟩ (.int .i64 G1.hor)).setCell ⟨w1.heap.size, 1, none⟩ (.slice la7 G1.lives.length lc7)).setCell ⟨w1.heap.size, 2, none⟩ (.slice ea7 G1.edges.length ec7) := ⟨_, rfl⟩
  have hss : ws.heap.size = w2.heap.size := by rw [hws]; simp [World.setCell]
  have HSS := hideg hss
  have HWS := hideg hws.symm
  rw [← hws] at Bg3 B7 hN7' j8'
  have HJ8 := hideg j8'
  have HN7 := hideg hN7'
  clear HRr h1 hb1 B0 Bg hwv hbv k7 k8 hN7 hb2 Bg2 j7 j8 hss hws hN7' j8' HWV
  go_wp2_with fail
  rw [HWS.out]
  refine (HRp.out _ Bg3.bel).mono ?_
  rintro r w9 ⟨la8, ea8, lc8, ec8, rfl, hN8, hb9⟩
  have hs9 := hb9.size
  have hss := HSS.out
  have j8 := (hb9.block _ (heap_ltg HJ8.out)).trans HJ8.out
  have Bg4 := Bg3.below hb9
  have B7a := B7.below hb9
  have hN7a := HN7.out.below hb9
  obtain ⟨Bg, B8⟩ := Bg4.put (g' := G2) (la' := la8) (ea' := ea8) (lc' := lc8) (ec' := ec8) (D := w1.heap.size + 1) (by omega) (by omega) rfl j8
  obtain ⟨B7b, _⟩ := B7a.put (g' := G2) (la' := la8) (ea' := ea8) (lc' := lc8) (ec' := ec8) (D := w1.heap.size + 1) (by omega) (by omega) rfl j8
  have hN7b := ((hN7a.set (D := w1.heap.size + 1) (by omega) 0 (.int .i64 G2.hor)).set (D := w1.heap.size + 1) (by omega) 1 (.slice la8 G2.lives.length lc8)).set (D := w1.heap.size + 1) (by omega) 2 (.slice ea8 G2.edges.length ec8)
  have hN8b := ((hN8.set (D := w1.heap.size + 1) (by omega) 0 (.int .i64 G2.hor)).set (D := w1.heap.size + 1) (by omega) 1 (.slice la8 G2.lives.length lc8)).set (D := w1.heap.size + 1) (by omega) 2 (.slice ea8 G2.edges.length ec8)
  clear g0 g1 g2 c0 c1 c2 f0 f1 f2 HWS
  have c0 : w9.cell? ⟨w1.heap.size + 1, 0, none⟩ = some (.int .i64 0) := by rw [Lib.cell_of_heap j8]; rfl
  have c1 : w9.cell? ⟨w1.heap.size + 1, 1, none⟩ = some (.slice none 0 0) := by rw [Lib.cell_of_heap j8]; rfl
  have c2 : w9.cell? ⟨w1.heap.size + 1, 2, none⟩ = some (.slice none 0 0) := by rw [Lib.cell_of_heap j8]; rfl
  have f0 : w9.frozen? ⟨w1.heap.size + 1, 0, none⟩ = false := Lib.frozen_of_heap j8 0
  have f1 : w9.frozen? ⟨w1.heap.size + 1, 1, none⟩ = false := Lib.frozen_of_heap j8 1
  have f2 : w9.frozen? ⟨w1.heap.size + 1, 2, none⟩ = false := Lib.frozen_of_heap j8 2
  have g0 := Bg.c0
  have g1 := Bg.c1
  have g2 := Bg.c2
  obtain ⟨wt, hwt⟩ : ∃ x, x = ((w9.setCell ⟨w1.heap.size + 1, 0, none⟩ (.int .i64 G2.hor)).setCell ⟨w1.heap.size + 1, 1, none⟩ (.slice la8 G2.lives.length lc8)).setCell ⟨w1.heap.size + 1, 2, none⟩ (.slice ea8 G2.edges.length ec8) := ⟨_, rfl⟩
  have HWT := hideg hwt.symm
  rw [← hwt] at Bg B8 B7b hN7b hN8b
  have H7 := hideg hN7b.gat
  have H8 := hideg hN8b.gat
  have B7 := B7b
  clear HRp HSS HJ8 HN7 hN8 hb9 j8 Bg3 Bg4 B7a hN7a hN7b hN8b hwt B7b hss B1
  go_wp2_with fail
  rw [HWT.out]
  clear c0 c1 c2 f0 f1 f2 HWT
  refine (HRv.out _ Bg.bel).mono ?_
  rintro r w3 ⟨la3, ea3, lc3, ec3, rfl, hG3, hb3⟩
  have Bg3 := Bg.below hb3
  obtain ⟨w4, hw4⟩ : ∃ x, x = w3.alloc (.cells #[.int .i64 G1.hor, .slice la3 G1.lives.length lc3, .slice ea3 G1.edges.length ec3] 25) := ⟨_, rfl⟩
  have hb4 : Below w3.heap.size w3 w4 := by rw [hw4]; exact gal w3 _
  have Bg4 := Bg3.below hb4
  have B9 : GBx w w4 w3.heap.size G1 la3 ea3 lc3 ec3 := by rw [hw4]; exact gbx_new w w3 Bg3.bel G1 la3 ea3 lc3 ec3 _
  have B7' := (B7.below hb3).below hb4
  have B8' := (B8.below hb3).below hb4
  have H7' := hideg ((H7.out.below hb3).below hb4)
  have H8' := hideg ((H8.out.below hb3).below hb4)
  have H9 := hideg (hG3.below hb4)
  have HW4 := hideg hw4.symm
  clear g0 g1 g2
  have g0 := Bg4.c0
  have g1 := Bg4.c1
  have g2 := Bg4.c2
  rw [hw4] at g0 g1 g2
  clear HRv Bg Bg3 B7 B8 H7 H8 hb3 hG3 hb4 hw4
  go_wp2_with fail
  rw [HW4.out]
  refine (HOn.out _ Bg4.bel).mono ?_
  rintro r w5 ⟨la5, ea5, lc5, ec5, rfl, hG5, hb5⟩
  have Bg5 := Bg4.below hb5
  have B9' := B9.below hb5
  have B7 := B7'.below hb5
  have B8 := B8'.below hb5
  have H7 := hideg (H7'.out.below hb5)
  have H8 := hideg (H8'.out.below hb5)
  have H9' := hideg (H9.out.below hb5)
  obtain ⟨w6, hw6⟩ : ∃ x, x = w5.alloc (.cells #[.int .i64 G2.hor, .slice la5 G2.lives.length lc5, .slice ea5 G2.edges.length ec5] 25) := ⟨_, rfl⟩
  have hb6 : Below w5.heap.size w5 w6 := by rw [hw6]; exact gal w5 _
  have B11 : GBx w w6 w5.heap.size G2 la5 ea5 lc5 ec5 := by rw [hw6]; exact gbx_new w w5 Bg5.bel G2 la5 ea5 lc5 ec5 _
  have B9 := B9'.below hb6
  have B7' := B7.below hb6
  have B8' := B8.below hb6
  have H7' := H7.out.below hb6
  have H9 := H9'.out.below hb6
  have H8' := hideg (H8.out.below hb6)
  have H11 := hideg (hG5.below hb6)
  have HSame := hideg (Same_any G1 la3 ea3 la7 ea7 lc3 ec3 lc7 ec7 w6 H9 H7')
  have HW6 := hideg hw6.symm
  clear g0 g1 g2 HW4
  have a0 := B9.c0
  have a1 := B9.c1
  have a2 := B9.c2
  have b0 := B7'.c0
  have b1 := B7'.c1
  have b2 := B7'.c2
  rw [hw6] at a0 a1 a2 b0 b1 b2
  clear HOn Bg4 Bg5 B9' B7 B8 H7 H8 H9' hb5 hb6 hG5 hw6
  go_wp2_with fail
  rw [HW6.out]
  refine HSame.out.mono ?_
  rintro r w7 ⟨rfl, hb7⟩
  have B11' := B11.below hb7
  have B8 := B8'.below hb7
  have HSame2 := hideg (Same_any G2 la5 ea5 la8 ea8 lc5 ec5 lc8 ec8 w7 (H11.out.below hb7) (H8'.out.below hb7))
  clear a0 a1 a2 b0 b1 b2 HW6 HSame
  have a0 := B11'.c0
  have a1 := B11'.c1
  have a2 := B11'.c2
  have b0 := B8.c0
  have b1 := B8.c1
  have b2 := B8.c2
  have hbF := B8.bel
  clear hb7 B11 B9 B7' B8' H7' H9 H11 H8'
  go_wp2_with fail
  refine HSame2.out.mono ?_
  rintro r w8 ⟨rfl, hb8⟩
  have hbE := ptg hbF hb8
  clear a0 a1 a2 b0 b1 b2 HSame2 hbF B11' B8 hb8
  go_wp2
  go_ret
  exact ⟨rfl, hbE⟩

theorem turnSays_walk (g : Gr) (K : List Bool) (la ea ka : Option Addr) (lc ec kc : Nat) (w : World) (hG : GAt w la ea g) (hK : BsAt w ka K) :
    Calls Try.prog 7 #[.agg #[.int .i64 g.hor, .slice la g.lives.length lc, .slice ea g.edges.length ec], .slice ka K.length kc] w fun r w' => r = .returned (.bool true) ∧ Below w.heap.size w w' := by
  by_cases h0 : gChk g = 0
  · by_cases hl : K.length = g.lives.length
    · exact turnSays_ok g K la ea ka lc ec kc w hG hK h0 hl
    · exact turnSays_form g K la ea ka lc ec kc w hG h0 hl
  · exact turnSays_bad g K la ea ka lc ec kc w hG h0

end Go.Proofs.Ytanbbkoleekmjac
