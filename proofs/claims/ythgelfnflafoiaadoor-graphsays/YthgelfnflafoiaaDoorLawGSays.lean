/-
  The walk of the law GraphSays: it returns true, and nothing that was there is changed.
-/
import Derived.Test.YthgelfnflafoiaaDoorRText
import Derived.Test.YthgelfnflafoiaaDoorRSn
import Derived.Test.YthgelfnflafoiaaDoorRGraph
import Derived.Test.YthgelfnflafoiaaDoorEqG
namespace Go.Proofs.YthgelfnflafoiaaDoor
open Go.RowKit

theorem EqualBool_same (ao bo : Option Addr) (ca cb : Nat) (a : List Bool) (w : World) (hA : BsAt w ao a) (hB : BsAt w bo a) (hl : a.length ≤ 9223372036854775807) :
    Calls Tryd.prog 12 #[.slice ao a.length ca, .slice bo a.length cb] w fun e w' => e = .returned (.bool true) ∧ Below w.heap.size w w' :=
  (EqualBool_any ao bo ca cb a a w hA hB hl).mono fun _ _ ⟨h1, h2⟩ => ⟨by rw [h1]; simp, h2⟩
theorem EqualArc_same (ao bo : Option Addr) (ca cb : Nat) (a : List (Int × Int × Int)) (w : World) (hA : PcAt w ao a) (hB : PcAt w bo a) (hl : a.length ≤ 9223372036854775807) :
    Calls Tryd.prog 13 #[.slice ao a.length ca, .slice bo a.length cb] w fun e w' => e = .returned (.bool true) ∧ Below w.heap.size w w' :=
  (EqualArc_any ao bo ca cb a a w hA hB hl).mono fun _ _ ⟨h1, h2⟩ => ⟨by rw [h1]; simp, h2⟩

/-- two structs of two cells in two new blocks, a call later -/
theorem boxes2 {w4 w6 : World} {x0 x1 y0 y1 : Value} {T T' : TypeId} (hb : Below ((w4.alloc (.cells #[x0, x1] T)).alloc (.cells #[y0, y1] T')).heap.size ((w4.alloc (.cells #[x0, x1] T)).alloc (.cells #[y0, y1] T')) w6) :
    (w6.cell? ⟨w4.heap.size, 0, none⟩ = some x0 ∧ w6.cell? ⟨w4.heap.size, 1, none⟩ = some x1) ∧ (w6.cell? ⟨w4.heap.size + 1, 0, none⟩ = some y0 ∧ w6.cell? ⟨w4.heap.size + 1, 1, none⟩ = some y1) ∧ w4.heap.size + 1 < w6.heap.size := by
  have hs := hb.size
  simp only [World.size_alloc] at hs
  refine ⟨⟨?_, ?_⟩, ⟨?_, ?_⟩, by omega⟩
  · rw [hb.cell (p := ⟨w4.heap.size, 0, none⟩) (by simp; omega)]; simp
  · rw [hb.cell (p := ⟨w4.heap.size, 1, none⟩) (by simp; omega)]; simp
  · rw [hb.cell (p := ⟨w4.heap.size + 1, 0, none⟩) (by simp)]; simp
  · rw [hb.cell (p := ⟨w4.heap.size + 1, 1, none⟩) (by simp)]; simp

set_option maxRecDepth 100000 in
set_option maxHeartbeats 16000000 in
theorem graphSays_walk (g : Gr) (la ea : Option Addr) (lc ec : Nat) (t : Int) (w : World) (hG : GAt w la ea g) (hlc : g.lives.length ≤ lc) (hlm : lc ≤ 9223372036854775807) (hT : Tab w) :
    Calls Tryd.prog 3 #[.agg #[.int .i64 g.hor, .slice la g.lives.length lc, .slice ea g.edges.length ec], .int .i64 t] w fun e w' => e = .returned (.bool true) ∧ Below w.heap.size w w' := by
  obtain ⟨w0, hw0⟩ : ∃ w0, w0 = w.alloc (.cells #[.int .i64 g.hor, .slice la g.lives.length lc, .slice ea g.edges.length ec] 25) := ⟨_, rfl⟩
  have hG0 : GAt w0 la ea g := by rw [hw0]; exact hG.below (gal _ _)
  have hT0 : TbI w0.heap.size w0 := by rw [hw0]; exact (hT.low.below (gal _ _)).mono (by simp)
  have HD : Hid (∀ W, Below w0.heap.size w0 W → (W.cell? ⟨w.heap.size, 0, none⟩ = some (.int .i64 g.hor) ∧ W.cell? ⟨w.heap.size, 1, none⟩ = some (.slice la g.lives.length lc) ∧ W.cell? ⟨w.heap.size, 2, none⟩ = some (.slice ea g.edges.length ec)) ∧ Below w.heap.size w W ∧ w.heap.size < W.heap.size) := by
    intro W h
    have hs := h.size
    rw [hw0] at h hs
    simp only [World.size_alloc] at hs
    refine ⟨⟨(h.cell (p := ⟨w.heap.size, 0, none⟩) (by simp)).trans (by simp), (h.cell (p := ⟨w.heap.size, 1, none⟩) (by simp)).trans (by simp), (h.cell (p := ⟨w.heap.size, 2, none⟩) (by simp)).trans (by simp)⟩, ptg (gal _ _) h, by omega⟩
  have H1 := hideg (fun W (h : Below w0.heap.size w0 W) => RGraph_any g la ea lc ec W (hG0.below h))
  have H2 := hideg (fun W (h : Below w0.heap.size w0 W) (S : Small g) => GraphText_any g la ea lc ec W (hG0.below h) S (hT0.below h).tab)
  have H3 := hideg (fun W (h : Below w0.heap.size w0 W) => Print_any g la ea lc ec W (hG0.below h) (hT0.below h).tab)
  have H4 := hideg (fun W (h : Below w0.heap.size w0 W) => At_any g la ea lc ec t W (hG0.below h) hlc hlm)
  have H5 := hideg (fun W (h : Below w0.heap.size w0 W) (R : Right g) => RSnap_any g la ea lc ec t W (hG0.below h) R)
  have H6 := hideg (fun W (h : Below w0.heap.size w0 W) => gCheck_any g la ea lc ec W (hG0.below h))
  clear hG0 hT0 hG hT
  by_cases h0 : gChk g = 0
  · have R := gChk_right h0
    have hh := R.hor
    have HO : gOut g = gText g := if_pos h0
    rw [HO, h0] at H3
    rw [h0] at H1 H6
    have HSm := hideg R.small
    have HR := hideg R
    have hll : (aliveL t g.lives).length ≤ 12 := by rw [aliveL_length]; exact R.lvs
    have har := arcs_len t g.lives g.edges
    have hl12 := R.lvs
    have he30 := R.eds
    clear HO R
    cases h1 : inR t 0 (g.hor - 1)
    · have he : atErr g t = 1 := by unfold atErr; rw [if_pos h0, h1]; rfl
      rw [he, if_neg (by decide), if_neg (by decide)] at H4
      clear h0 he
      generalize gText g = T at *
      go_enter Tryd.func3, Tryd.ntmps3
      go_wp2_with fail
      rw [← hw0]
      refine (H1.out _ (Below.refl _ _)).mono ?_
      rintro e w1 ⟨rfl, g1⟩
      obtain ⟨⟨d0, d1, d2⟩, _, _⟩ := HD.out w1 g1
      go_wp2_with fail
      refine (H2.out _ g1 HSm.out).mono ?_
      rintro e w2 ⟨rfl, hb⟩
      have g2 := ptg g1 hb
      clear g1 hb d0 d1 d2
      obtain ⟨⟨d0, d1, d2⟩, _, _⟩ := HD.out w2 g2
      go_wp2_with fail
      refine (H3.out _ g2).mono ?_
      rintro e w3 ⟨rfl, hb⟩
      have g3 := ptg g2 hb
      clear g2 hb d0 d1 d2
      obtain ⟨⟨d0, d1, d2⟩, _, _⟩ := HD.out w3 g3
      go_wp2_with fail
      refine (H4.out _ g3).mono ?_
      rintro e w4 ⟨ao, ca, bo, cb, rfl, z1, z2, hb⟩
      have g4 := ptg g3 hb
      clear g3 hb d0 d1 d2
      obtain ⟨⟨d0, d1, d2⟩, _, y0⟩ := HD.out w4 g4
      go_wp2_with (go_at_call 9; refine (In_any _ _ _ _).mono ?_; rintro e w4 ⟨rfl, rfl⟩)
      refine (H6.out _ (ptg g4 (ptg (gal _ _) (gal _ _)))).mono ?_
      rintro e w6 ⟨rfl, hb⟩
      obtain ⟨⟨m0, m1⟩, ⟨n0, n1⟩, ys⟩ := boxes2 hb
      have hb46 : Below w4.heap.size w4 w6 := ptg (ptg (gal _ _) (gal _ _)) hb
      have g6 := ptg g4 hb46
      have z1 := z1.below hb46
      have z2 := z2.below hb46
      clear hb hb46 g4 d0 d1 d2
      go_wp2_with fail
      refine (EqualBool_same ao none ca 0 [] w6 z1 (.inl rfl) (by simp)).mono ?_
      rintro e w7 ⟨rfl, hb7⟩
      have m1' := (hb7.cell (p := ⟨w4.heap.size, 1, none⟩) (by simp only; omega)).trans m1
      have n1' := (hb7.cell (p := ⟨w4.heap.size + 1, 1, none⟩) (by simp only; omega)).trans n1
      go_wp2_with fail
      refine (EqualArc_same bo none cb 0 [] w7 (z2.below hb7) (.inl rfl) (by simp)).mono ?_
      rintro e w8 ⟨rfl, hb8⟩
      have hbF := (HD.out w8 (ptg g6 (ptg hb7 hb8))).2.1
      go_wp2
      go_ret
      exact ⟨rfl, hbF⟩
    · have he : atErr g t = 0 := by unfold atErr; rw [if_pos h0, h1]; rfl
      rw [he, if_pos rfl, if_pos rfl] at H4
      clear h0 he
      generalize gText g = T at *
      generalize aliveL t g.lives = al at *
      generalize arcsL t g.lives g.edges = ar at *
      go_enter Tryd.func3, Tryd.ntmps3
      go_wp2_with fail
      rw [← hw0]
      refine (H1.out _ (Below.refl _ _)).mono ?_
      rintro e w1 ⟨rfl, g1⟩
      obtain ⟨⟨d0, d1, d2⟩, _, _⟩ := HD.out w1 g1
      go_wp2_with fail
      refine (H2.out _ g1 HSm.out).mono ?_
      rintro e w2 ⟨rfl, hb⟩
      have g2 := ptg g1 hb
      clear g1 hb d0 d1 d2
      obtain ⟨⟨d0, d1, d2⟩, _, _⟩ := HD.out w2 g2
      go_wp2_with fail
      refine (H3.out _ g2).mono ?_
      rintro e w3 ⟨rfl, hb⟩
      have g3 := ptg g2 hb
      clear g2 hb d0 d1 d2
      obtain ⟨⟨d0, d1, d2⟩, _, _⟩ := HD.out w3 g3
      go_wp2_with fail
      refine (H4.out _ g3).mono ?_
      rintro e w4 ⟨ao, ca, bo, cb, rfl, z1, z2, hb⟩
      have g4 := ptg g3 hb
      clear g3 hb d0 d1 d2
      obtain ⟨⟨d0, d1, d2⟩, _, y0⟩ := HD.out w4 g4
      go_wp2_with (go_at_call 9; refine (In_any _ _ _ _).mono ?_; rintro e w4 ⟨rfl, rfl⟩)
      refine (H5.out _ (ptg g4 (ptg (gal _ _) (gal _ _))) HR.out).mono ?_
      rintro e w5 ⟨va', vc', rfl, x1, x2, hb⟩
      obtain ⟨⟨m0', m1'⟩, ⟨n0', n1'⟩, ys⟩ := boxes2 hb
      have f5 : ∀ j, w5.frozen? ⟨w4.heap.size + 1, j, none⟩ = false := fun j => by rw [hb.frozen (p := ⟨w4.heap.size + 1, j, none⟩) (by simp)]; simp
      have hb45 : Below w4.heap.size w4 w5 := ptg (ptg (gal _ _) (gal _ _)) hb
      have ne1 : va'.ownBlock ≠ some (w4.heap.size + 1) := fun h => by have := (x1.lt _ h).1; simp at this; omega
      have ne2 : vc'.ownBlock ≠ some (w4.heap.size + 1) := fun h => by have := (x2.lt _ h).1; simp at this; omega
      obtain ⟨ao', ca', rfl, _⟩ := bsAt_of_owns x1
      obtain ⟨bo', cb', rfl, _⟩ := pcAt_of_owns x2
      have HX : Hid (∀ a b, BsAt ((w5.setCell ⟨w4.heap.size + 1, 0, none⟩ a).setCell ⟨w4.heap.size + 1, 1, none⟩ b) ao' al ∧ PcAt ((w5.setCell ⟨w4.heap.size + 1, 0, none⟩ a).setCell ⟨w4.heap.size + 1, 1, none⟩ b) bo' ar ∧ Below w4.heap.size w4 ((w5.setCell ⟨w4.heap.size + 1, 0, none⟩ a).setCell ⟨w4.heap.size + 1, 1, none⟩ b)) := by
        intro a b
        obtain ⟨o1, y1, h1, h2⟩ := bsAt_of_owns (ownsRow_setBox (j := 1) (u := b) (ownsRow_setBox (j := 0) (u := a) x1 ne1) ne1)
        obtain ⟨o2, y2, h3, h4⟩ := pcAt_of_owns (ownsRow_setBox (j := 1) (u := b) (ownsRow_setBox (j := 0) (u := a) x2 ne2) ne2)
        simp only [Value.slice.injEq] at h1 h3
        rw [h1.1, h3.1]
        exact ⟨h2, h4, (hb45.setCell (p := ⟨w4.heap.size + 1, 0, none⟩) (by simp) _).setCell (p := ⟨w4.heap.size + 1, 1, none⟩) (by simp) _⟩
      have g5 := ptg g4 hb45
      clear d0 d1 d2 x1 x2 ne1 ne2 hb
      obtain ⟨⟨d0, d1, d2⟩, _, y5⟩ := HD.out w5 g5
      have ya : ¬ w4.heap.size + 1 = w.heap.size := by omega
      have yb : ¬ w.heap.size = w4.heap.size + 1 := by omega
      go_wp2_with fail
      refine (H6.out _ (ptg g4 (HX.out _ _).2.2)).mono ?_
      rintro e w6 ⟨rfl, hb⟩
      have hc := hb.mono (B' := w5.heap.size) (by simp [World.setCell])
      have hs6 : w5.heap.size ≤ w6.heap.size := by have := hb.size; simp [World.setCell] at this; exact this
      have m0 : w6.cell? ⟨w4.heap.size, 0, none⟩ = some (.slice ao al.length ca) := by rw [hc.cell (p := ⟨w4.heap.size, 0, none⟩) (by simp only; omega)]; go_simp
      have m1 : w6.cell? ⟨w4.heap.size, 1, none⟩ = some (.slice bo ar.length cb) := by rw [hc.cell (p := ⟨w4.heap.size, 1, none⟩) (by simp only; omega)]; go_simp
      have n0 : w6.cell? ⟨w4.heap.size + 1, 0, none⟩ = some (.slice ao' al.length ca') := by rw [hc.cell (p := ⟨w4.heap.size + 1, 0, none⟩) (by simp only; omega)]; go_simp
      have n1 : w6.cell? ⟨w4.heap.size + 1, 1, none⟩ = some (.slice bo' ar.length cb') := by rw [hc.cell (p := ⟨w4.heap.size + 1, 1, none⟩) (by simp only; omega)]; go_simp
      obtain ⟨x1, x2, x3⟩ := HX.out (.slice ao' al.length ca') (.slice bo' ar.length cb')
      have hb46 : Below w4.heap.size w4 w6 := ptg x3 hb
      have x1 := x1.below hb
      have x2 := x2.below hb
      have g6 := ptg g4 hb46
      have z1 := z1.below hb46
      have z2 := z2.below hb46
      clear hb hb46 g4 d0 d1 d2 m0' m1' n0' n1' x3
      go_wp2_with fail
      refine (EqualBool_same ao ao' ca ca' al w6 z1 x1 (by omega)).mono ?_
      rintro e w7 ⟨rfl, hb7⟩
      have m1' := (hb7.cell (p := ⟨w4.heap.size, 1, none⟩) (by simp only; omega)).trans m1
      have n1' := (hb7.cell (p := ⟨w4.heap.size + 1, 1, none⟩) (by simp only; omega)).trans n1
      go_wp2_with fail
      refine (EqualArc_same bo bo' cb cb' ar w7 (z2.below hb7) (x2.below hb7) (by omega)).mono ?_
      rintro e w8 ⟨rfl, hb8⟩
      have hbF := (HD.out w8 (ptg g6 (ptg hb7 hb8))).2.1
      go_wp2
      go_ret
      exact ⟨rfl, hbF⟩
  · have HO : gOut g = [] := if_neg h0
    have he : atErr g t = gChk g := by unfold atErr; rw [if_neg h0]
    rw [HO] at H3
    rw [he, if_neg h0, if_neg h0] at H4
    have hne : (gChk g == 0) = false := by simpa using h0
    have heq : (gChk g == gChk g) = true := by simp
    generalize gChk g = ev at *
    clear H2 H5 he HO
    go_enter Tryd.func3, Tryd.ntmps3
    go_wp2_with fail
    rw [← hw0]
    refine (H1.out _ (Below.refl _ _)).mono ?_
    rintro e w1 ⟨rfl, g1⟩
    obtain ⟨⟨d0, d1, d2⟩, _, _⟩ := HD.out w1 g1
    go_wp2_with fail
    refine (H3.out _ g1).mono ?_
    rintro e w3 ⟨rfl, hb⟩
    have g3 := ptg g1 hb
    clear g1 hb d0 d1 d2
    obtain ⟨⟨d0, d1, d2⟩, _, _⟩ := HD.out w3 g3
    go_wp2_with fail
    refine (H4.out _ g3).mono ?_
    rintro e w4 ⟨ao, ca, bo, cb, rfl, z1, z2, hb⟩
    have g4 := ptg g3 hb
    clear g3 hb d0 d1 d2
    obtain ⟨⟨d0, d1, d2⟩, _, y0⟩ := HD.out w4 g4
    go_wp2_with fail
    refine (H6.out _ (ptg g4 (ptg (gal _ _) (gal _ _)))).mono ?_
    rintro e w6 ⟨rfl, hb⟩
    obtain ⟨⟨m0, m1⟩, ⟨n0, n1⟩, ys⟩ := boxes2 hb
    have hb46 : Below w4.heap.size w4 w6 := ptg (ptg (gal _ _) (gal _ _)) hb
    have g6 := ptg g4 hb46
    have z1 := z1.below hb46
    have z2 := z2.below hb46
    clear hb hb46 g4 d0 d1 d2
    go_wp2_with fail
    refine (EqualBool_same ao none ca 0 [] w6 z1 (.inl rfl) (by simp)).mono ?_
    rintro e w7 ⟨rfl, hb7⟩
    have m1' := (hb7.cell (p := ⟨w4.heap.size, 1, none⟩) (by simp only; omega)).trans m1
    have n1' := (hb7.cell (p := ⟨w4.heap.size + 1, 1, none⟩) (by simp only; omega)).trans n1
    go_wp2_with fail
    refine (EqualArc_same bo none cb 0 [] w7 (z2.below hb7) (.inl rfl) (by simp)).mono ?_
    rintro e w8 ⟨rfl, hb8⟩
    have hbF := (HD.out w8 (ptg g6 (ptg hb7 hb8))).2.1
    go_wp2
    go_ret
    exact ⟨rfl, hbF⟩

end Go.Proofs.YthgelfnflafoiaaDoor
