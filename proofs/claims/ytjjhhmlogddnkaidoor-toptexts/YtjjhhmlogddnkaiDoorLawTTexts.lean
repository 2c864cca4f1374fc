/-
  The law TopTexts, walked.
-/
import Derived.Test.YtjjhhmlogddnkaiDoorPk1
import Derived.Test.YtjjhhmlogddnkaiDoorTSaid
namespace Go.Proofs.YtjjhhmlogddnkaiDoor
open Go.RowKit

theorem parse_nil : (parse []).2.2 = 3 := by decide +kernel

set_option maxRecDepth 100000 in
set_option maxHeartbeats 2000000 in
theorem topTexts_walk (g : Gr) (la ea : Option Addr) (lc ec : Nat) (v t : Int) (w : World) (hG : GAt w la ea g) (hT : Tab w) (hM : Ml w.heap.size w) :
    Calls Tryd.prog 3 #[.agg #[.int .i64 g.hor, .slice la g.lives.length lc, .slice ea g.edges.length ec], .int .i64 v, .int .i64 t] w fun r w' => r = .returned (.bool true) ∧ Below w.heap.size w w' := by
  have B0 := gbx_start w g la ea lc ec 25
  have hs := fun W => said_any W
  have HPr := hideg (fun W (hb : Below w.heap.size w W) => Print_any g la ea lc ec W (hG.below hb) (hT.low.below hb).tab)
  have HMl : Hid (∀ w', Below w.heap.size w w' → Ml w'.heap.size w') := fun w' h => (hM.below h).mono h.size
  have HPa := hideg (fun s w' (h : Below w.heap.size w w') => Parse_any s w' (HMl.out w' h))
  have HA := hideg (fun W (hb : Below w.heap.size w W) => eArr_any g la ea lc ec v t W (hG.below hb))
  have HA2 := hideg (fun xa ya xc yc W (hG : GAt W xa ya g) => eArr_any g xa ya xc yc v t W hG)
  clear hG hT hM
  go_enter Tryd.func3, Tryd.ntmps3
  go_wp2_with fail
  refine (hs _).mono ?_
  rintro r w1 ⟨rfl, hb1⟩
  have B1 := B0.below hb1
  have h2 := HPr.out w1 B1.bel
  clear hs hb1 B0 HPr
  have g0 := B1.c0
  have g1 := B1.c1
  have g2 := B1.c2
  go_wp2_with fail
  refine h2.mono ?_
  rintro r w2 ⟨rfl, hb2⟩
  have B2 := B1.below hb2
  clear h2 hb2 B1 g0 g1 g2
  by_cases h0 : gChk g = 0
  case neg =>
    have h3 := HPa.out ⟨(gOut g).toArray⟩ w2 B2.bel
    have eo : gOut g = [] := by unfold gOut; rw [if_neg h0]
    have e1 : (⟨(gOut g).toArray⟩ : ByteArray).data.toList = gOut g := rfl
    rw [e1, eo, parse_nil] at h3
    have d0 : (gChk g != 0) = true := by simpa using h0
    rw [eo]
    generalize gChk g = n at *
    clear h0 eo e1 HPa HA HA2
    go_wp2_with fail
    refine h3.mono ?_
    rintro r w3 ⟨x, rfl, hx, hb3⟩
    obtain ⟨xa, xc, ya, yc, rfl, hgx, _, _⟩ := hx.gat
    have hbF := (B2.below hb3).bel
    have HBo := hideg (fun o => ptg hbF (gal w3 o))
    clear h3 hx hgx hb3 B2
    go_wp2
    go_ret
    exact ⟨rfl, HBo.out _⟩
  have h3 := HPa.out ⟨(gOut g).toArray⟩ w2 B2.bel
  have eo : gOut g = gText g := by unfold gOut; rw [if_pos h0]
  have e1 : (⟨(gOut g).toArray⟩ : ByteArray).data.toList = gOut g := rfl
  rw [e1, eo, parse_print h0] at h3
  rw [eo, h0]
  clear eo e1 HPa h0
  go_wp2_with fail
  refine h3.mono ?_
  rintro r w3 ⟨x, rfl, hx, hb3⟩
  obtain ⟨xa, xc, ya, yc, rfl, hgx, _, _⟩ := hx.gat
  have B3 := B2.below hb3
  clear h3 hx hb3 B2
  obtain ⟨w4, hw4⟩ : ∃ x, x = w3.alloc (.cells #[.int .i64 g.hor, .slice xa g.lives.length xc, .slice ya g.edges.length yc] 25) := ⟨_, rfl⟩
  have b4 : Below w3.heap.size w3 w4 := by rw [hw4]; exact gal w3 _
  have B4 := B3.below b4
  have X4 : GBx w3 w4 w3.heap.size g xa ya xc yc := by rw [hw4]; exact gbx_start w3 g xa ya xc yc 25
  have h5 := HA.out w4 B4.bel
  have HG4 := hideg (hgx.below b4)
  have hw4s := hw4.symm
  have hlA : (arrA g v t).length ≤ 12 ∨ (arrA g v t).length = 0 := by
    unfold arrA
    split
    · rename_i e1
      rw [(erF_len g v t).1]
      exact .inl (gChk_right (placeE_zero e1).1).lvs
    · exact .inr rfl
  generalize arrA g v t = A at *
  have dp : (placeE g v t == placeE g v t) = true := by simp
  generalize placeE g v t = pe at *
  clear hw4 b4 B3 hgx HA
  have g0' := B4.c0
  have g1' := B4.c1
  have g2' := B4.c2
  go_wp2_with fail
  refine h5.mono ?_
  rintro r w5 ⟨u5, rfl, ho5, hb5⟩
  have B5 := B4.below hb5
  have X5 := X4.below hb5
  have h6 := HA2.out xa ya xc yc w5 (HG4.out.below hb5)
  clear h5 hb5 B4 X4 g0' g1' g2' HG4 HA2 hw4s
  have x0 := X5.c0
  have x1 := X5.c1
  have x2 := X5.c2
  go_wp2_with fail
  refine h6.mono ?_
  rintro r w6 ⟨u6, rfl, ho6, hb6⟩
  have B6 := B5.below hb6
  have ho5 := ownsRow_below ho5 hb6
  obtain ⟨a5, c5, rfl, z5⟩ := zsAt_of_owns ho5
  obtain ⟨a6, c6, rfl, z6⟩ := zsAt_of_owns ho6
  have hE := EqualI_any a5 a6 c5 c6 A A w6 z5 z6 (by omega)
  rw [show decide (A = A) = true from decide_eq_true rfl] at hE
  clear h6 hb6 B5 X5 x0 x1 x2 ho5 ho6 z5 z6
  go_wp2_with fail
  refine hE.mono ?_
  rintro r w7 ⟨rfl, hb7⟩
  have hbF := (B6.below hb7).bel
  clear hE hb7 B6
  go_wp2
  go_ret
  exact ⟨rfl, hbF⟩

end Go.Proofs.YtjjhhmlogddnkaiDoor
