/-
  The law PackSays, walked.
-/
import Derived.Test.YteibdmfcclkjpacPkCon
import Derived.Test.YteibdmfcclkjpacPkSum
import Derived.Test.YteibdmfcclkjpacPkCod
namespace Go.Proofs.Yteibdmfcclkjpac
open Go.RowKit

set_option maxRecDepth 100000 in
set_option maxHeartbeats 1000000 in
theorem packSays_over (hS : SumOk) (hE : EncOk) (g : Gr) (la ea : Option Addr) (lc ec : Nat) (s : ByteArray) (w : World) (hG : GAt w la ea g) (hs : s.size ≤ 4611686018427387904) :
    Calls Try.prog 8 #[.agg #[.int .i64 g.hor, .slice la g.lives.length lc, .slice ea g.edges.length ec], .string s] w fun r w' => r = .returned (.bool true) ∧ Below w.heap.size w w' := by
  have B0 := gbx_start w g la ea lc ec 25
  have h0 := RGraph_any g la ea lc ec _ (hG.below B0.bel)
  have HC := hideg (fun (h : Right g) W (hb : Below w.heap.size w W) => PCoded_any g la ea lc ec W (hG.below hb) h)
  have HE := hideg (fun W (hb : Below w.heap.size w W) => hE g la ea lc ec W (hG.below hb))
  have H1 := hideg (fun W => hS s W hs)
  have H2 := hideg (fun W => RSum32_any s W (by omega))
  generalize sumL s.data.toList = S at *
  by_cases he : gChk g = 0
  · have hR := gChk_right he
    have hA : encA g = (coded g, 0) := by unfold encA; rw [if_pos he]
    rw [hA] at HE
    rw [he] at h0
    generalize coded g = C at *
    clear hG hE hS he hA hs
    go_enter Try.func8, Try.ntmps8
    go_wp2_with fail
    refine h0.mono ?_
    rintro r w1 ⟨rfl, hb1⟩
    have B1 := B0.below hb1
    have g0 := B1.c0
    have g1 := B1.c1
    have g2 := B1.c2
    have h1 := HC.out hR _ B1.bel
    clear HC B0 h0 hb1
    go_wp2_with fail
    refine h1.mono ?_
    rintro r w2 ⟨rfl, hb2⟩
    have B2 := B1.below hb2
    have f0 := B2.c0
    have f1 := B2.c1
    have f2 := B2.c2
    have h2 := HE.out _ B2.bel
    clear h1 B1 g0 g1 g2 HE hb2
    go_wp2_with fail
    refine h2.mono ?_
    rintro r w3 ⟨rfl, hb3⟩
    have B3 := B2.below hb3
    have h3 := H1.out w3
    clear h2 B2 f0 f1 f2 hb3 H1
    go_wp2_with fail
    refine h3.mono ?_
    rintro r w4 ⟨rfl, hb4⟩
    have hbE := (B3.below hb4).bel
    have h4 := H2.out w4
    clear h3 B3 hb4 H2
    go_wp2_with fail
    refine h4.mono ?_
    rintro r w5 ⟨rfl, rfl⟩
    clear h4
    go_wp2
    go_ret
    exact ⟨rfl, hbE⟩
  · have hA : encA g = ([], gChk g) := by unfold encA; rw [if_neg he]
    rw [hA] at HE
    have d1 : (gChk g == 0) = false := by simpa using he
    generalize gChk g = n at *
    clear hG hE hS he hA hs HC
    go_enter Try.func8, Try.ntmps8
    go_wp2_with fail
    refine h0.mono ?_
    rintro r w1 ⟨rfl, hb1⟩
    have B2 := B0.below hb1
    have f0 := B2.c0
    have f1 := B2.c1
    have f2 := B2.c2
    have h2 := HE.out _ B2.bel
    clear B0 HE hb1 h0
    go_wp2_with fail
    refine h2.mono ?_
    rintro r w3 ⟨rfl, hb3⟩
    have B3 := B2.below hb3
    have h3 := H1.out w3
    clear h2 B2 f0 f1 f2 hb3 H1
    go_wp2_with fail
    refine h3.mono ?_
    rintro r w4 ⟨rfl, hb4⟩
    have hbE := (B3.below hb4).bel
    have h4 := H2.out w4
    clear h3 B3 hb4 H2
    go_wp2_with fail
    refine h4.mono ?_
    rintro r w5 ⟨rfl, rfl⟩
    clear h4
    go_wp2
    go_ret
    exact ⟨rfl, hbE⟩

end Go.Proofs.Yteibdmfcclkjpac
