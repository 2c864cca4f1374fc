/-
  The law PackReads, walked.
-/
import Derived.Test.YteibdmfcclkjpadPkCon
import Derived.Test.YteibdmfcclkjpadSame
namespace Go.Proofs.Yteibdmfcclkjpad
open Go.RowKit

set_option maxRecDepth 100000 in
set_option maxHeartbeats 1000000 in
theorem packReads_over (hD : DecOk) (s : ByteArray) (w : World) (hs : s.size ≤ 4611686018427387904) :
    Calls Try.prog 3 #[.string s] w fun r w' => r = .returned (.bool true) ∧ Below w.heap.size w w' := by
  have h0 := hD s w hs
  have H1 := hideg (fun W => PDec_any s W hs)
  generalize decA s.data.toList = A at *
  have HS := hideg (fun W la ea lb eb lc ec ld ed (h : GAt W la ea A.1) (h' : GAt W lb eb A.1) => Same_any A.1 la ea lb eb lc ec ld ed W h h')
  clear hs hD
  go_enter Try.func3, Try.ntmps3
  go_wp2_with fail
  refine h0.mono ?_
  rintro r w1 ⟨la1, ea1, lc1, ec1, rfl, hG1, hb1⟩
  have B1 := gbx_start w1 A.1 la1 ea1 lc1 ec1 25
  have h1 := H1.out (w1.alloc (.cells #[.int .i64 A.1.hor, .slice la1 A.1.lives.length lc1, .slice ea1 A.1.edges.length ec1] 25))
  clear h0 H1
  go_wp2_with fail
  refine h1.mono ?_
  rintro r w2 ⟨la2, ea2, lc2, ec2, rfl, hG2, hb2⟩
  have B2 := (B1.below hb2).below (gal w2 (.cells #[.int .i64 A.1.hor, .slice la2 A.1.lives.length lc2, .slice ea2 A.1.edges.length ec2] 25))
  have C2 := gbx_start w2 A.1 la2 ea2 lc2 ec2 25
  have h2 := HS.out _ la1 ea1 la2 ea2 lc1 ec1 lc2 ec2 (hG1.below B2.bel) (hG2.below C2.bel)
  have hb3 := ptg hb1 B2.bel
  have g0 := B2.c0
  have g1 := B2.c1
  have g2 := B2.c2
  clear h1 HS hG1 hG2 B1 hb2 C2 B2 hb1
  go_wp2_with fail
  refine h2.mono ?_
  rintro r w3 ⟨rfl, hb4⟩
  have hbE := ptg hb3 hb4
  clear h2 hb3 hb4
  go_wp2
  go_ret
  exact ⟨rfl, hbE⟩

end Go.Proofs.Yteibdmfcclkjpad
