/-
  The law PackOne, walked.
-/
import Derived.Test.YteibdmfcclkjpahPkCon
import Derived.Test.YteibdmfcclkjpahPkBack
namespace Go.Proofs.Yteibdmfcclkjpah
open Go.RowKit

theorem dec_large : (decA [0, 5, 0, 13]).2.2 = 2 := by rfl
theorem dec_bad {s : List UInt8} (h : ¬ (decA s).2.2 = 0) : (decA s).1.hor = 0 ∧ (decA s).2.1 = 0 := by
  revert h
  unfold decA
  repeat' (first | split | simp)

set_option maxRecDepth 100000 in
set_option maxHeartbeats 1000000 in
theorem packOne_over (hD : DecOk) (hE : EncOk) (s : ByteArray) (w : World) (hs : s.size ≤ 4611686018427387904) :
    Calls Try.prog 4 #[.string s] w fun r w' => r = .returned (.bool true) ∧ Below w.heap.size w w' := by
  have h0 := hD ⟨#[0, 5, 0, 13]⟩ w (by decide)
  have hz := dec_large
  rw [show (⟨#[0, 5, 0, 13]⟩ : ByteArray).data.toList = [0, 5, 0, 13] from rfl] at h0
  generalize decA [0, 5, 0, 13] = Z at *
  obtain ⟨zg, zn, ze⟩ := Z
  simp only at hz h0
  subst hz
  have H1 := hideg (fun W => hD s W hs)
  have hok := @dec_ok s.data.toList
  have hbad := @dec_bad s.data.toList
  generalize decA s.data.toList = A at *
  obtain ⟨g, n, e⟩ := A
  simp only at hbad H1
  by_cases he : e = 0
  · subst he
    obtain ⟨k0, k1, k2, k3⟩ := hok rfl
    have HEn := hideg (fun W la ea lc ec (h : GAt W la ea g) => hE g la ea lc ec W h)
    have hA : encA g = (coded g, 0) := by unfold encA; rw [if_pos k0]
    rw [hA] at HEn
    simp only at HEn
    have hlen : s.data.toList.length = s.size := rfl
    have j1 : n ≤ (s.size : Int) := by omega
    have j0 : 0 ≤ n := by omega
    have j2 : (⟨(coded g).toArray⟩ : ByteArray) = s.extract 0 n.toNat := by
      apply WideShapes.bytes_inj
      rw [ext_take, k1]
      simpa using k3
    generalize (⟨(coded g).toArray⟩ : ByteArray) = C at *
    clear k0 k1 k2 k3 hok hbad hA hD hE hs
    go_enter Try.func4, Try.ntmps4
    go_wp2_with fail
    refine h0.mono ?_
    rintro r w1 ⟨la1, ea1, lc1, ec1, rfl, _, hb1⟩
    have hbA := ptg hb1 (gal w1 (.cells #[.int .i64 zg.hor, .slice la1 zg.lives.length lc1, .slice ea1 zg.edges.length ec1] 25))
    have h1 := H1.out (w1.alloc (.cells #[.int .i64 zg.hor, .slice la1 zg.lives.length lc1, .slice ea1 zg.edges.length ec1] 25))
    clear h0 H1 hb1
    go_wp2_with fail
    refine h1.mono ?_
    rintro r w2 ⟨la2, ea2, lc2, ec2, rfl, hG2, hb2⟩
    have B2 := gbx_start w2 g la2 ea2 lc2 ec2 25
    have hbB := ptg (ptg hbA hb2) B2.bel
    have h2 := HEn.out _ la2 ea2 lc2 ec2 (hG2.below B2.bel)
    clear h1 HEn hbA hb2 B2
    go_wp2_with fail
    refine h2.mono ?_
    rintro r w3 ⟨rfl, hb3⟩
    have hbE := ptg hbB hb3
    clear h2 hbB hb3 hG2
    go_wp2
    go_ret
    exact ⟨rfl, hbE⟩
  · have d1 : (e != 0) = true := by simpa using he
    obtain ⟨b0, b1⟩ := hbad he
    obtain ⟨gh, gl, ge⟩ := g
    simp only at b0 b1 H1
    subst b0 b1
    clear hok he hD hE hs hbad
    go_enter Try.func4, Try.ntmps4
    go_wp2_with fail
    refine h0.mono ?_
    rintro r w1 ⟨la1, ea1, lc1, ec1, rfl, _, hb1⟩
    have hbA := ptg hb1 (gal w1 (.cells #[.int .i64 zg.hor, .slice la1 zg.lives.length lc1, .slice ea1 zg.edges.length ec1] 25))
    have h1 := H1.out (w1.alloc (.cells #[.int .i64 zg.hor, .slice la1 zg.lives.length lc1, .slice ea1 zg.edges.length ec1] 25))
    clear h0 H1 hb1
    go_wp2_with fail
    refine h1.mono ?_
    rintro r w2 ⟨la2, ea2, lc2, ec2, rfl, hG2, hb2⟩
    have hbB := ptg (ptg hbA hb2) (gal w2 (.cells #[.int .i64 0, .slice la2 gl.length lc2, .slice ea2 ge.length ec2] 25))
    clear h1 hbA hb2 hG2
    go_wp2
    go_ret
    exact ⟨rfl, hbB⟩

end Go.Proofs.Yteibdmfcclkjpah
