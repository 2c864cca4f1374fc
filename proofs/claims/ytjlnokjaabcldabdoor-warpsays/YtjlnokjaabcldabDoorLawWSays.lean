/-
  The walk of the law WarpSays: it returns true, and nothing that was there is changed.
-/
import Derived.Test.YtjlnokjaabcldabDoorWrB
import Derived.Test.YtjlnokjaabcldabDoorWrC
import Derived.Test.YtjlnokjaabcldabDoorEqC
import Derived.Test.YtjlnokjaabcldabDoorEq3
namespace Go.Proofs.YtjlnokjaabcldabDoor
open Go.RowKit

theorem cellsAns_len {m l : List (Int × Int × Int)} {how n : Int} {r : List Cl} (h : CellsAns m l how n r) : r.length ≤ 200 := by
  rcases h with ⟨_, _, rfl⟩ | ⟨_, _, _, rfl⟩ | ⟨_, _, S, _, h⟩
  · simp
  · simp
  · rcases h with ⟨_, _, rfl⟩ | ⟨_, _, _, rfl⟩ | ⟨_, h, _, rfl⟩
    · simp
    · simp
    · exact h
theorem foldAns_len {l : List (Int × Int × Int)} {how n : Int} {r : List (Int × Int × Int)} (h : FoldAns l how n r) : r.length ≤ 200 := by
  rcases h with ⟨_, _, rfl⟩ | ⟨_, S, out, _, _, h⟩
  · simp
  · rcases h with ⟨_, _, rfl⟩ | ⟨_, _, _, rfl⟩ | ⟨_, h, _, rfl⟩
    · simp
    · simp
    · exact h

set_option maxRecDepth 100000 in
set_option maxHeartbeats 4000000 in
theorem warpSays_walk (mo lo : Option Addr) (mc lc : Nat) (m l : List (Int × Int × Int)) (how : Int) (w : World) (hm : PcAt w mo m) (hl : PcAt w lo l) (hT : Tab w) :
    Calls Tryd.prog 3 #[.slice mo m.length mc, .slice lo l.length lc, .int .i64 how] w fun e w' => e = .returned (.bool true) ∧ Below w.heap.size w w' := by
  have HT := hideW hT.low
  have HM := hideW hm
  have HL := hideW hl
  clear hm hl hT
  go_enter Tryd.func3, Tryd.ntmps3
  go_wp2_with fail
  refine (Cells_any mo lo mc lc m l how w HM.out HL.out).mono ?_
  rintro e w1 ⟨n, r, hC, v, rfl, ho1, hb1⟩
  have HC := hideW hC
  obtain ⟨ro, rc, rfl, hz1⟩ := ceAt_of_owns ho1
  have hrl := cellsAns_len hC
  clear hC ho1
  go_wp2_with fail
  refine (RCells_any mo lo mc lc m l how w1 (HM.out.below hb1) (HL.out.below hb1) (HT.out.below hb1).tab).mono ?_
  rintro e w2 ⟨n', r', hC', v', rfl, ho2, hb2⟩
  obtain ⟨rfl, rfl⟩ := cellsAns_unique HC.out hC'
  obtain ⟨so, sc, rfl, hz2⟩ := ceAt_of_owns ho2
  have hbb := ptw hb1 hb2
  have hz1' := hz1.below hb2
  clear hC' HC ho2 hz1 hb1 hb2
  go_wp2_with fail
  refine (Fold_any lo lc l how w2 (HL.out.below hbb)).mono ?_
  rintro e w3 ⟨n3, r3, hF, v3, rfl, ho3, hb3⟩
  have HF := hideW hF
  obtain ⟨fo, fc, rfl, hz3⟩ := pcAt_of_owns ho3
  have hfl := foldAns_len hF
  have hbb3 := ptw hbb hb3
  have za := hz1'.below hb3
  have zb := hz2.below hb3
  clear hF ho3 hbb hb3 hz1' hz2
  go_wp2_with fail
  refine (RFold_any lo lc l how w3 (HL.out.below hbb3) (HT.out.below hbb3).tab).mono ?_
  rintro e w4 ⟨n4, r4, hF', v4, rfl, ho4, hb4⟩
  obtain ⟨rfl, rfl⟩ := foldAns_unique HF.out hF'
  obtain ⟨go, gc, rfl, hz4⟩ := pcAt_of_owns ho4
  have hbb4 := ptw hbb3 hb4
  have za4 := hideW (za.below hb4)
  have zb4 := hideW (zb.below hb4)
  have zc4 := hideW (hz3.below hb4)
  have zd4 := hideW hz4
  clear hF' HF ho4 hbb3 hb4 za zb hz3 hz4
  go_wp2_with fail
  refine (wcheck_any lo lc l w4 (HL.out.below hbb4)).mono ?_
  rintro e w5 ⟨rfl, hb5⟩
  have hbb5 := ptw hbb4 hb5
  go_wp2_with fail
  refine (Messages_any lo lc l w5 (HL.out.below hbb5)).mono ?_
  rintro e w6 ⟨rfl, hb6⟩
  have hbb6 := ptw hbb5 hb6
  have hb46 := ptw hb5 hb6
  have e0 : (lchk l == lchk l) = true := by simp
  generalize lchk l = ck at *
  have hec := EqualC_any ro so rc sc r r w6 (za4.out.below hb46) (zb4.out.below hb46) (by omega)
  rw [show decide (r = r) = true from by simp] at hec
  clear hbb4 hbb5 hb5 hb6 za4 zb4
  go_wp2_with fail
  refine hec.mono ?_
  rintro e w7 ⟨rfl, hb7⟩
  have hb47 := ptw hb46 hb7
  have hbb7 := ptw hbb6 hb7
  have he3 := Equal3_any fo go fc gc r3 r3 w7 (zc4.out.below hb47) (zd4.out.below hb47) (by omega)
  rw [show decide (r3 = r3) = true from by simp] at he3
  have e1 : (n == n) = true := by simp
  have e2 : (n3 == n3) = true := by simp
  clear hec hbb6 hb46 hb7 zc4 zd4 hb47
  go_wp2_with fail
  refine he3.mono ?_
  rintro e w8 ⟨rfl, hb8⟩
  have hbF := ptw hbb7 hb8
  clear he3 hb8 hbb7
  go_wp2
  go_ret
  exact ⟨by first | rfl | simp, hbF⟩

end Go.Proofs.YtjlnokjaabcldabDoor
