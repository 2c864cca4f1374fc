/-
  The walk of the law ImapMerges: it returns true, and nothing that was there is changed.
-/
import Derived.Test.YtjlnokjaabcldaaRMrg2
import Derived.Test.YtjlnokjaabcldaaEq3
namespace Go.Proofs.Ytjlnokjaabcldaa
open Go.RowKit

theorem mergeIs_len {a b : List (Int × Int × Int)} {how n : Int} {r : List (Int × Int × Int)} (h : MergeIs a b how n r) : r.length ≤ 200 := by
  rcases h with ⟨_, _, rfl⟩ | ⟨_, _, _, rfl⟩ | ⟨_, _, _, _, rfl⟩ | ⟨_, _, _, S, out, _, _, h⟩
  · simp
  · simp
  · simp
  · rcases h with ⟨_, _, rfl⟩ | ⟨_, _, _, rfl⟩ | ⟨_, h, _, rfl⟩
    · simp
    · simp
    · exact h

set_option maxRecDepth 100000 in
set_option maxHeartbeats 4000000 in
theorem imapMerges_walk (ao bo : Option Addr) (ca cb : Nat) (a b : List (Int × Int × Int)) (how : Int) (w : World) (hA : PcAt w ao a) (hB : PcAt w bo b) :
    Calls Try.prog 6 #[.slice ao a.length ca, .slice bo b.length cb, .int .i64 how] w fun e w' => e = .returned (.bool true) ∧ Below w.heap.size w w' := by
  go_enter Try.func6, Try.ntmps6
  go_wp2_with fail
  refine (Merge_any how ao bo ca cb a b w hA hB).mono ?_
  rintro e w1 ⟨n, r, hM, v, rfl, ho1, hb1⟩
  have HM : Hid (MergeIs a b how n r) := hM
  obtain ⟨ro, rc, rfl, hz1⟩ := pcAt_of_owns ho1
  have hrl := mergeIs_len hM
  clear hM ho1
  go_wp2_with fail
  refine (RMerge_any how ao bo ca cb a b w1 (hA.below hb1) (hB.below hb1)).mono ?_
  rintro e w2 ⟨n', r', hM', v', rfl, ho2, hb2⟩
  obtain ⟨rfl, rfl⟩ := mergeIs_unique HM.out hM'
  obtain ⟨so, sc, rfl, hz2⟩ := pcAt_of_owns ho2
  have hbb := ptw hb1 hb2
  have hz1' := hz1.below hb2
  clear hM' HM ho2 hz1 hb1 hb2 hA hB
  go_wp2_with fail
  refine (Equal3_any ro so rc sc r r w2 hz1' hz2 (by omega)).mono ?_
  rintro e w3 ⟨rfl, hb3⟩
  rw [show decide (r = r) = true from by simp]
  have hbF := ptw hbb hb3
  have hnn : (n == n) = true := by simp
  clear hbb hb3 hz1' hz2
  go_wp2
  go_ret
  exact ⟨by first | rfl | simp, hbF⟩

end Go.Proofs.Ytjlnokjaabcldaa
