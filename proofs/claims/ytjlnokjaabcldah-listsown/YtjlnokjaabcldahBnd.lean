/-
  What bounds of the program answers: all ends of the intervals, in order.
-/
import Derived.Test.YtjlnokjaabcldahBase
namespace Go.Proofs.Ytjlnokjaabcldah
open Go.RowKit

set_option maxHeartbeats 1000000 in
theorem bounds_any (ao : Option Addr) (cap : Nat) (l : List (Int × Int)) (w : World) (hl : IvAt w ao l) (h3 : l.length ≤ 200) :
    Calls Try.prog 48 #[.slice ao l.length cap] w fun e w' => ∃ ao', e = .returned (.slice ao' (flat l).length (flat l).length) ∧ ZsAt w' ao' (flat l) ∧ Below w.heap.size w w' := by
  obtain ⟨i0, hi, hz0, hz1, hz2⟩ := info_parts Try.infoInt
  go_enter Try.func48, Try.ntmps48
  go_wp2_with (at_make; refine wpList_make_own _ rfl _ _ 58 rfl w.heap.size 3 i0 (.int .i64 0) 1 Try.underlying58 hi hz0 hz1 .i64 .i64 _ (2 * l.length) rfl rfl (by omega) (by rw [hz2]; omega) (by unfold maxLen; omega) (Nat.le_refl _) ?_; intro w0 hown0 hgrow0)
  go_loopw [3, 12] (fun v i wr => ∃ k : Nat, k ≤ l.length ∧ i = .int .i64 k ∧ v = .slice (some ⟨w.heap.size, 0, none⟩) (2 * k) (2 * l.length) ∧ wr.ownsRow w.heap.size 3 1 (.slice (some ⟨w.heap.size, 0, none⟩) (2 * k) (2 * l.length)) (2 * k) ((flat (l.take k)).map (Value.int .i64)) ∧ Below w.heap.size w wr) (fun _ i _ => l.length - (intOf i).toNat)
  case atStart => exact ⟨0, Nat.zero_le _, rfl, rfl, by assumption, (Below.refl _ _).grown (by assumption) (Nat.le_refl _) (fun k hk => by cases hk)⟩
  case round =>
    obtain ⟨k, hk, rfl, rfl, hown, hb⟩ := hrel
    by_cases hlt : k < l.length
    · rcases hl.below hb with h0 | ⟨b, off, rfl, hbw, hc⟩
      · subst h0; simp at hlt
      obtain ⟨c0, c1⟩ := hc k hlt
      clear hc hl
      have hsz := hb.size
      go_wp2_with (at_builtin; refine wpList_append_fits _ rfl _ _ 58 rfl w.heap.size 3 i0 1 Try.underlying58 hi hz1 w.heap.size (2 * k) (2 * l.length) _ rfl ((hown.alloc _).alloc _) ⟨wr.heap.size + 1, 0, none⟩ 2 2 [.int .i64 l[k].1, .int .i64 l[k].2] rfl rfl ?c1 ?c2 ?c3 ?_)
      case c1 => exact cells_two_new _ _ _ _ _ (by simp)
      case c2 => intro u hu; simp at hu; rcases hu with rfl | rfl <;> rfl
      case c3 => omega
      intro w1 hown' hgrow
      have R : w1.ownsRow w.heap.size 3 1 (.slice (some ⟨w.heap.size, 0, none⟩) (2 * (k + 1)) (2 * l.length)) (2 * (k + 1)) ((flat (l.take (k + 1))).map (Value.int .i64)) := by
        rw [flat_succ l k hlt, List.map_append]; exact hown'
      have hb' : Below w.heap.size w w1 := ((hb.alloc hsz _).alloc (by simp; omega) _).grown hgrow (by simp; omega) (fun j hj => (hown.lt j hj).1)
      clear hown hown' hgrow
      go_wp2
      go_roundw
      case rel => exact ⟨k + 1, by omega, by go_num, rfl, R, hb'⟩
      case measure => simp [intOf]; omega
    · have hkl : k = l.length := by omega
      subst hkl
      rw [List.take_length] at hown
      obtain ⟨ao', cap', e, hz⟩ := zsAt_of_owns hown
      simp only [Value.slice.injEq] at e
      obtain ⟨rfl, e, _⟩ := e
      have HE : Hid (2 * l.length = (flat l).length) := e
      clear hown e
      go_wp2
      go_ret
      exact ⟨_, ret_slice HE.out HE.out, hz, hb⟩

end Go.Proofs.Ytjlnokjaabcldah
