/-
  What bounds of the program's maps answers: all ends of the pieces, in order, in memory of its own.
-/
import Derived.Test.YtjlnokjaabcldaePChk
namespace Go.Proofs.Ytjlnokjaabcldae
open Go.RowKit

set_option maxHeartbeats 1000000 in
theorem pbounds_any (ao : Option Addr) (cap : Nat) (m : List (Int × Int × Int)) (w : World) (hl : PcAt w ao m) (h3 : m.length ≤ 200) :
    Calls Try.prog 31 #[.slice ao m.length cap] w fun e w' => ∃ g, e = .returned (.slice (some ⟨g, 0, none⟩) (2 * m.length) (2 * m.length)) ∧ w'.ownsRow w.heap.size 3 1 (.slice (some ⟨g, 0, none⟩) (2 * m.length) (2 * m.length)) (2 * m.length) ((turnsOf m).map (Value.int .i64)) ∧ Below w.heap.size w w' := by
  obtain ⟨i0, hi, hz0, hz1, hz2⟩ := info_parts Try.infoInt
  go_enter Try.func31, Try.ntmps31
  go_wp2_with (at_make; refine wpList_make_own _ rfl _ _ 40 rfl w.heap.size 3 i0 (.int .i64 0) 1 Try.underlying40 hi hz0 hz1 .i64 .i64 _ (2 * m.length) rfl rfl (by omega) (by rw [hz2]; omega) (by unfold maxLen; omega) (Nat.le_refl _) ?_; intro w0 hown0 hgrow0)
  go_loopw [3, 12] (fun v i wr => ∃ k : Nat, k ≤ m.length ∧ i = .int .i64 k ∧ v = .slice (some ⟨w.heap.size, 0, none⟩) (2 * k) (2 * m.length) ∧ wr.ownsRow w.heap.size 3 1 (.slice (some ⟨w.heap.size, 0, none⟩) (2 * k) (2 * m.length)) (2 * k) ((turnsOf (m.take k)).map (Value.int .i64)) ∧ Below w.heap.size w wr) (fun _ i _ => m.length - (intOf i).toNat)
  case atStart => exact ⟨0, Nat.zero_le _, rfl, rfl, by assumption, (Below.refl _ _).grown (by assumption) (Nat.le_refl _) (fun k hk => by cases hk)⟩
  case round =>
    obtain ⟨k, hk, rfl, rfl, hown, hb⟩ := hrel
    by_cases hlt : k < m.length
    · rcases hl.below hb with h0 | ⟨b, off, rfl, hbw, hc⟩
      · subst h0; simp at hlt
      obtain ⟨c0, c1, c2⟩ := PcAt.get hlt hc
      clear hc hl
      have hsz := hb.size
      go_wp2_with (at_builtin; refine wpList_append_fits _ rfl _ _ 40 rfl w.heap.size 3 i0 1 Try.underlying40 hi hz1 w.heap.size (2 * k) (2 * m.length) _ rfl ((hown.alloc _).alloc _) ⟨wr.heap.size + 1, 0, none⟩ 2 2 [.int .i64 m[k].1, .int .i64 m[k].2.1] rfl rfl ?c1 ?c2 ?c3 ?_)
      case c1 => exact cells_two_new _ _ _ _ _ (by simp)
      case c2 => intro u hu; simp at hu; rcases hu with rfl | rfl <;> rfl
      case c3 => omega
      intro w1 hown' hgrow
      have R : w1.ownsRow w.heap.size 3 1 (.slice (some ⟨w.heap.size, 0, none⟩) (2 * (k + 1)) (2 * m.length)) (2 * (k + 1)) ((turnsOf (m.take (k + 1))).map (Value.int .i64)) := by
        rw [turnsOf_succ m k hlt, List.map_append]; exact hown'
      have hb' : Below w.heap.size w w1 := ((hb.alloc hsz _).alloc (by simp; omega) _).grown hgrow (by simp; omega) (fun j hj => (hown.lt j hj).1)
      clear hown hown' hgrow
      go_wp2
      go_roundw
      case rel => exact ⟨k + 1, by omega, by go_num, rfl, R, hb'⟩
      case measure => simp [intOf]; omega
    · have hkl : k = m.length := by omega
      subst hkl
      rw [List.take_length] at hown
      go_wp2
      go_ret
      exact ⟨_, rfl, hown, hb⟩

end Go.Proofs.Ytjlnokjaabcldae
