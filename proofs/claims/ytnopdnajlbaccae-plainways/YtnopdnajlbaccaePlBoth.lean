/-
  What bothWays of the program tells: the arcs both ways round.
-/
import Derived.Test.YtnopdnajlbaccaeHeldB
namespace Go.Proofs.Ytnopdnajlbaccae
open Go.RowKit

theorem enc3_six (arcs : List Ac) (k : Nat) (hk : k < arcs.length) : enc3 (both (arcs.take (k + 1))) = enc3 (both (arcs.take k)) ++ [.int .i64 arcs[k].1, .int .i64 arcs[k].2.1, .int .i64 arcs[k].2.2, .int .i64 arcs[k].2.1, .int .i64 arcs[k].1, .int .i64 arcs[k].2.2] := by
  rw [both_take arcs k hk, enc3_append]; rfl

set_option maxRecDepth 100000 in
set_option maxHeartbeats 4000000 in
theorem bothWays_any (bo : Option Addr) (cb : Nat) (arcs : List Ac) (w : World) (hR : PcAt w bo arcs) (h30 : arcs.length ≤ 30) :
    Calls Try.prog 34 #[.slice bo arcs.length cb] w fun e w' => ∃ v, e = .returned v ∧ w'.ownsRow w.heap.size 47 3 v (both arcs).length (enc3 (both arcs)) ∧ Below w.heap.size w w' := by
  obtain ⟨ia, hia, ha0, ha1, ha2⟩ := info_parts Try.infoArc
  go_enter Try.func34, Try.ntmps34
  go_wp2
  go_loopw [3, 5, 8] (fun v _ i wr => ∃ k : Nat, k ≤ arcs.length ∧ i = .int .i64 k ∧ wr.ownsRow w.heap.size 47 3 v (k * 2) (enc3 (both (arcs.take k))) ∧ Below w.heap.size w wr) (fun _ _ i _ => arcs.length - (intOf i).toNat)
  case atStart => exact ⟨0, Nat.zero_le _, rfl, World.ownsRow_nil _ _ _ _, Below.refl _ _⟩
  case round =>
    obtain ⟨k, hk, rfl, hown, hb⟩ := hrel
    by_cases hlt : k < arcs.length
    · rcases hR.below hb with h0 | ⟨b, off, rfl, hbr, hc⟩
      · subst h0; simp at hlt
      obtain ⟨c0, c1, c2⟩ := PcAt.at3 hlt hc
      have hsz := hb.size
      have HE := hidep (enc3_six arcs k hlt)
      clear hc hR
      generalize arcs[k].1 = x at *
      generalize arcs[k].2.1 = y at *
      generalize arcs[k].2.2 = z at *
      go_wp2_with (at_builtin; refine wpList_append_own _ rfl _ _ 37 rfl w.heap.size 47 ia _ 3 24 Try.underlying37 hia ha0 ha1 ha2 rfl (by decide) _ (k * 2) (enc3 (both (arcs.take k))) rfl ((hown.alloc _).alloc _) ⟨wr.heap.size + 1, 0, none⟩ 2 2 [.int .i64 x, .int .i64 y, .int .i64 z, .int .i64 y, .int .i64 x, .int .i64 z] rfl rfl ?c1 ?c2 (by unfold maxLen; omega) (by omega) (by simp; omega) ?_)
      case c1 => exact World.news_of_block (cs := #[.int .i64 x, .int .i64 y, .int .i64 z, .int .i64 y, .int .i64 x, .int .i64 z]) (t := 47) (fr := (0, 0)) (by simpa using heap_alloc_new (wr.alloc _) _)
      case c2 => intro u hu; simp at hu; rcases hu with rfl | rfl | rfl | rfl | rfl | rfl <;> rfl
      intro v1 w1 hown' hgrow hnil
      have R : w1.ownsRow w.heap.size 47 3 v1 ((k + 1) * 2) (enc3 (both (arcs.take (k + 1)))) := by
        rw [HE.out, Nat.add_mul, Nat.one_mul]; exact hown'
      have hb' : Below w.heap.size w w1 := ((hb.alloc hsz _).alloc (by simp; omega) _).grown hgrow (by simp; omega) (fun j hj => (hown.lt j hj).1)
      clear hown hown' hgrow hnil
      go_wp2
      go_roundw
      case rel => exact ⟨k + 1, by omega, by go_num, R, hb'⟩
      case measure => simp [intOf]; omega
    · have hkl : k = arcs.length := by omega
      have HO : Hid (wr.ownsRow w.heap.size 47 3 u3 (both arcs).length (enc3 (both arcs))) := by
        have := hown
        rw [hkl, List.take_length] at this
        rw [both_length]; exact this
      clear hown
      go_wp2
      go_ret
      exact ⟨_, rfl, HO.out, hb⟩

end Go.Proofs.Ytnopdnajlbaccae
