/-
  What turns of the reference answers: all ends of the pieces, in order, in memory of its own.
-/
import Derived.Test.YtjlnokjaabcldabDoorPChk
import Derived.Deep.RegionHeld3
import Derived.Deep.AppendLies
namespace Go.Proofs.YtjlnokjaabcldabDoor
open Go.RowKit

set_option maxRecDepth 100000 in
set_option maxHeartbeats 3200000 in
theorem turns_any (ao : Option Addr) (cap : Nat) (l : List (Int × Int × Int)) (w : World) (hl : PcAt w ao l) (h3 : l.length ≤ 200) :
    Calls Tryd.prog 19 #[.slice ao l.length cap] w fun e w' => ∃ v, e = .returned v ∧ w'.ownsRow w.heap.size 3 1 v (2 * l.length) ((turnsOf l).map (Value.int .i64)) ∧ (l.length = 0 → v = .slice none 0 0) ∧ Below w.heap.size w w' := by
  obtain ⟨i0, hi, hz0, hz1, hz2⟩ := info_parts Tryd.infoInt
  go_enter Tryd.func19, Tryd.ntmps19
  go_wp2
  go_loopw [3, 4] (fun v i wr => ∃ k : Nat, k ≤ l.length ∧ i = .int .i64 k ∧ wr.ownsRow w.heap.size 3 1 v (2 * k) ((turnsOf (l.take k)).map (Value.int .i64)) ∧ (k = 0 → v = .slice none 0 0) ∧ Below w.heap.size w wr) (fun _ i _ => l.length - (intOf i).toNat)
  case atStart => exact ⟨0, Nat.zero_le _, rfl, World.ownsRow_nil _ _ _ _, fun _ => rfl, Below.refl _ _⟩
  case round =>
    obtain ⟨k, hk, rfl, hown, hnil, hb⟩ := hrel
    have HNil : Hid (k = 0 → u3 = .slice none 0 0) := hnil
    clear hnil
    by_cases hlt : k < l.length
    · rcases hl with h0 | ⟨b, off, rfl, hbw, hc⟩
      · subst h0; simp at hlt
      obtain ⟨c0', c1', _⟩ := PcAt.get hlt hc
      have c0 : wr.cell? ⟨b, off + k * 3, none⟩ = some (.int .i64 l[k].1) := by rw [hb.cell (p := ⟨b, off + k * 3, none⟩) hbw, c0']
      have c1 : wr.cell? ⟨b, off + k * 3 + 1, none⟩ = some (.int .i64 l[k].2.1) := by rw [hb.cell (p := ⟨b, off + k * 3 + 1, none⟩) hbw, c1']
      clear hc c0' c1'
      have hsz := hb.size
      have hne : some b ≠ u3.ownBlock := fun h => by have := (hown.lt b h.symm).1; omega
      have hbr : b < wr.heap.size := by omega
      have hi1 : (k : Int) < (l.length : Int) := by omega
      have hi3 : (0 : Int) ≤ (k : Int) := by omega
      have HO : Hid (∀ (o : Obj) (w1 : World), ((wr.alloc o).drew).grownBy w1 u3.ownBlock → Below w.heap.size w w1) := fun o w1 hgr => ((hb.alloc hsz o).drew).grown hgr (by simp; omega) (fun j hj => (hown.lt j hj).1)
      go_wp2
      go_region_held3 (fun w' => w'.cell? ⟨b, off + k * 3, none⟩ = some (.int .i64 l[k].1) ∧ w'.cell? ⟨b, off + k * 3 + 1, none⟩ = some (.int .i64 l[k].2.1))
        (first
          | go_keep
          | (go_split_ands
             refine ⟨?_, ?_⟩
             · (rw [hgrow.cell_far _ (by simp; omega) hne]; assumption)
             · (rw [hgrow.cell_far _ (by simp; omega) hne]; assumption)))
        ((refine step_append_lies _ (by rfl) _ _ _ (by rfl) w.heap.size 3 i0 _ 1 8 Tryd.underlying43 hi hz0 hz1 hz2 rfl (by omega) u3 (2 * k) ((turnsOf (l.take k)).map (Value.int .i64)) (by rfl) ((hown.alloc _).drew) ⟨wr.heap.size, 0, none⟩ 2 2 [.int .i64 l[k].1, .int .i64 l[k].2.1] (by rfl) (by rfl) (World.news_of_block (cs := #[.int .i64 l[k].1, .int .i64 l[k].2.1]) (t := 3) (fr := (0, 0)) (heap_alloc_new wr _)) (by simp [Value.oneCell']) (by omega) (by unfold maxLen; omega) (by omega) (by simp; omega) (wr.heap.size + 1) (by simp) ?_; intro gg cap1 w1 hown1 hgrow hat hltg))
      have hb' := HO.out _ _ hgrow
      have R : w1.ownsRow w.heap.size 3 1 (.slice (some ⟨gg, 0, none⟩) (2 * k + 2) cap1) (2 * (k + 1)) ((turnsOf (l.take (k + 1))).map (Value.int .i64)) := by
        rw [turnsOf_succ l k hlt, List.map_append]; exact hown1
      clear hgrow hown hat hltg hne hown1
      go_wp2
      go_roundw
      case rel => exact ⟨k + 1, by omega, by go_num, R, fun h => by omega, hb'⟩
      case measure => simp [intOf]; omega
    · have hkl : k = l.length := by omega
      subst hkl
      rw [List.take_length] at hown
      go_wp2
      go_ret
      exact ⟨_, rfl, hown, HNil.out, hb⟩

end Go.Proofs.YtjlnokjaabcldabDoor
