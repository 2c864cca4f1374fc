/-
  What between of the program answers: the pairs of numbers that follow each other.
-/
import Derived.Test.YtjlnokjaabcldahBase
import Derived.Deep.RegionHeld3
import Derived.Deep.AppendLies
namespace Go.Proofs.Ytjlnokjaabcldah
open Go.RowKit

theorem encs_succ (l : List (Int × Int)) (k : Nat) (hk : k < l.length) : encs (l.take (k + 1)) = encs (l.take k) ++ [.int .i64 l[k].1, .int .i64 l[k].2] := by
  unfold encs; rw [flat_succ l k hk, List.map_append]; rfl

set_option maxRecDepth 100000 in
set_option maxHeartbeats 3200000 in
theorem between_own (ao : Option Addr) (n cap : Nat) (l : List (Int × Int)) (w : World) (hl : ZsAt w ao (flat l)) (hn : n = 2 * l.length) (h3 : l.length ≤ 400) :
    Calls Try.prog 46 #[.slice ao n cap] w fun e w' => ∃ v, e = .returned v ∧ w'.ownsRow w.heap.size 29 2 v l.length (encs l) ∧ Below w.heap.size w w' := by
  obtain ⟨i0, hi, hz0, hz1, hz2⟩ := info_parts Try.infoIvl
  have hn1 : n ≤ 800 := by omega
  have hn2 : 2 * l.length ≤ n := by omega
  have hn3 : n ≤ 2 * l.length := by omega
  have HL := flat_length l
  have HL' : Hid ((flat l).length = 2 * l.length) := HL
  clear hn HL
  go_enter Try.func46, Try.ntmps46
  go_wp2_with (at_make; refine wpList_make_own _ rfl _ _ 22 rfl w.heap.size 29 i0 (.agg #[.int .i64 0, .int .i64 0]) 2 Try.underlying22 hi hz0 hz1 .i64 .i64 _ l.length rfl rfl (by omega) (by rw [hz2]; omega) (by unfold maxLen; omega) (Nat.le_refl _) ?_; intro w0 hown0 hgrow0)
  go_loopw [3, 4] (fun v i wr => ∃ (k m : Nat), k ≤ l.length ∧ m ≤ 2 * k ∧ 2 * k ≤ m ∧ i = .int .i64 ((m : Int) + 1) ∧ wr.ownsRow w.heap.size 29 2 v k (encs (l.take k)) ∧ Below w.heap.size w wr) (fun _ i _ => n + 2 - (intOf i).toNat)
  case atStart => exact ⟨0, 0, Nat.zero_le _, Nat.zero_le _, Nat.zero_le _, rfl, by assumption, (Below.refl _ _).grown (by assumption) (Nat.le_refl _) (fun k hk => by cases hk)⟩
  case round =>
    obtain ⟨k, m, hk, hm1, hm2, rfl, hown, hb⟩ := hrel
    by_cases hlt : k < l.length
    · rcases hl with h0 | ⟨b, off, rfl, hbw, hc⟩
      · have := HL'.out; rw [h0] at this; simp at this; omega
      obtain ⟨f0, f1⟩ := flat_getD l k hlt
      have hg : l.getD k (0, 0) = l[k] := by simp [List.getD_eq_getElem?_getD, List.getElem?_eq_getElem hlt]
      have c0 : wr.cell? ⟨b, off + m, none⟩ = some (.int .i64 l[k].1) := by
        rw [hb.cell (p := ⟨b, off + m, none⟩) hbw, hc m (by have := HL'.out; omega), List.getD_eq_getElem?_getD, show m = k * 2 by omega, f0, hg]; rfl
      have c1 : wr.cell? ⟨b, off + (m + 1), none⟩ = some (.int .i64 l[k].2) := by
        rw [hb.cell (p := ⟨b, off + (m + 1), none⟩) hbw, hc (m + 1) (by have := HL'.out; omega), List.getD_eq_getElem?_getD, show m = k * 2 by omega, f1, hg]; rfl
      clear hc f0 f1 hg
      have hsz := hb.size
      have hne : some b ≠ u3.ownBlock := fun h => by have := (hown.lt b h.symm).1; omega
      have hbr : b < wr.heap.size := by omega
      have hi1 : (m : Int) + 1 < (n : Int) := by omega
      have hi2 : (m : Int) < (n : Int) := by omega
      have hi3 : (0 : Int) ≤ (m : Int) := by omega
      have hi4 : (0 : Int) ≤ (m : Int) + 1 := by omega
      have hw1 : IntKind.i64.wrap ((m : Int) + 1 - 1) = (m : Int) := by rw [Int.add_sub_cancel]; exact wrap_small _ (by omega) (by omega)
      have hw2 : IntKind.i64.wrap (m : Int) = (m : Int) := wrap_small _ (by omega) (by omega)
      have HO : Hid (∀ (o : Obj) (w1 : World), ((wr.alloc o).drew).grownBy w1 u3.ownBlock → Below w.heap.size w w1) := fun o w1 hgr => ((hb.alloc hsz o).drew).grown hgr (by simp; omega) (fun j hj => (hown.lt j hj).1)
      go_wp2
      go_region_held3 (fun w' => w'.cell? ⟨b, off + m, none⟩ = some (.int .i64 l[k].1) ∧ w'.cell? ⟨b, off + (m + 1), none⟩ = some (.int .i64 l[k].2))
        (first
          | go_keep
          | (go_split_ands
             refine ⟨?_, ?_⟩
             · (rw [hgrow.cell_far _ (by simp; omega) hne]; assumption)
             · (rw [hgrow.cell_far _ (by simp; omega) hne]; assumption)))
        ((refine step_append_lies _ (by rfl) _ _ _ (by rfl) w.heap.size 29 i0 _ 2 16 Try.underlying22 hi hz0 hz1 hz2 rfl (by omega) u3 k (encs (l.take k)) (by rfl) ((hown.alloc _).drew) ⟨wr.heap.size, 0, none⟩ 1 1 [.int .i64 l[k].1, .int .i64 l[k].2] (by rfl) (by rfl) (World.news_of_block (cs := #[.int .i64 l[k].1, .int .i64 l[k].2]) (t := 29) (fr := (0, 0)) (heap_alloc_new wr _)) (by simp [Value.oneCell']) (by omega) (by unfold maxLen; omega) (by omega) (by simp; omega) (wr.heap.size + 1) (by simp) ?_; intro gg cap1 w1 hown1 hgrow hat hltg))
      have hb' := HO.out _ _ hgrow
      rw [← encs_succ l k hlt] at hown1
      clear hgrow hown hat hltg hne
      go_wp2
      go_roundw
      case rel => exact ⟨k + 1, m + 2, by omega, by omega, by omega, by go_num, hown1, hb'⟩
      case measure => simp [intOf]; omega
    · have hkl : k = l.length := by omega
      subst hkl
      rw [List.take_length] at hown
      have hi1 : ¬ ((m : Int) + 1 < (n : Int)) := by omega
      go_wp2
      go_ret
      exact ⟨_, rfl, hown, hb⟩
theorem between_any (ao : Option Addr) (n cap : Nat) (l : List (Int × Int)) (w : World) (hl : ZsAt w ao (flat l)) (hn : n = 2 * l.length) (h3 : l.length ≤ 400) :
    Calls Try.prog 46 #[.slice ao n cap] w fun e w' => ∃ ao' cap', e = .returned (.slice ao' l.length cap') ∧ IvAt w' ao' l ∧ Below w.heap.size w w' :=
  (between_own ao n cap l w hl hn h3).mono fun e w' ⟨v, he, ho, hb⟩ => by
    obtain ⟨ao', cap', rfl, hz⟩ := ivAt_of_owns ho
    exact ⟨ao', cap', he, hz, hb⟩

end Go.Proofs.Ytjlnokjaabcldah
