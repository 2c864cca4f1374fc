/-
  What legAt and At of the program's graphs answer; what leg, Alive and Snap of the reference tell.
-/
import Derived.Test.YtjjhhmlogddnkaiDoorPk1
import Derived.Test.YtjjhhmlogddnkaiDoorSBase
import Derived.Deep.RegionHeld3
namespace Go.Proofs.YtjjhhmlogddnkaiDoor
open Go.RowKit

/-- what a search for a leg tells -/
def legV (o : Option Lg) : Value := .tuple #[.agg #[.int .i64 (o.getD (0, 0, 0, 0)).1, .int .i64 (o.getD (0, 0, 0, 0)).2.1, .int .i64 (o.getD (0, 0, 0, 0)).2.2.1, .int .i64 (o.getD (0, 0, 0, 0)).2.2.2], .bool o.isSome]

set_option maxRecDepth 100000 in
set_option maxHeartbeats 4000000 in
theorem legAt_any (A B : Int) (lo : Option Addr) (lcap : Nat) (legs : List Lg) (t : Int) (w : World) (hL : LgAt w lo legs) (hn : legs.length ≤ 9223372036854775807) :
    Calls Tryd.prog 53 #[.agg #[.int .i64 A, .int .i64 B, .slice lo legs.length lcap], .int .i64 t] w fun r w' => r = .returned (legV (lgFind t legs)) ∧ Below w.heap.size w w' := by
  have HB : Hid (∀ o o', Below w.heap.size w ((w.alloc o).alloc o')) := fun o o' => ptg (gal w o) (gal _ o')
  go_enter Tryd.func53, Tryd.ntmps53
  go_wp2
  go_loopw [11] (fun i wr => ∃ k : Nat, k ≤ legs.length ∧ i = .int .i64 k ∧ lgFind t legs = lgFind t (legs.drop k) ∧ Below (w.heap.size + 2) ((w.alloc (.cells #[.int .i64 A, .int .i64 B, .slice lo legs.length lcap] 54)).alloc (.cells #[.int .i64 0, .int .i64 0, .int .i64 0, .int .i64 0] 56)) wr) (fun i _ => legs.length - (intOf i).toNat)
  case atStart => exact ⟨0, Nat.zero_le _, rfl, rfl, Below.refl _ _⟩
  case round =>
    obtain ⟨k, hk, rfl, hI, hb⟩ := hrel
    have HI := hideg hI
    clear hI
    have hbw : Below w.heap.size w wr := (HB.out _ _).trans (hb.mono (by omega))
    have hz := hb.size
    simp only [World.size_alloc] at hz
    have hz0 : w.heap.size < wr.heap.size := by omega
    have hz1 : w.heap.size + 1 < wr.heap.size := by omega
    have r0 : wr.cell? ⟨w.heap.size + 1, 0, none⟩ = some (.int .i64 0) := by rw [hb.cell (p := ⟨w.heap.size + 1, 0, none⟩) (by simp)]; simp
    have r1 : wr.cell? ⟨w.heap.size + 1, 1, none⟩ = some (.int .i64 0) := by rw [hb.cell (p := ⟨w.heap.size + 1, 1, none⟩) (by simp)]; simp
    have r2 : wr.cell? ⟨w.heap.size + 1, 2, none⟩ = some (.int .i64 0) := by rw [hb.cell (p := ⟨w.heap.size + 1, 2, none⟩) (by simp)]; simp
    have r3 : wr.cell? ⟨w.heap.size + 1, 3, none⟩ = some (.int .i64 0) := by rw [hb.cell (p := ⟨w.heap.size + 1, 3, none⟩) (by simp)]; simp
    have f0 : ∀ j, wr.frozen? ⟨w.heap.size + 1, j, none⟩ = false := fun j => by rw [hb.frozen (p := ⟨w.heap.size + 1, j, none⟩) (by simp)]; simp
    by_cases hlt : k < legs.length
    · rcases hL.below hbw with h0 | ⟨b, off, rfl, hbr, hc⟩
      · subst h0; simp at hlt
      obtain ⟨c0, c1, c2, c3⟩ := LgAt.get hlt hc
      have HN := hideg (fun o => hb.alloc (by omega) o)
      clear hc hL
      by_cases g1 : legs[k].1 ≤ t
      · by_cases g2 : t < legs[k].2.1
        · have HR := hideg (lgFind_hit hlt HI.out ((hasB_iff _ _ _).2 ⟨g1, g2⟩))
          go_wp2
          refine bodyPost_ret (v := legV (some legs[k])) (by simp [results, Tryd.results53, go_sem, legV, r0, r1, r2, r3, hz1]) rfl ⟨by rw [HR.out], ?_⟩
          exact (((((hbw.setCell (p := ⟨w.heap.size + 1, 0, none⟩) (by simp) _).setCell (p := ⟨w.heap.size + 1, 1, none⟩) (by simp) _).setCell (p := ⟨w.heap.size + 1, 2, none⟩) (by simp) _).setCell (p := ⟨w.heap.size + 1, 3, none⟩) (by simp) _).alloc (by simp; omega) _)
        · have HR := hideg (lgFind_next hlt HI.out (hasB_no (by omega)))
          go_wp2
          go_roundw
          case rel => exact ⟨k + 1, by omega, by go_num, HR.out, HN.out _⟩
          case measure => simp [intOf]; omega
      · have HR := hideg (lgFind_next hlt HI.out (hasB_no (by omega)))
        go_wp2
        go_roundw
        case rel => exact ⟨k + 1, by omega, by go_num, HR.out, HN.out _⟩
        case measure => simp [intOf]; omega
    · have hkl : k = legs.length := by omega
      subst hkl
      have HR := hideg (lgFind_end HI.out)
      go_wp2
      refine bodyPost_ret (v := legV none) (by simp [results, Tryd.results53, go_sem, legV, r0, r1, r2, r3]) rfl ⟨by rw [HR.out], ?_⟩
      exact ((((hbw.setCell (p := ⟨w.heap.size + 1, 0, none⟩) (by simp) _).setCell (p := ⟨w.heap.size + 1, 1, none⟩) (by simp) _).setCell (p := ⟨w.heap.size + 1, 2, none⟩) (by simp) _).setCell (p := ⟨w.heap.size + 1, 3, none⟩) (by simp) _)

end Go.Proofs.YtjjhhmlogddnkaiDoor
