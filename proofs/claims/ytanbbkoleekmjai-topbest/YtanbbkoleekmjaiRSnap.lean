/-
  What leg and Alive of the reference tell.
-/
import Derived.Test.YtanbbkoleekmjaiSnap
namespace Go.Proofs.Ytanbbkoleekmjai
open Go.RowKit

set_option maxRecDepth 100000 in
set_option maxHeartbeats 1000000 in
theorem Alive_any (h : Int) (la ea : Option Addr) (lc ne ec : Nat) (lives : List (Int × Int)) (v : Nat) (t : Int) (w : World) (hl : IvAt w la lives) (hv : v < lives.length) (hn : lives.length ≤ 9223372036854775807) :
    Calls Try.prog 16 #[.agg #[.int .i64 h, .slice la lives.length lc, .slice ea ne ec], .int .i64 v, .int .i64 t] w fun r w' => r = .returned (.bool (aliveB t lives v)) ∧ Below w.heap.size w w' := by
  have HB := hideg (gal w)
  rcases hl with h0 | ⟨b, off, rfl, hbr, hc⟩
  · subst h0; simp at hv
  obtain ⟨c0, c1⟩ := IvAt.get hv hc
  have HA := hideg (aliveB_at t lives v hv)
  clear hc
  have i1 : (v : Int) < (lives.length : Int) := by omega
  have i2 : (0 : Int) ≤ (v : Int) := by omega
  by_cases g1 : lives[v].1 ≤ t
  · by_cases g2 : t < lives[v].2
    · have HR := hideg ((hasB_iff _ _ _).2 ⟨g1, g2⟩)
      go_enter Try.func16, Try.ntmps16
      go_wp2
      go_ret
      exact ⟨ret_bool (by rw [HA.out, HR.out]), HB.out _⟩
    · have HR := hideg (hasB_no (a := lives[v].1) (b := lives[v].2) (t := t) (by omega))
      go_enter Try.func16, Try.ntmps16
      go_wp2
      go_ret
      exact ⟨ret_bool (by rw [HA.out, HR.out]), HB.out _⟩
  · have HR := hideg (hasB_no (a := lives[v].1) (b := lives[v].2) (t := t) (by omega))
    go_enter Try.func16, Try.ntmps16
    go_wp2
    go_ret
    exact ⟨ret_bool (by rw [HA.out, HR.out]), HB.out _⟩

end Go.Proofs.Ytanbbkoleekmjai
