/-
  What within, span, fits, checkEdge and Check of the program's graphs answer, and In of the reference.
-/
import Derived.Test.YtjjhhmlogddnkaaDoorPk1
namespace Go.Proofs.YtjjhhmlogddnkaaDoor
open Go.RowKit

theorem within_any (n lo hi : Int) (w : World) : Calls Tryd.prog 25 #[.int .i64 n, .int .i64 lo, .int .i64 hi] w fun e w' => e = .returned (.bool (inR n lo hi)) ∧ w' = w := by
  by_cases g1 : lo ≤ n
  · by_cases g2 : n ≤ hi
    · have HC := hideg ((inR_iff n lo hi).2 ⟨g1, g2⟩)
      go_enter Tryd.func25, Tryd.ntmps25
      go_wp2
      go_ret
      exact ⟨ret_bool HC.out.symm, rfl⟩
    · have HC := hideg (inR_no (n := n) (lo := lo) (hi := hi) (fun h => g2 h.2))
      go_enter Tryd.func25, Tryd.ntmps25
      go_wp2
      go_ret
      exact ⟨ret_bool HC.out.symm, rfl⟩
  · have HC := hideg (inR_no (n := n) (lo := lo) (hi := hi) (fun h => g1 h.1))
    go_enter Tryd.func25, Tryd.ntmps25
    go_wp2
    go_ret
    exact ⟨ret_bool HC.out.symm, rfl⟩

theorem In_any (n lo hi : Int) (w : World) : Calls Tryd.prog 9 #[.int .i64 n, .int .i64 lo, .int .i64 hi] w fun e w' => e = .returned (.bool (inR n lo hi)) ∧ w' = w := by
  by_cases g1 : lo ≤ n
  · by_cases g2 : n ≤ hi
    · have HC := hideg ((inR_iff n lo hi).2 ⟨g1, g2⟩)
      go_enter Tryd.func9, Tryd.ntmps9
      go_wp2
      go_ret
      exact ⟨ret_bool HC.out.symm, rfl⟩
    · have HC := hideg (inR_no (n := n) (lo := lo) (hi := hi) (fun h => g2 h.2))
      go_enter Tryd.func9, Tryd.ntmps9
      go_wp2
      go_ret
      exact ⟨ret_bool HC.out.symm, rfl⟩
  · have HC := hideg (inR_no (n := n) (lo := lo) (hi := hi) (fun h => g1 h.1))
    go_enter Tryd.func9, Tryd.ntmps9
    go_wp2
    go_ret
    exact ⟨ret_bool HC.out.symm, rfl⟩

theorem span_any (a b h : Int) (w : World) : Calls Tryd.prog 26 #[.int .i64 a, .int .i64 b, .int .i64 h] w fun e w' => e = .returned (.bool (spanB a b h)) ∧ w' = w := by
  by_cases g1 : 0 ≤ a
  · by_cases g2 : a < b
    · by_cases g3 : b ≤ h
      · have HC := hideg ((spanB_iff a b h).2 ⟨g1, g2, g3⟩)
        go_enter Tryd.func26, Tryd.ntmps26
        go_wp2
        go_ret
        exact ⟨ret_bool HC.out.symm, rfl⟩
      · have HC := hideg (spanB_no (a := a) (b := b) (h := h) (fun k => g3 k.2.2))
        go_enter Tryd.func26, Tryd.ntmps26
        go_wp2
        go_ret
        exact ⟨ret_bool HC.out.symm, rfl⟩
    · have HC := hideg (spanB_no (a := a) (b := b) (h := h) (fun k => g2 k.2.1))
      go_enter Tryd.func26, Tryd.ntmps26
      go_wp2
      go_ret
      exact ⟨ret_bool HC.out.symm, rfl⟩
  · have HC := hideg (spanB_no (a := a) (b := b) (h := h) (fun k => g1 k.1))
    go_enter Tryd.func26, Tryd.ntmps26
    go_wp2
    go_ret
    exact ⟨ret_bool HC.out.symm, rfl⟩

set_option maxHeartbeats 1000000 in
theorem fits_any (l : Lg) (h : Int) (w : World) : Calls Tryd.prog 39 #[.agg #[.int .i64 l.1, .int .i64 l.2.1, .int .i64 l.2.2.1, .int .i64 l.2.2.2], .int .i64 h] w fun e w' => e = .returned (.bool (fitB l h)) ∧ Below w.heap.size w w' := by
  have HB := hideg (gal w)
  have HF : Hid (fitB l h = (spanB l.1 l.2.1 h && (inR l.2.2.1 1 50 && inR l.2.2.2 0 1000))) := rfl
  cases e1 : spanB l.1 l.2.1 h <;> cases e2 : inR l.2.2.1 1 50 <;> cases e3 : inR l.2.2.2 0 1000 <;> rw [e1, e2, e3] at HF
  all_goals
    go_enter Tryd.func39, Tryd.ntmps39
    go_wp2_with (first | (go_at_call 26; refine (span_any _ _ _ _).mono ?_; rintro e w' ⟨rfl, rfl⟩) | (go_at_call 25; refine (within_any _ _ _ _).mono ?_; rintro e w' ⟨rfl, rfl⟩))
    go_ret
    exact ⟨ret_bool HF.out.symm, HB.out _⟩

set_option maxRecDepth 100000 in
theorem gHasV_any (h : Int) (la ea : Option Addr) (nl lc ne ec : Nat) (v : Int) (w : World) (hnl : nl ≤ 12) :
    Calls Tryd.prog 38 #[.agg #[.int .i64 h, .slice la nl lc, .slice ea ne ec], .int .i64 v] w fun r w' => r = .returned (.bool (inR v 0 ((nl : Int) - 1))) ∧ Below w.heap.size w w' := by
  have HB := hideg (gal w)
  go_enter Tryd.func38, Tryd.ntmps38
  go_wp2_with (go_at_call 25; refine (within_any _ _ _ _).mono ?_; rintro e w' ⟨rfl, rfl⟩)
  go_ret
  exact ⟨rfl, HB.out _⟩

set_option maxRecDepth 100000 in
theorem gHasT_any (h : Int) (la ea : Option Addr) (nl lc ne ec : Nat) (t : Int) (w : World) (h0 : 1 ≤ h) (h1 : h ≤ 100) :
    Calls Tryd.prog 20 #[.agg #[.int .i64 h, .slice la nl lc, .slice ea ne ec], .int .i64 t] w fun r w' => r = .returned (.bool (inR t 0 (h - 1))) ∧ Below w.heap.size w w' := by
  have HB := hideg (gal w)
  go_enter Tryd.func20, Tryd.ntmps20
  go_wp2_with (go_at_call 25; refine (within_any _ _ _ _).mono ?_; rintro e w' ⟨rfl, rfl⟩)
  go_ret
  exact ⟨rfl, HB.out _⟩

end Go.Proofs.YtjjhhmlogddnkaaDoor
