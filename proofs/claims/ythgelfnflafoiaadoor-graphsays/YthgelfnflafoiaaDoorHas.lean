/-
  What Has and Size of the program answer.
-/
import Derived.Test.YthgelfnflafoiaaDoorChk
namespace Go.Proofs.YthgelfnflafoiaaDoor
open Go.RowKit

set_option maxHeartbeats 1000000 in
theorem Has_any (ao : Option Addr) (cap : Nat) (l : List (Int × Int)) (t : Int) (w : World) (hl : IvAt w ao l) (hn : l.length ≤ 9223372036854775807) :
    Calls Tryd.prog 21 #[.slice ao l.length cap, .int .i64 t] w fun e w' => e = .returned (.bool (has l t)) ∧ Below w.heap.size w w' := by
  go_enter Tryd.func21, Tryd.ntmps21
  go_wp2
  go_loopw [9] (fun i wr => ∃ k : Nat, k ≤ l.length ∧ i = .int .i64 k ∧ has (l.take k) t = false ∧ Below w.heap.size w wr) (fun i _ => l.length - (intOf i).toNat)
  case atStart => exact ⟨0, Nat.zero_le _, rfl, rfl, Below.refl _ _⟩
  case round =>
    obtain ⟨k, hk, rfl, hh, hb⟩ := hrel
    have HH : Hid (has (l.take k) t = false) := hh
    clear hh
    by_cases hlt : k < l.length
    · rcases hl.below hb with h0 | ⟨b, off, rfl, hbw, hc⟩
      · subst h0; simp at hlt
      obtain ⟨c0, c1⟩ := hc k hlt
      have HS : ∀ o, Below w.heap.size w (wr.alloc o) := fun o => hb.alloc hb.size o
      clear hc hl
      by_cases g1 : l[k].1 ≤ t
      · by_cases g2 : t < l[k].2
        · have HC : Hid (has l t = true) := has_take_yes hlt g1 g2
          go_wp2
          go_ret
          exact ⟨ret_bool HC.out.symm, HS _⟩
        · have HC : Hid (has (l.take (k + 1)) t = false) := has_take_no hlt HH.out (by omega)
          go_wp2
          go_roundw
          case rel => exact ⟨k + 1, by omega, by go_num, HC.out, HS _⟩
          case measure => simp [intOf]; omega
      · have HC : Hid (has (l.take (k + 1)) t = false) := has_take_no hlt HH.out (by omega)
        go_wp2
        go_roundw
        case rel => exact ⟨k + 1, by omega, by go_num, HC.out, HS _⟩
        case measure => simp [intOf]; omega
    · have hkl : k = l.length := by omega
      subst hkl
      have HC : Hid (has l t = false) := by have := HH.out; rwa [List.take_length] at this
      go_wp2
      go_ret
      exact ⟨ret_bool HC.out.symm, hb⟩

end Go.Proofs.YthgelfnflafoiaaDoor
