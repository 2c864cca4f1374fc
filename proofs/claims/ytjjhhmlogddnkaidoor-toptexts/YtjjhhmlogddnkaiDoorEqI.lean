/-
  What the library's comparison of two lists of numbers answers: are they one list?
-/
import Derived.Test.YtjjhhmlogddnkaiDoorHeldB
namespace Go.Proofs.YtjjhhmlogddnkaiDoor
open Go.RowKit

theorem take_succI (l : List Int) (k : Nat) (h : k < l.length) : l.take (k + 1) = l.take k ++ [l[k]] := List.take_succ_eq_append_getElem h

set_option maxHeartbeats 2000000 in
theorem EqualI_any (ao bo : Option Addr) (ca cb : Nat) (a b : List Int) (w : World) (hA : ZsAt w ao a) (hB : ZsAt w bo b) (hl : a.length ≤ 9223372036854775807) :
    Calls Tryd.prog 8 #[.slice ao a.length ca, .slice bo b.length cb] w fun e w' => e = .returned (.bool (decide (a = b))) ∧ Below w.heap.size w w' := by
  by_cases hlen : a.length = b.length
  · have HLN : Hid (a.length = b.length) := hlen
    rw [← hlen]
    have hne : ((a.length : Int) != (a.length : Int)) = false := by simp
    clear hlen
    go_enter Tryd.func8, Tryd.ntmps8
    go_wp2
    go_loopw [5, 13] (fun _ i wr => ∃ k : Nat, k ≤ a.length ∧ i = .int .i64 k ∧ a.take k = b.take k ∧ Below w.heap.size w wr) (fun _ i _ => a.length - (intOf i).toNat)
    case atStart => exact ⟨0, Nat.zero_le _, rfl, rfl, Below.refl _ _⟩
    case round =>
      obtain ⟨k, hk, rfl, hh, hb⟩ := hrel
      have HH : Hid (a.take k = b.take k) := hh
      clear hh
      by_cases hlt : k < a.length
      · have hlt' : k < b.length := by have := HLN.out; omega
        rcases hA.below hb with h0 | ⟨b1, o1, rfl, hb1, hc1⟩
        · subst h0; simp at hlt
        rcases hB.below hb with h0 | ⟨b2, o2, rfl, hb2, hc2⟩
        · subst h0; simp at hlt'
        have c0 := hc1 k hlt
        have d0 := hc2 k hlt'
        rw [List.getD_eq_getElem?_getD, List.getElem?_eq_getElem hlt, Option.getD_some] at c0
        rw [List.getD_eq_getElem?_getD, List.getElem?_eq_getElem hlt', Option.getD_some] at d0
        clear hc1 hc2 hA hB
        by_cases g : a[k] = b[k]
        · have HC : Hid (a.take (k + 1) = b.take (k + 1)) := by show _ = _; rw [take_succI a k hlt, take_succI b k hlt', HH.out, g]
          have e1 : (a[k] != b[k]) = false := by simpa using g
          clear g
          go_wp2
          go_quiet (fail)
          go_wp2
          go_roundw
          case rel => exact ⟨k + 1, by omega, by go_num, HC.out, below_drewN hb _⟩
          case measure => simp [intOf]; omega
        · have HC : Hid (decide (a = b) = false) := by
            show _ = _
            rw [decide_eq_false_iff_not]
            intro h; subst h; exact g rfl
          have e1 : (a[k] != b[k]) = true := by simpa using g
          clear g
          go_wp2
          go_quiet (fail)
          go_wp2
          go_ret
          exact ⟨retp_bool HC.out.symm, below_drewN hb _⟩
      · have hkl : k = a.length := by omega
        have HC : Hid (decide (a = b) = true) := by
          show _ = _
          have := HH.out
          rw [hkl, List.take_length, HLN.out, List.take_length] at this
          rw [this]; simp
        go_wp2
        go_ret
        exact ⟨retp_bool HC.out.symm, hb⟩
  · have hne : ((a.length : Int) != (b.length : Int)) = true := by simp; omega
    have HC : Hid (decide (a = b) = false) := by
      show _ = _
      rw [decide_eq_false_iff_not]
      intro h; subst h; exact hlen rfl
    clear hlen
    go_enter Tryd.func8, Tryd.ntmps8
    go_wp2
    go_ret
    exact ⟨retp_bool HC.out.symm, Below.refl _ _⟩

end Go.Proofs.YtjjhhmlogddnkaiDoor
