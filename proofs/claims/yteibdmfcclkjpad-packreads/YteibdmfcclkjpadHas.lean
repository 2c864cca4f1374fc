/-
  What Has and Size of the program answer.
-/
import Derived.Test.YteibdmfcclkjpadPk1
namespace Go.Proofs.Yteibdmfcclkjpad
open Go.RowKit

set_option maxHeartbeats 1000000 in
theorem Has_any (ao : Option Addr) (cap : Nat) (l : List (Int × Int)) (t : Int) (w : World) (hl : IvAt w ao l) (hn : l.length ≤ 9223372036854775807) :
    Calls Try.prog 19 #[.slice ao l.length cap, .int .i64 t] w fun e w' => e = .returned (.bool (has l t)) ∧ Below w.heap.size w w' := by
  go_enter Try.func19, Try.ntmps19
  go_wp2
  go_loopw [9] (fun i wr => ∃ k : Nat, k ≤ l.length ∧ i = .int .i64 k ∧ has (l.take k) t = false ∧ Below w.heap.size w wr) (fun i _ => l.length - (intOf i).toNat)
  case atStart => exact ⟨0, Nat.zero_le _, rfl, rfl, Below.refl _ _⟩
  case round =>
    obtain ⟨k, hk, rfl, hh, hb⟩ := hrel
    have HH : Hid (has (l.take k) t = false) := hh
    clear hh
    by_cases hlt : k < l.length
    · rcases hl.below hb with h0 | ⟨b, off, rfl, hbw, hc⟩
      · subst h0; simp at hlt
      obtain ⟨c0, c1⟩ := hc k hlt
      have HS : ∀ o, Below w.heap.size w (wr.alloc o) := fun o => hb.alloc hb.size o
      clear hc hl
      by_cases g1 : l[k].1 ≤ t
      · by_cases g2 : t < l[k].2
        · have HC : Hid (has l t = true) := has_take_yes hlt g1 g2
          go_wp2
          go_ret
          exact ⟨ret_bool HC.out.symm, HS _⟩
        · have HC : Hid (has (l.take (k + 1)) t = false) := has_take_no hlt HH.out (by omega)
          go_wp2
          go_roundw
          case rel => exact ⟨k + 1, by omega, by go_num, HC.out, HS _⟩
          case measure => simp [intOf]; omega
      · have HC : Hid (has (l.take (k + 1)) t = false) := has_take_no hlt HH.out (by omega)
        go_wp2
        go_roundw
        case rel => exact ⟨k + 1, by omega, by go_num, HC.out, HS _⟩
        case measure => simp [intOf]; omega
    · have hkl : k = l.length := by omega
      subst hkl
      have HC : Hid (has l t = false) := by have := HH.out; rwa [List.take_length] at this
      go_wp2
      go_ret
      exact ⟨ret_bool HC.out.symm, hb⟩

set_option maxHeartbeats 1000000 in
theorem Size_any (ao : Option Addr) (cap : Nat) (l : List (Int × Int)) (w : World) (hl : IvAt w ao l) :
    Calls Try.prog 18 #[.slice ao l.length cap] w fun e w' => e = .returned (.tuple #[.int .i64 (if chk l = 0 then size l else 0), .int .i64 (chk l)]) ∧ Below w.heap.size w w' := by
  have h1 := check_any ao cap l w hl
  rcases chk_cases l with e1 | e1 | ⟨e1, la, na, fa⟩
  · rw [e1] at h1 ⊢
    clear e1
    go_enter Try.func18, Try.ntmps18
    go_wp2_with (go_at_call 47; refine h1.mono ?_; rintro e w1 ⟨rfl, hb1⟩)
    go_ret2
    exact ⟨rfl, by assumption⟩
  · rw [e1] at h1 ⊢
    clear e1
    go_enter Try.func18, Try.ntmps18
    go_wp2_with (go_at_call 47; refine h1.mono ?_; rintro e w1 ⟨rfl, hb1⟩)
    go_ret2
    exact ⟨rfl, by assumption⟩
  rw [e1] at h1 ⊢
  have HN : Hid (Near l l.length) := na
  clear e1 fa na
  go_enter Try.func18, Try.ntmps18
  go_wp2_with (go_at_call 47; refine h1.mono ?_; rintro e w1 ⟨rfl, hb1⟩)
  go_loopw [5, 15] (fun n i wr => ∃ k : Nat, k ≤ l.length ∧ i = .int .i64 k ∧ n = .int .i64 (size (l.take k)) ∧ Below w.heap.size w wr) (fun _ i _ => l.length - (intOf i).toNat)
  case atStart => exact ⟨0, Nat.zero_le _, rfl, rfl, by assumption⟩
  case round =>
    obtain ⟨k, hk, rfl, rfl, hb⟩ := hrel
    have bd := size_take_bd HN.out k hk
    by_cases hlt : k < l.length
    · rcases hl.below hb with h0 | ⟨b, off, rfl, hbw, hc⟩
      · subst h0; simp at hlt
      obtain ⟨c0, c1⟩ := hc k hlt
      have HS : ∀ o, Below w.heap.size w (wr.alloc o) := fun o => hb.alloc hb.size o
      have hnk := HN.out k hlt
      rw [List.getD_eq_getElem?_getD, List.getElem?_eq_getElem hlt] at hnk
      simp only [Option.getD_some, nearB] at hnk
      have HZ : Hid (size (l.take (k + 1)) = size (l.take k) + (l[k].2 - l[k].1)) := size_take_succ hlt
      clear hc hl
      generalize hs : size (l.take k) = s at *
      have HS2 : Hid (size (l.take k) = s) := hs
      clear hs
      go_wp2
      go_roundw
      case rel => exact ⟨k + 1, by omega, by go_num, by rw [HZ.out], HS _⟩
      case measure => simp [intOf]; omega
    · have hkl : k = l.length := by omega
      subst hkl
      rw [List.take_length] at *
      go_wp2
      go_ret2
      exact ⟨by simp, hb⟩

end Go.Proofs.Yteibdmfcclkjpad
