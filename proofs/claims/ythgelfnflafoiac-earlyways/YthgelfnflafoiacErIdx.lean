/-
  What the library's Index and Contains answer of a list of numbers.
-/
import Derived.Test.YthgelfnflafoiacPk1
namespace Go.Proofs.Ythgelfnflafoiac
open Go.RowKit

/-- which one of a list it is: -1 if it is none -/
def intIx (h : Int) (l : List Int) (r : Int) : Prop := (h ∈ l ∧ 0 ≤ r) ∨ (h ∉ l ∧ r < 0)
set_option maxHeartbeats 1000000 in
theorem IndexInt_any (ao : Option Addr) (ca : Nat) (l : List Int) (h : Int) (w : World) (hA : ZsAt w ao l) (hl : l.length ≤ 9223372036854775807) :
    Calls Try.prog 43 #[.slice ao l.length ca, .int .i64 h] w fun e w' => (∃ r, e = .returned (.int .i64 r) ∧ intIx h l r) ∧ Below w.heap.size w w' := by
  go_enter Try.func43, Try.ntmps43
  go_wp2
  go_loopw [5, 8] (fun _ i wr => ∃ k : Nat, k ≤ l.length ∧ i = .int .i64 k ∧ h ∉ l.take k ∧ Below w.heap.size w wr) (fun _ i _ => l.length - (intOf i).toNat)
  case atStart => exact ⟨0, Nat.zero_le _, rfl, by simp, Below.refl _ _⟩
  case round =>
    obtain ⟨k, hk, rfl, hh, hb⟩ := hrel
    have HH := hideg hh
    clear hh
    by_cases hlt : k < l.length
    · have hki : (k : Int) < (l.length : Int) := by omega
      rcases hA.below hb with h0 | ⟨b, off, rfl, hbr, hc⟩
      · subst h0; simp at hlt
      have c0 := hc k hlt
      rw [List.getD_eq_getElem?_getD, List.getElem?_eq_getElem hlt, Option.getD_some] at c0
      clear hc hA
      by_cases g : h = l[k]
      · have HC : Hid (h ∈ l) := by show h ∈ l; rw [g]; exact List.getElem_mem hlt
        have e1 : (h == l[k]) = true := by simpa using g
        generalize l[k] = y at *
        clear g
        go_wp2
        go_ret
        exact ⟨⟨_, rfl, .inl ⟨HC.out, by omega⟩⟩, hb⟩
      · have HC : Hid (h ∉ l.take (k + 1)) := by
          show h ∉ _
          rw [List.take_succ_eq_append_getElem hlt, List.mem_append, List.mem_singleton]
          rintro (h' | h')
          · exact HH.out h'
          · exact g h'
        have e1 : (h == l[k]) = false := by simpa using g
        generalize l[k] = y at *
        clear g
        go_wp2
        go_roundw
        case rel => exact ⟨k + 1, by omega, by go_num, HC.out, hb⟩
        case measure => simp [intOf]; omega
    · have hkl : k = l.length := by omega
      have HC : Hid (h ∉ l) := by have := HH.out; rwa [hkl, List.take_length] at this
      subst hkl
      go_wp2
      go_ret
      exact ⟨⟨_, rfl, .inr ⟨HC.out, by omega⟩⟩, hb⟩

set_option maxHeartbeats 1000000 in
theorem ContainsInt_any (ao : Option Addr) (ca : Nat) (l : List Int) (h : Int) (w : World) (hA : ZsAt w ao l) (hl : l.length ≤ 9223372036854775807) :
    Calls Try.prog 20 #[.slice ao l.length ca, .int .i64 h] w fun e w' => e = .returned (.bool (decide (h ∈ l))) ∧ Below w.heap.size w w' := by
  have h1 := IndexInt_any ao ca l h w hA hl
  go_enter Try.func20, Try.ntmps20
  go_wp2_with fail
  refine h1.mono ?_
  rintro e w1 ⟨⟨r, rfl, hr⟩, hb1⟩
  clear h1
  rcases hr with ⟨k1, k2⟩ | ⟨k1, k2⟩
  · have HD : Hid (decide (h ∈ l) = true) := by show _ = _; simpa using k1
    have d : decide (0 ≤ r) = true := by simpa using k2
    clear k1 k2
    go_wp2
    go_ret
    exact ⟨by rw [HD.out]; rfl, hb1⟩
  · have HD : Hid (decide (h ∈ l) = false) := by show _ = _; simpa using k1
    have d : decide (0 ≤ r) = false := by simpa using k2
    clear k1 k2
    go_wp2
    go_ret
    exact ⟨by rw [HD.out]; rfl, hb1⟩

end Go.Proofs.Ythgelfnflafoiac
