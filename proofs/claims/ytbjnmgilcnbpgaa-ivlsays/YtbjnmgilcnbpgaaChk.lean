/-
  What checkBounds and Check of the program answer, for every list.
-/
import Derived.Test.YtbjnmgilcnbpgaaBase
import Derived.Deep.QuietTactic
import Derived.BigQuiet
namespace Go.Proofs.Ytbjnmgilcnbpgaa
open Go.RowKit

theorem ret_int {k : IntKind} {a b : Int} (h : a = b) : Ending.returned (.int k a) = .returned (.int k b) := by rw [h]

set_option maxHeartbeats 400000 in
theorem checkBounds_any (ao : Option Addr) (cap : Nat) (l : List (Int × Int)) (w : World) (hl : IvAt w ao l) :
    Calls Try.prog 18 #[.slice ao l.length cap] w fun e w' => e = .returned (.int .i64 (cbs l)) ∧ Below w.heap.size w w' := by
  by_cases h2 : 200 < l.length
  · have HC : Hid (cbs l = 2) := cbs_large h2
    go_enter Try.func18, Try.ntmps18
    go_wp2
    go_ret
    exact ⟨ret_int HC.out.symm, Below.refl _ _⟩
  · have h3 : l.length ≤ 200 := by omega
    go_enter Try.func18, Try.ntmps18
    go_wp2
    go_loopw [10] (fun i wr => ∃ k : Nat, k ≤ l.length ∧ i = .int .i64 k ∧ Near l k ∧ Below w.heap.size w wr) (fun i _ => l.length - (intOf i).toNat)
    case atStart => exact ⟨0, Nat.zero_le _, rfl, fun i hi => absurd hi (Nat.not_lt_zero _), Below.refl _ _⟩
    case round =>
      obtain ⟨k, hk, rfl, hn, hb⟩ := hrel
      by_cases hlt : k < l.length
      · rcases hl.below hb with h0 | ⟨b, off, rfl, hbw, hc⟩
        · subst h0; simp at hlt
        obtain ⟨c0, c1⟩ := hc k hlt
        have HN : Hid (Near l k) := hn
        have HS : ∀ o, Below w.heap.size w (wr.alloc o) := fun o => hb.alloc hb.size o
        clear hc hn hbw hl
        go_wp2
        all_goals first
          | (go_ret; exact ⟨ret_int (cbs_no (k := k) h3 hlt (by simp only [List.getD_eq_getElem?_getD, List.getElem?_eq_getElem hlt, Option.getD_some, nearB]; omega)).symm, HS _⟩)
          | (go_roundw
             case rel => exact ⟨k + 1, by omega, by go_num, near_succ HN.out (by simp only [List.getD_eq_getElem?_getD, List.getElem?_eq_getElem hlt, Option.getD_some, nearB]; omega) (by simp only [List.getD_eq_getElem?_getD, List.getElem?_eq_getElem hlt, Option.getD_some, nearB]; omega), HS _⟩
             case measure => simp [intOf]; omega)
      · have hkl : k = l.length := by omega
        subst hkl
        have HC : Hid (cbs l = 0) := cbs_ok h3 hn
        clear hn
        go_wp2
        go_ret
        exact ⟨ret_int HC.out.symm, hb⟩

set_option maxHeartbeats 1000000 in
theorem check_any (ao : Option Addr) (cap : Nat) (l : List (Int × Int)) (w : World) (hl : IvAt w ao l) :
    Calls Try.prog 9 #[.slice ao l.length cap] w fun e w' => e = .returned (.int .i64 (chk l)) ∧ Below w.heap.size w w' := by
  have hcb := checkBounds_any ao cap l w hl
  rcases cbs_cases l with ⟨e, h2⟩ | ⟨e, h3, hn⟩ | ⟨e, h3, hn⟩
  · rw [e] at hcb
    have HC : Hid (chk l = 2) := chk_large h2
    clear e hl
    go_enter Try.func9, Try.ntmps9
    go_wp2_with (go_at_call 18; refine hcb.mono ?_; rintro e w' ⟨rfl, hb⟩)
    go_ret
    exact ⟨ret_int HC.out.symm, by assumption⟩
  · rw [e] at hcb
    have HC : Hid (chk l = 5) := chk_far h3 hn
    clear e hl hn
    go_enter Try.func9, Try.ntmps9
    go_wp2_with (go_at_call 18; refine hcb.mono ?_; rintro e w' ⟨rfl, hb⟩)
    go_ret
    exact ⟨ret_int HC.out.symm, by assumption⟩
  · rw [e] at hcb
    have HN : Hid (Near l l.length) := hn
    clear e hn
    go_enter Try.func9, Try.ntmps9
    go_wp2_with (go_at_call 18; refine hcb.mono ?_; rintro e w1 ⟨rfl, hb1⟩)
    go_loopw [4, 13] (fun _ i wr => ∃ k : Nat, k ≤ l.length ∧ i = .int .i64 k ∧ Form l k ∧ Below w.heap.size w wr) (fun _ i _ => l.length - (intOf i).toNat)
    case atStart => exact ⟨0, Nat.zero_le _, rfl, fun i hi => absurd hi (Nat.not_lt_zero _), by assumption⟩
    case round =>
      obtain ⟨k, hk, rfl, hf, hb⟩ := hrel
      by_cases hlt : k < l.length
      · rcases hl.below hb with h0 | ⟨b, off, rfl, hbw, hc⟩
        · subst h0; simp at hlt
        obtain ⟨c0, c1⟩ := hc k hlt
        have HF : Hid (Form l k) := hf
        have HS : ∀ o, Below w.heap.size w (wr.alloc o) := fun o => hb.alloc hb.size o
        have hg : l.getD k (0, 0) = l[k] := by simp [List.getD_eq_getElem?_getD, List.getElem?_eq_getElem hlt]
        by_cases g1 : l[k].2 ≤ l[k].1
        · have HC : Hid (chk l = 5) := chk_no (k := k) h3 hlt (by rw [hg]; omega)
          clear hc hf hl hg
          go_wp2
          go_quiet (fail)
          go_wp2
          go_ret
          exact ⟨ret_int HC.out.symm, below_drewN (HS _) _⟩
        · have d1 : decide (l[k].2 ≤ l[k].1) = false := by simpa using g1
          by_cases hk0 : k = 0
          · subst hk0
            simp only [Nat.zero_mul, Nat.add_zero] at c0 c1
            have HG : Hid (Form l (0 + 1)) := form_succ HF.out (by rw [hg]; omega) (fun h => absurd h (Nat.lt_irrefl _))
            clear hc hf hl hg
            go_wp2
            go_quiet (fail)
            go_wp2
            go_roundw
            case rel => exact ⟨0 + 1, by omega, by go_num, HG.out, below_drewN (HS _) _⟩
            case measure => simp [intOf]; omega
          · obtain ⟨m, rfl⟩ : ∃ m, k = m + 1 := ⟨k - 1, by omega⟩
            have cp := (hc m (by omega)).2
            have hm : m < l.length := by omega
            have hgm : l.getD m (0, 0) = l[m] := by simp [List.getD_eq_getElem?_getD, List.getElem?_eq_getElem hm]
            by_cases g2 : l[m + 1].1 ≤ l[m].2
            · have HC : Hid (chk l = 5) := chk_no (k := m + 1) h3 hlt (by rw [hg, Nat.add_sub_cancel, hgm]; omega)
              clear hc hf hl hg hgm
              go_wp2
              go_quiet (fail)
              go_wp2
              go_ret
              exact ⟨ret_int HC.out.symm, below_drewN (HS _) _⟩
            · have HG : Hid (Form l (m + 1 + 1)) := form_succ HF.out (by rw [hg]; omega) (fun h => by rw [hg, Nat.add_sub_cancel, hgm]; omega)
              have d2 : decide (l[m + 1].1 ≤ l[m].2) = false := by simpa using g2
              clear hc hf hl hg hgm
              go_wp2
              go_quiet (fail)
              go_wp2
              go_roundw
              case rel => exact ⟨m + 1 + 1, by omega, by go_num, HG.out, below_drewN (HS _) _⟩
              case measure => simp [intOf]; omega
      · have hkl : k = l.length := by omega
        subst hkl
        have HC : Hid (chk l = 0) := chk_ok h3 HN.out hf
        clear hf
        go_wp2
        go_ret
        exact ⟨ret_int HC.out.symm, hb⟩

end Go.Proofs.Ytbjnmgilcnbpgaa
