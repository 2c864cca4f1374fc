/-
  What checkBounds and Check of the program answer, for every list.
-/
import Derived.Test.YtjlnokjaabcldahBase
import Derived.Deep.QuietTactic
import Derived.BigQuiet
namespace Go.Proofs.Ytjlnokjaabcldah
open Go.RowKit

theorem ret_bool {a b : Bool} (h : a = b) : Ending.returned (.bool a) = .returned (.bool b) := by rw [h]
theorem ret_int {k : IntKind} {a b : Int} (h : a = b) : Ending.returned (.int k a) = .returned (.int k b) := by rw [h]

/-- is a number near? -/
def nrB (x : Int) : Bool := decide (-1000000000 ≤ x) && decide (x ≤ 1000000000)
theorem nrB_iff (x : Int) : nrB x = true ↔ nearB x := by unfold nrB nearB; simp only [Bool.and_eq_true, decide_eq_true_eq]
theorem nrB_all_no {l : List Int} {k : Nat} (hk : k < l.length) (h : ¬ nearB l[k]) : l.all nrB = false := by
  rw [← Bool.not_eq_true, List.all_eq_true]
  intro hh
  exact h ((nrB_iff _).1 (hh l[k] (List.getElem_mem hk)))
theorem nrB_take_succ {l : List Int} {k : Nat} (hk : k < l.length) (h0 : (l.take k).all nrB = true) (h : nearB l[k]) : (l.take (k + 1)).all nrB = true := by
  rw [take_succ_get l k hk, List.all_append, h0]
  simp [(nrB_iff _).2 h]

set_option maxHeartbeats 400000 in
/-- Near of the program: are all these numbers near? -/
theorem Near_any (ao : Option Addr) (cap : Nat) (l : List Int) (w : World) (hl : ZsAt w ao l) (hn : l.length ≤ 9223372036854775807) :
    Calls Try.prog 49 #[.slice ao l.length cap] w fun e w' => e = .returned (.bool (l.all nrB)) ∧ w' = w := by
  go_enter Try.func49, Try.ntmps49
  go_wp2
  go_loop [7] (fun i => ∃ k : Nat, k ≤ l.length ∧ i = .int .i64 k ∧ (l.take k).all nrB = true) (fun i => l.length - (intOf i).toNat)
  case atStart => exact ⟨0, Nat.zero_le _, rfl, rfl⟩
  case round =>
    obtain ⟨k, hk, rfl, hh⟩ := hrel
    have HH : Hid ((l.take k).all nrB = true) := hh
    clear hh
    by_cases hlt : k < l.length
    · rcases hl with h0 | ⟨b, off, rfl, hbw, hc⟩
      · subst h0; simp at hlt
      have c0 := hc k hlt
      have hg : l.getD k 0 = l[k] := by simp [List.getD_eq_getElem?_getD, List.getElem?_eq_getElem hlt]
      rw [hg] at c0
      clear hc hg
      by_cases g1 : l[k] < -1000000000
      · have HC : Hid (l.all nrB = false) := nrB_all_no hlt (by unfold nearB; omega)
        go_wp2
        go_ret
        exact ⟨ret_bool HC.out.symm, rfl⟩
      · by_cases g2 : l[k] > 1000000000
        · have HC : Hid (l.all nrB = false) := nrB_all_no hlt (by unfold nearB; omega)
          go_wp2
          go_ret
          exact ⟨ret_bool HC.out.symm, rfl⟩
        · have HC : Hid ((l.take (k + 1)).all nrB = true) := nrB_take_succ hlt HH.out (by unfold nearB; omega)
          go_wp2
          go_round
          case rel => exact ⟨k + 1, by omega, by go_num, HC.out⟩
          case measure => simp [intOf]; omega
    · have hkl : k = l.length := by omega
      subst hkl
      have HC : Hid (l.all nrB = true) := by have := HH.out; rwa [List.take_length] at this
      go_wp2
      go_ret
      exact ⟨ret_bool HC.out.symm, rfl⟩

theorem Near_two (B : Nat) (x y : Int) (w : World) (hB : B < w.heap.size) (c0 : w.cell? ⟨B, 0, none⟩ = some (.int .i64 x)) (c1 : w.cell? ⟨B, 1, none⟩ = some (.int .i64 y)) :
    Calls Try.prog 49 #[.slice (some ⟨B, 0, none⟩) 2 2] w fun e w' => e = .returned (.bool (nrB x && nrB y)) ∧ w' = w := by
  have h := Near_any (some ⟨B, 0, none⟩) 2 [x, y] w (.inr ⟨B, 0, rfl, hB, fun j hj => by
    match j, hj with
    | 0, _ => exact c0
    | 1, _ => exact c1⟩) (by simp)
  simpa using h

set_option maxHeartbeats 400000 in
theorem checkBounds_any (ao : Option Addr) (cap : Nat) (l : List (Int × Int)) (w : World) (hl : IvAt w ao l) :
    Calls Try.prog 29 #[.slice ao l.length cap] w fun e w' => e = .returned (.int .i64 (cbs l)) ∧ Below w.heap.size w w' := by
  by_cases h2 : 200 < l.length
  · have HC : Hid (cbs l = 2) := cbs_large h2
    go_enter Try.func29, Try.ntmps29
    go_wp2
    go_ret
    exact ⟨ret_int HC.out.symm, Below.refl _ _⟩
  · have h3 : l.length ≤ 200 := by omega
    go_enter Try.func29, Try.ntmps29
    go_wp2
    go_loopw [10] (fun i wr => ∃ k : Nat, k ≤ l.length ∧ i = .int .i64 k ∧ Near l k ∧ Below w.heap.size w wr) (fun i _ => l.length - (intOf i).toNat)
    case atStart => exact ⟨0, Nat.zero_le _, rfl, fun i hi => absurd hi (Nat.not_lt_zero _), Below.refl _ _⟩
    case round =>
      obtain ⟨k, hk, rfl, hn, hb⟩ := hrel
      by_cases hlt : k < l.length
      · rcases hl.below hb with h0 | ⟨b, off, rfl, hbw, hc⟩
        · subst h0; simp at hlt
        obtain ⟨c0, c1⟩ := hc k hlt
        have HN : Hid (Near l k) := hn
        have HS : ∀ o o', Below w.heap.size w ((wr.alloc o).alloc o') := fun o o' => (hb.alloc hb.size o).alloc (by have := hb.size; simp; omega) o'
        have hg : l.getD k (0, 0) = l[k] := by simp [List.getD_eq_getElem?_getD, List.getElem?_eq_getElem hlt]
        rw [hg] at c0 c1
        have HG : Hid (l.getD k (0, 0) = l[k]) := hg
        clear hc hn hbw hl hg
        go_wp2_with fail
        refine (Near_two (wr.heap.size + 1) l[k].1 l[k].2 _ (by simp) (by simp) (by simp)).mono ?_
        rintro e w1 ⟨rfl, rfl⟩
        by_cases g1 : nearB l[k].1 ∧ nearB l[k].2
        · have HC : Hid (Near l (k + 1)) := near_succ HN.out (by rw [HG.out]; exact g1.1) (by rw [HG.out]; exact g1.2)
          have e1 := (nrB_iff _).2 g1.1
          have e2 := (nrB_iff _).2 g1.2
          rw [e1, e2]
          clear g1 e1 e2
          go_wp2
          go_roundw
          case rel => exact ⟨k + 1, by omega, by go_num, HC.out, HS _ _⟩
          case measure => simp [intOf]; omega
        · have HC : Hid (cbs l = 5) := cbs_no (k := k) h3 hlt (by rw [HG.out]; exact g1)
          have e1 : (nrB l[k].1 && nrB l[k].2) = false := by
            rw [← Bool.not_eq_true, Bool.and_eq_true, nrB_iff, nrB_iff]; exact g1
          rw [e1]
          clear g1 e1
          go_wp2
          go_ret
          exact ⟨ret_int HC.out.symm, HS _ _⟩
      · have hkl : k = l.length := by omega
        subst hkl
        have HC : Hid (cbs l = 0) := cbs_ok h3 hn
        clear hn
        go_wp2
        go_ret
        exact ⟨ret_int HC.out.symm, hb⟩

set_option maxHeartbeats 1000000 in
theorem check_any (ao : Option Addr) (cap : Nat) (l : List (Int × Int)) (w : World) (hl : IvAt w ao l) :
    Calls Try.prog 45 #[.slice ao l.length cap] w fun e w' => e = .returned (.int .i64 (chk l)) ∧ Below w.heap.size w w' := by
  have hcb := checkBounds_any ao cap l w hl
  rcases cbs_cases l with ⟨e, h2⟩ | ⟨e, h3, hn⟩ | ⟨e, h3, hn⟩
  · rw [e] at hcb
    have HC : Hid (chk l = 2) := chk_large h2
    clear e hl
    go_enter Try.func45, Try.ntmps45
    go_wp2_with (go_at_call 29; refine hcb.mono ?_; rintro e w' ⟨rfl, hb⟩)
    go_ret
    exact ⟨ret_int HC.out.symm, by assumption⟩
  · rw [e] at hcb
    have HC : Hid (chk l = 5) := chk_far h3 hn
    clear e hl hn
    go_enter Try.func45, Try.ntmps45
    go_wp2_with (go_at_call 29; refine hcb.mono ?_; rintro e w' ⟨rfl, hb⟩)
    go_ret
    exact ⟨ret_int HC.out.symm, by assumption⟩
  · rw [e] at hcb
    have HN : Hid (Near l l.length) := hn
    clear e hn
    go_enter Try.func45, Try.ntmps45
    go_wp2_with (go_at_call 29; refine hcb.mono ?_; rintro e w1 ⟨rfl, hb1⟩)
    go_loopw [4, 13] (fun _ i wr => ∃ k : Nat, k ≤ l.length ∧ i = .int .i64 k ∧ Form l k ∧ Below w.heap.size w wr) (fun _ i _ => l.length - (intOf i).toNat)
    case atStart => exact ⟨0, Nat.zero_le _, rfl, fun i hi => absurd hi (Nat.not_lt_zero _), by assumption⟩
    case round =>
      obtain ⟨k, hk, rfl, hf, hb⟩ := hrel
      by_cases hlt : k < l.length
      · rcases hl.below hb with h0 | ⟨b, off, rfl, hbw, hc⟩
        · subst h0; simp at hlt
        obtain ⟨c0, c1⟩ := hc k hlt
        have HF : Hid (Form l k) := hf
        have HS : ∀ o, Below w.heap.size w (wr.alloc o) := fun o => hb.alloc hb.size o
        have hg : l.getD k (0, 0) = l[k] := by simp [List.getD_eq_getElem?_getD, List.getElem?_eq_getElem hlt]
        by_cases g1 : l[k].2 ≤ l[k].1
        · have HC : Hid (chk l = 5) := chk_no (k := k) h3 hlt (by rw [hg]; omega)
          clear hc hf hl hg
          go_wp2
          go_quiet (fail)
          go_wp2
          go_ret
          exact ⟨ret_int HC.out.symm, below_drewN (HS _) _⟩
        · have d1 : decide (l[k].2 ≤ l[k].1) = false := by simpa using g1
          by_cases hk0 : k = 0
          · subst hk0
            simp only [Nat.zero_mul, Nat.add_zero] at c0 c1
            have HG : Hid (Form l (0 + 1)) := form_succ HF.out (by rw [hg]; omega) (fun h => absurd h (Nat.lt_irrefl _))
            clear hc hf hl hg
            go_wp2
            go_quiet (fail)
            go_wp2
            go_roundw
            case rel => exact ⟨0 + 1, by omega, by go_num, HG.out, below_drewN (HS _) _⟩
            case measure => simp [intOf]; omega
          · obtain ⟨m, rfl⟩ : ∃ m, k = m + 1 := ⟨k - 1, by omega⟩
            have cp := (hc m (by omega)).2
            have hm : m < l.length := by omega
            have hgm : l.getD m (0, 0) = l[m] := by simp [List.getD_eq_getElem?_getD, List.getElem?_eq_getElem hm]
            by_cases g2 : l[m + 1].1 ≤ l[m].2
            · have HC : Hid (chk l = 5) := chk_no (k := m + 1) h3 hlt (by rw [hg, Nat.add_sub_cancel, hgm]; omega)
              clear hc hf hl hg hgm
              go_wp2
              go_quiet (fail)
              go_wp2
              go_ret
              exact ⟨ret_int HC.out.symm, below_drewN (HS _) _⟩
            · have HG : Hid (Form l (m + 1 + 1)) := form_succ HF.out (by rw [hg]; omega) (fun h => by rw [hg, Nat.add_sub_cancel, hgm]; omega)
              have d2 : decide (l[m + 1].1 ≤ l[m].2) = false := by simpa using g2
              clear hc hf hl hg hgm
              go_wp2
              go_quiet (fail)
              go_wp2
              go_roundw
              case rel => exact ⟨m + 1 + 1, by omega, by go_num, HG.out, below_drewN (HS _) _⟩
              case measure => simp [intOf]; omega
      · have hkl : k = l.length := by omega
        subst hkl
        have HC : Hid (chk l = 0) := chk_ok h3 HN.out hf
        clear hf
        go_wp2
        go_ret
        exact ⟨ret_int HC.out.symm, hb⟩

end Go.Proofs.Ytjlnokjaabcldah
