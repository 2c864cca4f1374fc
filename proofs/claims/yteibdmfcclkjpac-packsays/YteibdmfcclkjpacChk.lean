/-
  What checkBounds and Check of the program answer, for every list.
-/
import Derived.Test.YteibdmfcclkjpacBase
import Derived.Deep.QuietTactic
import Derived.BigQuiet
namespace Go.Proofs.Yteibdmfcclkjpac
open Go.RowKit

theorem ret_bool {a b : Bool} (h : a = b) : Ending.returned (.bool a) = .returned (.bool b) := by rw [h]
theorem ret_int {k : IntKind} {a b : Int} (h : a = b) : Ending.returned (.int k a) = .returned (.int k b) := by rw [h]

/-- is a number near? -/
def nrB (x : Int) : Bool := decide (-1000000000 ≤ x) && decide (x ≤ 1000000000)
theorem nrB_iff (x : Int) : nrB x = true ↔ nearB x := by unfold nrB nearB; simp only [Bool.and_eq_true, decide_eq_true_eq]
theorem nrB_all_no {l : List Int} {k : Nat} (hk : k < l.length) (h : ¬ nearB l[k]) : l.all nrB = false := by
  rw [← Bool.not_eq_true, List.all_eq_true]
  intro hh
  exact h ((nrB_iff _).1 (hh l[k] (List.getElem_mem hk)))
theorem nrB_take_succ {l : List Int} {k : Nat} (hk : k < l.length) (h0 : (l.take k).all nrB = true) (h : nearB l[k]) : (l.take (k + 1)).all nrB = true := by
  rw [take_succ_get l k hk, List.all_append, h0]
  simp [(nrB_iff _).2 h]

set_option maxHeartbeats 400000 in
/-- Near of the program: are all these numbers near? -/
theorem Near_any (ao : Option Addr) (cap : Nat) (l : List Int) (w : World) (hl : ZsAt w ao l) (hn : l.length ≤ 9223372036854775807) :
    Calls Try.prog 101 #[.slice ao l.length cap] w fun e w' => e = .returned (.bool (l.all nrB)) ∧ w' = w := by
  go_enter Try.func101, Try.ntmps101
  go_wp2
  go_loop [7] (fun i => ∃ k : Nat, k ≤ l.length ∧ i = .int .i64 k ∧ (l.take k).all nrB = true) (fun i => l.length - (intOf i).toNat)
  case atStart => exact ⟨0, Nat.zero_le _, rfl, rfl⟩
  case round =>
    obtain ⟨k, hk, rfl, hh⟩ := hrel
    have HH : Hid ((l.take k).all nrB = true) := hh
    clear hh
    by_cases hlt : k < l.length
    · rcases hl with h0 | ⟨b, off, rfl, hbw, hc⟩
      · subst h0; simp at hlt
      have c0 := hc k hlt
      have hg : l.getD k 0 = l[k] := by simp [List.getD_eq_getElem?_getD, List.getElem?_eq_getElem hlt]
      rw [hg] at c0
      clear hc hg
      by_cases g1 : l[k] < -1000000000
      · have HC : Hid (l.all nrB = false) := nrB_all_no hlt (by unfold nearB; omega)
        go_wp2
        go_ret
        exact ⟨ret_bool HC.out.symm, rfl⟩
      · by_cases g2 : l[k] > 1000000000
        · have HC : Hid (l.all nrB = false) := nrB_all_no hlt (by unfold nearB; omega)
          go_wp2
          go_ret
          exact ⟨ret_bool HC.out.symm, rfl⟩
        · have HC : Hid ((l.take (k + 1)).all nrB = true) := nrB_take_succ hlt HH.out (by unfold nearB; omega)
          go_wp2
          go_round
          case rel => exact ⟨k + 1, by omega, by go_num, HC.out⟩
          case measure => simp [intOf]; omega
    · have hkl : k = l.length := by omega
      subst hkl
      have HC : Hid (l.all nrB = true) := by have := HH.out; rwa [List.take_length] at this
      go_wp2
      go_ret
      exact ⟨ret_bool HC.out.symm, rfl⟩

theorem Near_two (B : Nat) (x y : Int) (w : World) (hB : B < w.heap.size) (c0 : w.cell? ⟨B, 0, none⟩ = some (.int .i64 x)) (c1 : w.cell? ⟨B, 1, none⟩ = some (.int .i64 y)) :
    Calls Try.prog 101 #[.slice (some ⟨B, 0, none⟩) 2 2] w fun e w' => e = .returned (.bool (nrB x && nrB y)) ∧ w' = w := by
  have h := Near_any (some ⟨B, 0, none⟩) 2 [x, y] w (.inr ⟨B, 0, rfl, hB, fun j hj => by
    match j, hj with
    | 0, _ => exact c0
    | 1, _ => exact c1⟩) (by simp)
  simpa using h

end Go.Proofs.Yteibdmfcclkjpac
