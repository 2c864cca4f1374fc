/-
  What the library's comparison of two lists of hops answers: are they one list?
-/
import Derived.Test.YtjjhhmlogddnkaiDoorPk1
import Derived.Laws.StructEq
namespace Go.Proofs.YtjjhhmlogddnkaiDoor
open Go.RowKit

theorem neq_hop (x y : Int × Int) (w : World) : (binOp .neq 43 (.agg #[.int .i64 x.1, .int .i64 x.2]) (.agg #[.int .i64 y.1, .int .i64 y.2])).run Tryd.prog w = .ok (.bool (!(x.1 == y.1 && x.2 == y.2))) w := by
  have u3 := Tryd.underlying3
  have a3 := Tryd.isAgg3
  have z3 := Tryd.sizeOf3
  have hS : Tryd.prog.underlying 43 = some (.struct (Tryd.prog.fieldsOf 43)) := by kernel_rfl
  have hp : Tryd.prog.stoodInHeld 43 = false := by kernel_rfl
  rw [run_neq_struct, show (10000 : Nat) = 9999 + 1 from rfl, run_equalIn_agg w 9999 43 _ _ hS hp]
  simp only [Program.fieldsOf, Tryd.underlying43]
  go_simp
  by_cases h1 : x.fst = y.fst <;> by_cases h2 : x.snd = y.snd <;> simp [h1, h2]

set_option maxHeartbeats 2000000 in
theorem EqualHop_any (ao bo : Option Addr) (ca cb : Nat) (a b : List (Int × Int)) (w : World) (hA : IvAt w ao a) (hB : IvAt w bo b) (hl : a.length ≤ 9223372036854775807) :
    Calls Tryd.prog 12 #[.slice ao a.length ca, .slice bo b.length cb] w fun e w' => e = .returned (.bool (decide (a = b))) ∧ Below w.heap.size w w' := by
  by_cases hlen : a.length = b.length
  · have hm : Tryd.prog.eqGuardType Tryd.prog.depth 43 = false := by kernel_rfl
    have HLN : Hid (a.length = b.length) := hlen
    rw [← hlen]
    have hne : ((a.length : Int) != (a.length : Int)) = false := by simp
    clear hlen
    go_enter Tryd.func12, Tryd.ntmps12
    go_wp2
    go_loopw [5, 13] (fun _ i wr => ∃ k : Nat, k ≤ a.length ∧ i = .int .i64 k ∧ a.take k = b.take k ∧ Below w.heap.size w wr) (fun _ i _ => a.length - (intOf i).toNat)
    case atStart => exact ⟨0, Nat.zero_le _, rfl, rfl, Below.refl _ _⟩
    case round =>
      obtain ⟨k, hk, rfl, hh, hb⟩ := hrel
      have HH : Hid (a.take k = b.take k) := hh
      clear hh
      by_cases hlt : k < a.length
      · have hlt' : k < b.length := by have := HLN.out; omega
        rcases hA.below hb with h0 | ⟨b1, o1, rfl, hb1, hc1⟩
        · subst h0; simp at hlt
        rcases hB.below hb with h0 | ⟨b2, o2, rfl, hb2, hc2⟩
        · subst h0; simp at hlt'
        obtain ⟨c0, c1⟩ := hc1 k hlt
        obtain ⟨d0, d1⟩ := hc2 k hlt'
        have nq := neq_hop a[k] b[k]
        clear hc1 hc2 hA hB
        by_cases g : a[k] = b[k]
        · have e1 : (a[k].1 == b[k].1) = true := by rw [g]; simp
          have e2 : (a[k].2 == b[k].2) = true := by rw [g]; simp
          have HC : Hid (a.take (k + 1) = b.take (k + 1)) := by show _ = _; rw [take_succ_get a k hlt, take_succ_get b k hlt', HH.out, g]
          rw [e1, e2] at nq
          clear g e1 e2
          go_wp2
          go_quiet (fail)
          go_wp2
          go_roundw
          case rel => exact ⟨k + 1, by omega, by go_num, HC.out, below_drewN hb _⟩
          case measure => simp [intOf]; omega
        · have e1 : (a[k].1 == b[k].1 && a[k].2 == b[k].2) = false := by
            rw [Bool.and_eq_false_iff]
            by_cases h : a[k].1 = b[k].1
            · right; rw [beq_eq_false_iff_ne]; exact fun h' => g (Prod.ext h h')
            · left; rw [beq_eq_false_iff_ne]; exact h
          have HC : Hid (decide (a = b) = false) := by
            show _ = _
            rw [decide_eq_false_iff_not]
            intro h; subst h; exact g rfl
          rw [e1] at nq
          clear g e1
          go_wp2
          go_quiet (fail)
          go_wp2
          go_ret
          exact ⟨ret_bool HC.out.symm, below_drewN hb _⟩
      · have hkl : k = a.length := by omega
        have HC : Hid (decide (a = b) = true) := by
          show _ = _
          have := HH.out
          rw [hkl, List.take_length, HLN.out, List.take_length] at this
          rw [this]; simp
        go_wp2
        go_ret
        exact ⟨ret_bool HC.out.symm, hb⟩
  · have hne : ((a.length : Int) != (b.length : Int)) = true := by simp; omega
    have HC : Hid (decide (a = b) = false) := by
      show _ = _
      rw [decide_eq_false_iff_not]
      intro h; subst h; exact hlen rfl
    clear hlen
    go_enter Tryd.func12, Tryd.ntmps12
    go_wp2
    go_ret
    exact ⟨ret_bool HC.out.symm, Below.refl _ _⟩

end Go.Proofs.YtjjhhmlogddnkaiDoor
