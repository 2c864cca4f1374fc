/-
  What the library's comparison of two lists of cells answers: are they one list?
-/
import Derived.Test.YtjlnokjaabcldaeWpB
import Derived.Laws.StructEq
namespace Go.Proofs.Ytjlnokjaabcldae
open Go.RowKit

theorem neq_ce (x y : Cl) (w : World) : (binOp .neq 58 (.agg #[.int .i64 x.1, .int .i64 x.2.1, .int .i64 x.2.2.1, .bool x.2.2.2.1, .int .i64 x.2.2.2.2]) (.agg #[.int .i64 y.1, .int .i64 y.2.1, .int .i64 y.2.2.1, .bool y.2.2.2.1, .int .i64 y.2.2.2.2])).run Try.prog w = .ok (.bool (!decide (x = y))) w := by
  have u3 := Try.underlying3
  have a3 := Try.isAgg3
  have z3 := Try.sizeOf3
  have u4 := Try.underlying4
  have a4 := Try.isAgg4
  have z4 := Try.sizeOf4
  have hS : Try.prog.underlying 58 = some (.struct (Try.prog.fieldsOf 58)) := by kernel_rfl
  have hp : Try.prog.stoodInHeld 58 = false := by kernel_rfl
  obtain ⟨x1, x2, x3, x4, x5⟩ := x
  obtain ⟨y1, y2, y3, y4, y5⟩ := y
  simp only
  rw [run_neq_struct, show (10000 : Nat) = 9999 + 1 from rfl, run_equalIn_agg w 9999 58 _ _ hS hp]
  simp only [Program.fieldsOf, Try.underlying58]
  go_simp
  by_cases h1 : x1 = y1 <;> by_cases h2 : x2 = y2 <;> by_cases h3 : x3 = y3 <;> by_cases h4 : x4 = y4 <;> by_cases h5 : x5 = y5 <;> simp [h1, h2, h3, h4, h5]

set_option maxHeartbeats 2000000 in
theorem EqualC_any (ao bo : Option Addr) (ca cb : Nat) (a b : List Cl) (w : World) (hA : CeAt w ao a) (hB : CeAt w bo b) (hl : a.length ≤ 9223372036854775807) :
    Calls Try.prog 22 #[.slice ao a.length ca, .slice bo b.length cb] w fun e w' => e = .returned (.bool (decide (a = b))) ∧ Below w.heap.size w w' := by
  by_cases hlen : a.length = b.length
  · have hm : Try.prog.eqGuardType Try.prog.depth 58 = false := by kernel_rfl
    have HLN : Hid (a.length = b.length) := hlen
    rw [← hlen]
    have hne : ((a.length : Int) != (a.length : Int)) = false := by simp
    clear hlen
    go_enter Try.func22, Try.ntmps22
    go_wp2
    go_loopw [5, 13] (fun _ i wr => ∃ k : Nat, k ≤ a.length ∧ i = .int .i64 k ∧ a.take k = b.take k ∧ Below w.heap.size w wr) (fun _ i _ => a.length - (intOf i).toNat)
    case atStart => exact ⟨0, Nat.zero_le _, rfl, rfl, Below.refl _ _⟩
    case round =>
      obtain ⟨k, hk, rfl, hh, hb⟩ := hrel
      have HH : Hid (a.take k = b.take k) := hh
      clear hh
      by_cases hlt : k < a.length
      · have hlt' : k < b.length := by have := HLN.out; omega
        rcases hA.below hb with h0 | ⟨b1, o1, rfl, hb1, hc1⟩
        · subst h0; simp at hlt
        rcases hB.below hb with h0 | ⟨b2, o2, rfl, hb2, hc2⟩
        · subst h0; simp at hlt'
        obtain ⟨c0, c1, c2, c3, c4⟩ := CeAt.get hlt hc1
        obtain ⟨d0, d1, d2, d3, d4⟩ := CeAt.get hlt' hc2
        have nq := neq_ce a[k] b[k]
        clear hc1 hc2 hA hB
        by_cases g : a[k] = b[k]
        · have e1 : decide (a[k] = b[k]) = true := by simp [g]
          have HC : Hid (a.take (k + 1) = b.take (k + 1)) := by show _ = _; rw [take_succ_get a k hlt, take_succ_get b k hlt', HH.out, g]
          rw [e1] at nq
          clear g e1
          go_wp2
          go_quiet (fail)
          go_wp2
          go_roundw
          case rel => exact ⟨k + 1, by omega, by go_num, HC.out, below_drewN hb _⟩
          case measure => simp [intOf]; omega
        · have e1 : decide (a[k] = b[k]) = false := by simp [g]
          have HC : Hid (decide (a = b) = false) := by
            show _ = _
            rw [decide_eq_false_iff_not]
            intro h; subst h; exact g rfl
          rw [e1] at nq
          clear g e1
          go_wp2
          go_quiet (fail)
          go_wp2
          go_ret
          exact ⟨ret_bool HC.out.symm, below_drewN hb _⟩
      · have hkl : k = a.length := by omega
        have HC : Hid (decide (a = b) = true) := by
          show _ = _
          have := HH.out
          rw [hkl, List.take_length, HLN.out, List.take_length] at this
          rw [this]; simp
        go_wp2
        go_ret
        exact ⟨ret_bool HC.out.symm, hb⟩
  · have hne : ((a.length : Int) != (b.length : Int)) = true := by simp; omega
    have HC : Hid (decide (a = b) = false) := by
      show _ = _
      rw [decide_eq_false_iff_not]
      intro h; subst h; exact hlen rfl
    clear hlen
    go_enter Try.func22, Try.ntmps22
    go_wp2
    go_ret
    exact ⟨ret_bool HC.out.symm, Below.refl _ _⟩

end Go.Proofs.Ytjlnokjaabcldae
