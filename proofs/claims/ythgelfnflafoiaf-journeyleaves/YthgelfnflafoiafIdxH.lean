/-
  What the library's Index and Contains answer of a list of hops.
-/
import Derived.Test.YthgelfnflafoiafGBase
import Derived.Laws.StructEq
namespace Go.Proofs.Ythgelfnflafoiaf
open Go.RowKit

theorem eql_hop (x y : Int × Int) (w : World) : (binOp .eql 37 (.agg #[.int .i64 x.1, .int .i64 x.2]) (.agg #[.int .i64 y.1, .int .i64 y.2])).run Try.prog w = .ok (.bool (x.1 == y.1 && x.2 == y.2)) w := by
  have u3 := Try.underlying3
  have a3 := Try.isAgg3
  have z3 := Try.sizeOf3
  have hS : Try.prog.underlying 37 = some (.struct (Try.prog.fieldsOf 37)) := by kernel_rfl
  have hp : Try.prog.stoodInHeld 37 = false := by kernel_rfl
  rw [run_eql_struct, show (10000 : Nat) = 9999 + 1 from rfl, run_equalIn_agg w 9999 37 _ _ hS hp]
  simp only [Program.fieldsOf, Try.underlying37]
  go_simp
  by_cases h1 : x.fst = y.fst <;> by_cases h2 : x.snd = y.snd <;> simp [h1, h2]

/-- which one of a list it is: -1 if it is none -/
def hopIx (h : Int × Int) (l : List (Int × Int)) (r : Int) : Prop := (h ∈ l ∧ 0 ≤ r) ∨ (h ∉ l ∧ r < 0)
set_option maxHeartbeats 4000000 in
theorem IndexHop_any (ao : Option Addr) (ca : Nat) (l : List (Int × Int)) (h : Int × Int) (w : World) (hA : IvAt w ao l) (hl : l.length ≤ 9223372036854775807) :
    Calls Try.prog 29 #[.slice ao l.length ca, .agg #[.int .i64 h.1, .int .i64 h.2]] w fun e w' => (∃ r, e = .returned (.int .i64 r) ∧ hopIx h l r) ∧ Below w.heap.size w w' := by
  have hm : Try.prog.eqGuardType Try.prog.depth 37 = false := by kernel_rfl
  go_enter Try.func29, Try.ntmps29
  go_wp2
  go_loopw [5, 8] (fun _ i wr => ∃ k : Nat, k ≤ l.length ∧ i = .int .i64 k ∧ h ∉ l.take k ∧ Below (w.heap.size + 1) (w.alloc (.cells #[.int .i64 h.1, .int .i64 h.2] 37)) wr) (fun _ i _ => l.length - (intOf i).toNat)
  case atStart => exact ⟨0, Nat.zero_le _, rfl, by simp, Below.refl _ _⟩
  case round =>
    obtain ⟨k, hk, rfl, hh, hb⟩ := hrel
    have HH := hideg hh
    clear hh
    have hz := hb.size
    simp only [World.size_alloc] at hz
    have hbw : Below w.heap.size w wr := (gal w _).trans (hb.mono (by omega))
    have q0 : wr.cell? ⟨w.heap.size, 0, none⟩ = some (.int .i64 h.1) := by rw [hb.cell (p := ⟨w.heap.size, 0, none⟩) (by simp)]; simp
    have q1 : wr.cell? ⟨w.heap.size, 1, none⟩ = some (.int .i64 h.2) := by rw [hb.cell (p := ⟨w.heap.size, 1, none⟩) (by simp)]; simp
    by_cases hlt : k < l.length
    · rcases hA.below hbw with h0 | ⟨b, off, rfl, hbr, hc⟩
      · subst h0; simp at hlt
      obtain ⟨c0, c1⟩ := IvAt.get hlt hc
      have eq := eql_hop h l[k]
      clear hc hA
      by_cases g : h = l[k]
      · have e1 : (h.1 == l[k].1 && h.2 == l[k].2) = true := by rw [← g]; simp
        have HC : Hid (h ∈ l) := by show h ∈ l; rw [g]; exact List.getElem_mem hlt
        rw [e1] at eq
        clear g e1
        go_wp2
        go_quiet (fail)
        go_wp2
        go_ret
        exact ⟨⟨_, rfl, .inl ⟨HC.out, by omega⟩⟩, below_drewN hbw _⟩
      · have e1 : (h.1 == l[k].1 && h.2 == l[k].2) = false := by
          rw [Bool.and_eq_false_iff]
          by_cases h' : h.1 = l[k].1
          · right; rw [beq_eq_false_iff_ne]; exact fun h2 => g (Prod.ext h' h2)
          · left; rw [beq_eq_false_iff_ne]; exact h'
        have HC : Hid (h ∉ l.take (k + 1)) := by
          show h ∉ _
          rw [List.take_succ_eq_append_getElem hlt, List.mem_append, List.mem_singleton]
          rintro (h' | h')
          · exact HH.out h'
          · exact g h'
        rw [e1] at eq
        clear g e1
        go_wp2
        go_quiet (fail)
        go_wp2
        go_roundw
        case rel => exact ⟨k + 1, by omega, by go_num, HC.out, below_drewN hb _⟩
        case measure => simp [intOf]; omega
    · have hkl : k = l.length := by omega
      have HC : Hid (h ∉ l) := by have := HH.out; rwa [hkl, List.take_length] at this
      subst hkl
      go_wp2
      go_ret
      exact ⟨⟨_, rfl, .inr ⟨HC.out, by omega⟩⟩, hbw⟩

set_option maxHeartbeats 4000000 in
theorem ContainsHop_any (ao : Option Addr) (ca : Nat) (l : List (Int × Int)) (h : Int × Int) (w : World) (hA : IvAt w ao l) (hl : l.length ≤ 9223372036854775807) :
    Calls Try.prog 14 #[.slice ao l.length ca, .agg #[.int .i64 h.1, .int .i64 h.2]] w fun e w' => e = .returned (.bool (decide (h ∈ l))) ∧ Below w.heap.size w w' := by
  have h1 := IndexHop_any ao ca l h (w.alloc (.cells #[.int .i64 h.1, .int .i64 h.2] 37)) (hA.below (gal _ _)) hl
  have HB := hideg (fun W (hb : Below _ _ W) => ptg (gal w (.cells #[.int .i64 h.1, .int .i64 h.2] 37)) hb)
  go_enter Try.func14, Try.ntmps14
  go_wp2_with fail
  refine h1.mono ?_
  rintro e w1 ⟨⟨r, rfl, hr⟩, hb1⟩
  have hbF := HB.out _ hb1
  clear hb1 h1 HB
  rcases hr with ⟨k1, k2⟩ | ⟨k1, k2⟩
  · have HD : Hid (decide (h ∈ l) = true) := by show _ = _; simpa using k1
    have d : decide (0 ≤ r) = true := by simpa using k2
    clear k1 k2
    go_wp2
    go_ret
    exact ⟨by rw [HD.out]; rfl, hbF⟩
  · have HD : Hid (decide (h ∈ l) = false) := by show _ = _; simpa using k1
    have d : decide (0 ≤ r) = false := by simpa using k2
    clear k1 k2
    go_wp2
    go_ret
    exact ⟨by rw [HD.out]; rfl, hbF⟩

end Go.Proofs.Ythgelfnflafoiaf
