/-
  slices.EqualFunc of two rows of rows of bools that tell the same.
-/
import Derived.Test.YtanbbkoleekmjacEqG
import Derived.Test.YtanbbkoleekmjacRwRows
namespace Go.Proofs.Ytanbbkoleekmjac
open Go.RowKit

/-- rows of bools lie at an address -/
def BsRows (W : World) (ao : Option Addr) (rows : List (List Bool)) : Prop :=
  rows = [] ∨ ∃ b off, ao = some ⟨b, off, none⟩ ∧ b < W.heap.size ∧ ∀ v (h : v < rows.length), ∃ ai ci, W.cell? ⟨b, off + v, none⟩ = some (.slice ai rows[v].length ci) ∧ BsAt W ai rows[v]
theorem BsRows.below {W W' : World} {ao : Option Addr} {rows : List (List Bool)} (h : BsRows W ao rows) (hb : Below W.heap.size W W') : BsRows W' ao rows := by
  rcases h with h | ⟨b, off, rfl, hlt, hc⟩
  · exact .inl h
  · refine .inr ⟨b, off, rfl, Nat.lt_of_lt_of_le hlt hb.size, fun v hv => ?_⟩
    obtain ⟨ai, ci, h1, h2⟩ := hc v hv
    exact ⟨ai, ci, (hb.cell (p := ⟨b, off + v, none⟩) hlt).trans h1, h2.below hb⟩
theorem rm_rows {base oT eT go n h : Nat} {W : World} {bl : List (Nat × Nat)} {R : Nat → List Bool} (M : RM base oT eT go n h W bl (fun v => (R v).map Value.bool)) (hn : bl.length = n) : BsRows W (some ⟨go, 0, none⟩) ((List.range n).map R) := by
  refine .inr ⟨go, 0, rfl, M.lt.2, fun v hv => ?_⟩
  have hv' : v < n := by simpa using hv
  obtain ⟨ai, ci, e, hz⟩ := bsAt_of_owns (M.inn v (by omega))
  have hl := M.len (v := v) (by omega)
  simp only [List.length_map] at hl
  simp only [List.getElem_map, List.getElem_range, Nat.zero_add]
  refine ⟨ai, ci, ?_, hz⟩
  rw [M.out (by omega), e]

set_option maxRecDepth 100000 in
set_option maxHeartbeats 1000000 in
theorem eqRowsB_any (c : FuncId) (eg : ∀ args w, (callFunc c args).run Try.prog w = .ok (.enter c args) w)
    (hc : ∀ ao bo ca cb (a b : List Bool) W, BsAt W ao a → BsAt W bo b → a.length ≤ 9223372036854775807 → Calls Try.prog c #[.slice ao a.length ca, .slice bo b.length cb] W fun e w' => e = .returned (.bool (decide (a = b))) ∧ Below W.heap.size W w')
    (ao bo : Option Addr) (ca cb : Nat) (rows : List (List Bool)) (w : World) (hA : BsRows w ao rows) (hB : BsRows w bo rows) (hn : rows.length ≤ 12) (hr : ∀ r ∈ rows, r.length ≤ 12) :
    Calls Try.prog 27 #[.slice ao rows.length ca, .slice bo rows.length cb, .func (.func c) #[] #[]] w fun e w' => e = .returned (.bool true) ∧ Below w.heap.size w w' := by
  have HA := hideg hA
  have HB0 := hideg hB
  have HC := hideg hc
  have HR := hideg hr
  have dn : ((rows.length : Int) != (rows.length : Int)) = false := by simp
  clear hA hB hc hr
  go_enter Try.func27, Try.ntmps27
  go_wp2_with fail
  go_loopw [17] (fun i wr => ∃ k : Nat, k ≤ rows.length ∧ i = .int .i64 k ∧ Below w.heap.size w wr) (fun i _ => rows.length - (intOf i).toNat)
  case atStart => exact ⟨0, Nat.zero_le _, rfl, Below.refl _ _⟩
  case round =>
    obtain ⟨k, hk, rfl, hb⟩ := hrel
    by_cases hkl : k < rows.length
    · have hki : (k : Int) < (rows.length : Int) := by omega
      have hkw : IntKind.i64.wrap ((k : Int) + 1) = (k : Int) + 1 := wrap_nj _ (by omega) (by omega)
      rcases HA.out.below hb with h0 | ⟨b1, o1, rfl, hb1, hc1⟩
      · rw [h0] at hkl; simp at hkl
      rcases HB0.out.below hb with h0 | ⟨b2, o2, rfl, hb2, hc2⟩
      · rw [h0] at hkl; simp at hkl
      obtain ⟨a1, c1, x1, z1⟩ := hc1 k hkl
      obtain ⟨a2, c2, x2, z2⟩ := hc2 k hkl
      have hl := HR.out _ (List.getElem_mem hkl)
      have hcl := HC.out a1 a2 c1 c2 rows[k] rows[k] wr z1 z2 (by omega)
      rw [show decide (rows[k] = rows[k]) = true from decide_eq_true rfl] at hcl
      generalize rows[k] = x at *
      have HB := hideg hb
      clear hc1 hc2 z1 z2 hb
      go_wp2_with fail
      refine hcl.mono ?_
      rintro e w3 ⟨rfl, hb3⟩
      have HB3 := hideg (ptg HB.out hb3)
      clear hcl hb3 x1 x2
      go_wp2
      go_roundw
      case rel => exact ⟨k + 1, by omega, by go_num, HB3.out⟩
      case measure => simp [intOf]; omega
    · have HB := hideg hb
      clear hb
      go_wp2
      go_ret
      exact ⟨rfl, HB.out⟩

end Go.Proofs.Ytanbbkoleekmjac
