/-
  What begun of the laws answers: true.
-/
import Derived.Test.YtjlnokjaabcldaeBlt
import Derived.ChangeKeysEq
import Derived.Laws.StructEq
namespace Go.Proofs.Ytjlnokjaabcldae
open Go.RowKit

/-- pieces in a new block -/
theorem pcAt_new {w : World} {B : Nat} {t : TypeId} {cs : Array Value} {m : List (Int × Int × Int)} (hB : B = w.heap.size) (hc : cs.toList = enc3 m) : PcAt (w.alloc (.cells cs t)) (some ⟨B, 0, none⟩) m := by
  subst hB
  have hg : ∀ i, (w.alloc (.cells cs t)).cell? ⟨w.heap.size, i, none⟩ = (enc3 m)[i]? := by
    intro i
    rw [World.cell?_alloc_at _ _ _ _ rfl, ← hc]
    simp
  refine .inr ⟨w.heap.size, 0, rfl, by simp, fun j hj => ?_⟩
  obtain ⟨f0, f1, f2⟩ := flat3_getD m j hj
  rw [hg, hg, hg]
  simp only [enc3, List.getElem?_map, Nat.zero_add, f0, f1, f2]
  exact ⟨rfl, rfl, rfl⟩

set_option maxRecDepth 100000 in
theorem begun_any (w : World) : Calls Try.prog 6 #[] w fun e w' => e = .returned (.bool true) ∧ Below w.heap.size w w' := by
  go_enter Try.func6, Try.ntmps6
  go_wp2_with fail
  refine (built_any _ 2 [(1, 9, 5), (3, 4, 7)] _ (pcAt_new (by simp) rfl) (by simp) (by omega)).mono ?_
  rintro e w1 ⟨v, m, rfl, hB, ho, hb⟩
  have hm := blt_begun hB
  subst hm
  obtain ⟨vo, vc, rfl, hz⟩ := pcAt_of_owns ho
  have hb1 := ptw (pal _ _) hb
  clear hB ho hb
  go_wp2_with fail
  refine (Equal3_any vo _ vc _ [(1, 3, 5), (3, 4, 7), (4, 9, 5)] [(1, 3, 5), (3, 4, 7), (4, 9, 5)] _ (hz.below (pal _ _)) (pcAt_new (by simp) rfl) (by simp)).mono ?_
  rintro e w2 ⟨rfl, hb2⟩
  have hb3 := ptw (ptw hb1 (pal _ _)) hb2
  rw [show decide ([((1 : Int), (3 : Int), (5 : Int)), (3, 4, 7), (4, 9, 5)] = [(1, 3, 5), (3, 4, 7), (4, 9, 5)]) = true from by simp]
  clear hb1 hb2 hz
  go_wp2
  go_ret
  exact ⟨rfl, hb3⟩

/-- are two pairs of numbers one? -/
def prB (x y x' y' : Int) : Bool := x == x' && y == y'
theorem prB_same (x y : Int) : prB x y x y = true := by simp [prB]
theorem eql_pair (x y x' y' : Int) (w : World) : (binOp .eql 32 (.agg #[.int .i64 x, .int .i64 y]) (.agg #[.int .i64 x', .int .i64 y'])).run Try.prog w = .ok (.bool (prB x y x' y')) w := by
  have u3 := Try.underlying3
  have a3 := Try.isAgg3
  have z3 := Try.sizeOf3
  obtain ⟨i0, hi, _, _, _⟩ := info_parts Try.infoInt
  have hc : Try.prog.cellsOf 3 = 1 := by kernel_rfl
  rw [run_eql_struct, show (10000 : Nat) = 9999 + 1 from rfl, run_equalIn_array w 9999 _ _ Try.underlying32 hi, hc, show List.range 2 = [0, 1] from rfl]
  simp only [Op.eqItems]
  go_simp
  unfold prB
  by_cases h1 : x = x' <;> by_cases h2 : y = y' <;> simp [h1, h2]
theorem neq_pair (x y x' y' : Int) (w : World) : (binOp .neq 32 (.agg #[.int .i64 x, .int .i64 y]) (.agg #[.int .i64 x', .int .i64 y'])).run Try.prog w = .ok (.bool (!prB x y x' y')) w := by
  have h := eql_pair x y x' y' w
  rw [run_eql_struct] at h
  rw [run_neq_struct]
  generalize (Op.equalIn 10000 32 (.agg #[.int .i64 x, .int .i64 y]) (.agg #[.int .i64 x', .int .i64 y'])).run Try.prog w = r at h ⊢
  cases r with
  | ok b w' => simp only [Result.andThen_ok, Result.ok.injEq, Value.bool.injEq] at h ⊢; exact ⟨by rw [h.1], h.2⟩
  | _ => simp [Result.andThen] at h

/-- what a map of built is -/
theorem built_of {l m : List (Int × Int × Int)} (h : Blt (l.take 40) (l.take 40).length m) : ∃ T : List Int, T.length ≤ 80 ∧ MOf T m := by
  have hl : (l.take 40).length ≤ 40 := by rw [List.length_take]; omega
  have := blt_is hl _ (Nat.le_refl _) m h
  rw [List.take_length] at this
  exact ⟨turnsOf (l.take 40), by rw [turnsOf_length]; omega, this⟩

end Go.Proofs.Ytjlnokjaabcldae
