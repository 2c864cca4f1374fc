/-
  What Least of the reference answers.
-/
import Derived.Test.YthgelfnflafoiacRSumC
namespace Go.Proofs.Ythgelfnflafoiac
open Go.RowKit

/-- the least of the first j numbers -/
def minG (f : Nat → Int) : Nat → Int
  | 0 => 1099511627776
  | j + 1 => min (minG f j) (f j)
def lstL (X : Tb) (h k : Nat) : List Int := (List.range k).map fun v => minG (tat X v) h
theorem lstL_succ (X : Tb) (h k : Nat) : (lstL X h (k + 1)).map (Value.int .i64) = (lstL X h k).map (Value.int .i64) ++ [.int .i64 (minG (tat X k) h)] := by simp [lstL, List.range_succ]

set_option maxRecDepth 100000 in
set_option maxHeartbeats 4000000 in
theorem Least_any (base go cap : Nat) (bl : List (Nat × Nat)) (h n : Nat) (X : Tb) (w : World) (M : TabM w base go bl h X) (hn : bl.length = n) (hh : h ≤ 100) (hn12 : n ≤ 12) :
    Calls Try.prog 9 #[.slice (some ⟨go, 0, none⟩) n cap] w fun r w' => ∃ u, r = .returned u ∧ w'.ownsRow w.heap.size 3 1 u n ((lstL X h n).map (Value.int .i64)) ∧ Below w.heap.size w w' := by
  obtain ⟨i0, hi, hz0, hz1, hz2⟩ := info_parts Try.infoInt
  have HM := hideg M
  have HN := hideg hn
  clear M hn
  go_enter Try.func9, Try.ntmps9
  go_wp2_with fail
  go_loopw [3, 4] (fun u i wr => ∃ k : Nat, k ≤ n ∧ i = .int .i64 k ∧ wr.ownsRow w.heap.size 3 1 u k ((lstL X h k).map (Value.int .i64)) ∧ Below w.heap.size w wr) (fun _ i _ => n - (intOf i).toNat)
  case atStart => exact ⟨0, Nat.zero_le _, rfl, World.ownsRow_nil _ _ _ _, Below.refl _ _⟩
  case round =>
    obtain ⟨k, hk, rfl, hown, hb⟩ := hrel
    have hsz := hb.size
    by_cases hkn : k < n
    · have MR := HM.out.below hb
      have x0 := MR.out k (by rw [HN.out]; exact hkn)
      have HX1 := hideg (fun t (ht : t < h) => MR.cell (v := k) (by rw [HN.out]; exact hkn) ht)
      have hki : (k : Int) < (n : Int) := by omega
      have HOwn := hideg hown
      have HBb := hideg hb
      have HSu := hideg (lstL_succ X h k)
      clear MR hown hb
      go_wp2_with fail
      go_loopw [5, 6] (fun nn tt wq => ∃ j : Nat, j ≤ h ∧ tt = .int .i64 j ∧ nn = .int .i64 (minG (tat X k) j) ∧ wq = wr) (fun _ tt _ => h - (intOf tt).toNat)
      case atStart => exact ⟨0, Nat.zero_le _, rfl, rfl, rfl⟩
      case round =>
        obtain ⟨j, hj, rfl, rfl, rfl⟩ := hrel
        by_cases hjH : j < h
        · have x1 := HX1.out j hjH
          have hji : (j : Int) < (h : Int) := by omega
          have HA : Hid (minG (tat X k) (j + 1) = min (minG (tat X k) j) (tat X k j)) := rfl
          have hwj : IntKind.i64.wrap ((j : Int) + 1) = (j : Int) + 1 := wrap_nr _ (by omega) (by omega)
          generalize minG (tat X k) j = m0 at HA ⊢
          generalize tat X k j = m1 at HA x1 ⊢
          by_cases hlt : m1 < m0
          · have HM2 : Hid (min m0 m1 = m1) := by show _ = _; omega
            go_wp2
            go_roundw
            case rel => exact ⟨j + 1, by omega, by go_num, by rw [HA.out, HM2.out], by first | rfl | trivial⟩
            case measure => simp [intOf]; omega
          · have HM2 : Hid (min m0 m1 = m0) := by show _ = _; omega
            go_wp2
            go_roundw
            case rel => exact ⟨j + 1, by omega, by go_num, by rw [HA.out, HM2.out], by first | rfl | trivial⟩
            case measure => simp [intOf]; omega
        · have hje : h = j := by omega
          subst hje
          generalize minG (tat X k) h = m at HSu ⊢
          have hown := HOwn.out
          have hkw : IntKind.i64.wrap ((k : Int) + 1) = (k : Int) + 1 := wrap_nr _ (by omega) (by omega)
          go_wp2_with (at_builtin; refine wpList_append_own _ rfl _ _ 28 rfl w.heap.size 3 i0 (.int .i64 0) 1 8 Try.underlying28 hi hz0 hz1 hz2 rfl (by decide) _ _ _ rfl (World.ownsRow.alloc (w := wr) hown _) ⟨wr.heap.size, 0, none⟩ 1 1 [.int .i64 m] rfl rfl (cell_one_new _ _ _) (by intro u hu; simp at hu; subst hu; rfl) (by unfold maxLen; omega) (by omega) (by simp; omega) ?_; intro v' w5 hown5 hgrow _)
          have hb5 := (HBb.out.alloc hsz _).grown hgrow (by simp; omega) (fun q hq => (hown.lt q hq).1)
          exact ⟨⟨k + 1, by omega, by go_num, by rw [HSu.out]; exact hown5, hb5⟩, by simp [intOf]; omega⟩
    · have hke : n = k := by omega
      subst hke
      have HO := hideg hown
      have HBb := hideg hb
      clear hown hb
      go_wp2
      go_ret
      exact ⟨_, rfl, HO.out, HBb.out⟩

end Go.Proofs.Ythgelfnflafoiac
