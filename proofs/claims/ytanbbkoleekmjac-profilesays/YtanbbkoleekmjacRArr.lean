/-
  What Arrivals of the reference answers.
-/
import Derived.Test.YtanbbkoleekmjacRSum
namespace Go.Proofs.Ytanbbkoleekmjac
open Go.RowKit

/-- the first time at which a number is told, of the last j of h times -/
def arrG (f : Nat → Int) (h : Nat) : Nat → Int
  | 0 => 1099511627776
  | j + 1 => if f (h - (j + 1)) < 1099511627776 then ((h - (j + 1) : Nat) : Int) else arrG f h j
/-- of the first k vertices -/
def arrL (X : Tb) (h k : Nat) : List Int := (List.range k).map fun v => arrG (tat X v) h h
theorem arrL_succ (X : Tb) (h k : Nat) : (arrL X h (k + 1)).map (Value.int .i64) = (arrL X h k).map (Value.int .i64) ++ [.int .i64 (arrG (tat X k) h h)] := by simp [arrL, List.range_succ]
theorem arrL_len (X : Tb) (h k : Nat) : (arrL X h k).length = k := by simp [arrL]

set_option maxRecDepth 100000 in
set_option maxHeartbeats 4000000 in
theorem Arrivals_any (g : Gr) (la ea : Option Addr) (lc ec : Nat) (v t : Int) (w : World) (hG : GAt w la ea g) (hpl : placeE g v t = 0) :
    Calls Try.prog 19 #[.agg #[.int .i64 g.hor, .slice la g.lives.length lc, .slice ea g.edges.length ec], .int .i64 v, .int .i64 t] w fun r w' => ∃ u X Y, r = .returned u ∧ SumIs g v t X Y ∧ w'.ownsRow w.heap.size 3 1 u g.lives.length ((arrL X g.hor.toNat g.lives.length).map (Value.int .i64)) ∧ Below w.heap.size w w' := by
  obtain ⟨i0, hi, hz0, hz1, hz2⟩ := info_parts Try.infoInt
  have hR := gChk_right (placeE_zero hpl).1
  have hor := hR.hor
  have hlv := hR.lvs
  obtain ⟨H, hH⟩ : ∃ H : Nat, H = g.hor.toNat := ⟨_, rfl⟩
  obtain ⟨n, hn⟩ : ∃ n : Nat, n = g.lives.length := ⟨_, rfl⟩
  have hHi : g.hor = (H : Int) := by omega
  have hH1 : 1 ≤ H ∧ H ≤ 100 := by omega
  have hn12 : n ≤ 12 := by omega
  obtain ⟨w1, hw1⟩ : ∃ x, x = w.alloc (.cells #[.int .i64 g.hor, .slice la g.lives.length lc, .slice ea g.edges.length ec] 25) := ⟨_, rfl⟩
  have B1 : GBox w w1 w.heap.size g la ea lc ec := by rw [hw1]; exact gbox_start w g la ea lc ec _
  have hSm := Sums_any g la ea lc ec v t w1 (hG.below B1.bel) hpl
  have HSm := hideg hSm
  have HB1 := hideg B1
  have b0 := B1.c0
  have b1 := B1.c1
  have b2 := B1.c2
  have hw1s := hw1.symm
  rw [← hn, ← hH] at HSm ⊢
  rw [hHi] at HSm b0 hw1s ⊢
  rw [← hn] at b1 hw1s
  have HHi := hideg hHi
  have HN := hideg hn
  have HH := hideg hH
  clear hpl hR hG hw1 B1 hSm hHi hn hH hor hlv
  go_enter Try.func19, Try.ntmps19
  go_wp2_with fail
  clear hw1s
  refine HSm.out.mono ?_
  rintro r w2 ⟨goC, cC, goH, cH, bc, bh, X, Y, rfl, hMC, hMH, hlc, hlh, hSI, hb2⟩
  have B2 := HB1.out.below hb2
  have HB2 := hideg B2
  clear b0 b1 b2
  have b0 := B2.c0
  have b1 := B2.c1
  rw [HHi.out] at b0
  rw [← HN.out] at b1
  have HMC := hideg hMC
  have HSI := hideg hSI
  have HLC := hideg hlc
  have hs2 := hb2.size
  clear hMC hMH hlc hlh HSm HB1 B2 hb2 hSI
  go_wp2_with fail
  go_loopw [9, 10] (fun u i wr => ∃ k : Nat, k ≤ n ∧ i = .int .i64 k ∧ wr.ownsRow w2.heap.size 3 1 u k ((arrL X H k).map (Value.int .i64)) ∧ Below w2.heap.size w2 wr) (fun _ i _ => n - (intOf i).toNat)
  case atStart => exact ⟨0, Nat.zero_le _, rfl, World.ownsRow_nil _ _ _ _, Below.refl _ _⟩
  case round =>
    clear b0 b1
    obtain ⟨k, hk, rfl, hown, hb⟩ := hrel
    have BR := HB2.out.below hb
    have b0 := BR.c0
    have b1 := BR.c1
    rw [HHi.out] at b0
    rw [← HN.out] at b1
    have hsz := hb.size
    by_cases hkn : k < n
    · have MR := HMC.out.below hb
      have x0 := MR.out k (by rw [HLC.out]; exact hkn)
      have HX1 := hideg (fun t (ht : t < H) => MR.cell (v := k) (by rw [HLC.out]; exact hkn) ht)
      have hki : (k : Int) < (n : Int) := by omega
      have hwH : IntKind.i64.wrap ((H : Int) - 1) = (H : Int) - 1 := wrap_nr _ (by omega) (by omega)
      have HOwn := hideg hown
      have HBb := hideg hb
      have HSu := hideg (arrL_succ X H k)
      clear MR BR hown hb
      go_wp2_with fail
      go_loopw [11, 12] (fun nn tt wq => ∃ j : Nat, j ≤ H ∧ tt = .int .i64 ((H : Int) - 1 - j) ∧ nn = .int .i64 (arrG (tat X k) H j) ∧ wq = wr) (fun _ tt _ => (intOf tt + 1).toNat)
      case atStart => exact ⟨0, Nat.zero_le _, by simp, rfl, rfl⟩
      case round =>
        obtain ⟨j, hj, rfl, rfl, rfl⟩ := hrel
        by_cases hjH : j < H
        · obtain ⟨q, hq⟩ : ∃ q : Nat, (H : Int) - 1 - j = (q : Int) := ⟨H - (j + 1), by omega⟩
          have hqH : q < H := by omega
          have x1 := HX1.out q hqH
          have hqi : (q : Int) < (H : Int) := by omega
          have hq0 : (0 : Int) ≤ (q : Int) := by omega
          have hqn : H - (j + 1) = q := by omega
          have hww : IntKind.i64.wrap ((q : Int) - 1) = (q : Int) - 1 := wrap_nr _ (by omega) (by omega)
          rw [hq]
          by_cases hlt : tat X k q < 1099511627776
          · have d1 : decide (tat X k q < 1099511627776) = true := by simpa using hlt
            have HA : Hid (arrG (tat X k) H (j + 1) = (q : Int)) := by show _ = _; rw [arrG, hqn, if_pos hlt]
            clear hlt hqn
            go_wp2
            go_roundw
            case rel => exact ⟨j + 1, by omega, by simp; omega, by rw [HA.out], by first | rfl | trivial⟩
            case measure => simp [intOf] <;> omega
          · have d1 : decide (tat X k q < 1099511627776) = false := by simpa using hlt
            have HA : Hid (arrG (tat X k) H (j + 1) = arrG (tat X k) H j) := by show _ = _; rw [arrG, hqn, if_neg hlt]
            clear hlt hqn
            go_wp2
            go_roundw
            case rel => exact ⟨j + 1, by omega, by simp; omega, by rw [HA.out], by first | rfl | trivial⟩
            case measure => simp [intOf] <;> omega
        · have hje : H = j := by omega
          subst hje
          rw [show (H : Int) - 1 - (H : Int) = -1 from by omega]
          generalize arrG (tat X k) H H = m at HSu ⊢
          have hown := HOwn.out
          have hkw : IntKind.i64.wrap ((k : Int) + 1) = (k : Int) + 1 := wrap_nr _ (by omega) (by omega)
          clear x0 HX1 b0 b1
          go_wp2_with (at_builtin; refine wpList_append_own _ rfl _ _ 28 rfl w2.heap.size 3 i0 (.int .i64 0) 1 8 Try.underlying28 hi hz0 hz1 hz2 rfl (by decide) _ _ _ rfl (World.ownsRow.alloc (w := wr) hown _) ⟨wr.heap.size, 0, none⟩ 1 1 [.int .i64 m] rfl rfl (cell_one_new _ _ _) (by intro u hu; simp at hu; subst hu; rfl) (by unfold maxLen; omega) (by omega) (by simp; omega) ?_; intro v' w5 hown5 hgrow _)
          have hb5 := (HBb.out.alloc hsz _).grown hgrow (by simp; omega) (fun q hq => (hown.lt q hq).1)
          exact ⟨⟨k + 1, by omega, by go_num, by rw [HSu.out]; exact hown5, hb5⟩, by simp [intOf]; omega⟩
    · have hke : n = k := by omega
      subst hke
      have HO := hideg hown
      have HBb := hideg hb
      clear hown hb
      go_wp2
      go_ret
      exact ⟨_, X, Y, rfl, HSI.out, owns_base2 HO.out HB2.out.bel.size, (HB2.out.below HBb.out).bel⟩

end Go.Proofs.Ytanbbkoleekmjac
