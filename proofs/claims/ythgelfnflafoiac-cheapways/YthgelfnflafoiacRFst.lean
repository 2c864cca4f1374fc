/-
  What Fastest of the reference answers.
-/
import Derived.Test.YthgelfnflafoiacRArrF
namespace Go.Proofs.Ythgelfnflafoiac
open Go.RowKit

/-- the shortest time from one vertex to another of the first k starts, and that start -/
noncomputable def fstF (g : Gr) (v q : Nat) : Nat → Int × Int
  | 0 => (1099511627776, 0)
  | k + 1 => if (arrF g v k).getD q 0 < 1099511627776 ∧ (arrF g v k).getD q 0 - k < (fstF g v q k).1 then ((arrF g v k).getD q 0 - k, (k : Int)) else fstF g v q k
noncomputable def fstA (g : Gr) (v q : Nat) : Value := if (fstF g v q g.hor.toNat).1 = 1099511627776 then .tuple #[.int .i64 0, .int .i64 0, .int .i64 4] else .tuple #[.int .i64 (fstF g v q g.hor.toNat).1, .int .i64 (fstF g v q g.hor.toNat).2, .int .i64 0]

set_option maxRecDepth 100000 in
set_option maxHeartbeats 4000000 in
theorem Fastest_any (g : Gr) (la ea : Option Addr) (lc ec : Nat) (v q : Nat) (w : World) (hG : GAt w la ea g) (hg0 : gChk g = 0) (hv : v < g.lives.length) (hq : q < g.lives.length) :
    Calls Try.prog 15 #[.agg #[.int .i64 g.hor, .slice la g.lives.length lc, .slice ea g.edges.length ec], .int .i64 v, .int .i64 q] w fun r w' => r = .returned (fstA g v q) ∧ Below w.heap.size w w' := by
  have hR := gChk_right hg0
  have hor := hR.hor
  have hlv := hR.lvs
  obtain ⟨H, hH⟩ : ∃ H : Nat, H = g.hor.toNat := ⟨_, rfl⟩
  obtain ⟨n, hn⟩ : ∃ n : Nat, n = g.lives.length := ⟨_, rfl⟩
  have hHi : g.hor = (H : Int) := by omega
  have hH1 : 1 ≤ H ∧ H ≤ 100 := by omega
  have hn12 : n ≤ 12 := by omega
  have hqn : q < n := by omega
  obtain ⟨w1, hw1⟩ : ∃ x, x = w.alloc (.cells #[.int .i64 g.hor, .slice la g.lives.length lc, .slice ea g.edges.length ec] 25) := ⟨_, rfl⟩
  have B1 : GBox w w1 w.heap.size g la ea lc ec := by rw [hw1]; exact gbox_start w g la ea lc ec _
  have hAr : ∀ (k : Nat) (W : World), k < H → Below w1.heap.size w1 W → Calls Try.prog 18 #[.agg #[.int .i64 (H : Int), .slice la n lc, .slice ea g.edges.length ec], .int .i64 v, .int .i64 k] W fun r w' => ∃ gq cap, r = .returned (.slice (some ⟨gq, 0, none⟩) n cap) ∧ Zo w' W.heap.size gq n cap (arrF g v k) ∧ (∀ q, q < n → (arrF g v k).getD q 0 = 1099511627776 ∨ (0 ≤ (arrF g v k).getD q 0 ∧ (arrF g v k).getD q 0 < (H : Int))) ∧ Below W.heap.size W w' := fun k W hk hb => by
    have := Arr_fn g la ea lc ec v k W (hG.below (B1.below hb).bel) (placeE_of hg0 ⟨by omega, by omega⟩ ⟨by omega, by omega⟩)
    rw [← hn, hHi] at this
    exact this
  have HAr := hideg hAr
  have HB1 := hideg B1
  have b0 := B1.c0
  have b1 := B1.c1
  have b2 := B1.c2
  have hw1s := hw1.symm
  have HA : Hid (fstA g v q = if (fstF g v q H).1 = 1099511627776 then .tuple #[.int .i64 0, .int .i64 0, .int .i64 4] else .tuple #[.int .i64 (fstF g v q H).1, .int .i64 (fstF g v q H).2, .int .i64 0]) := by show _ = _; unfold fstA; rw [← hH]
  rw [hHi] at b0 hw1s ⊢
  rw [← hn] at b1 hw1s ⊢
  have HHi := hideg hHi
  have HN := hideg hn
  clear hG hg0 hR hw1 B1 hAr hHi hn hH hor hlv hv hq
  generalize fstA g v q = ans at *
  go_enter Try.func15, Try.ntmps15
  go_wp2_with fail
  clear hw1s
  go_loopw [9, 10, 11] (fun b a i wr => ∃ k : Nat, k ≤ H ∧ i = .int .i64 k ∧ b = .int .i64 (fstF g v q k).1 ∧ a = .int .i64 (fstF g v q k).2 ∧ Below w1.heap.size w1 wr) (fun _ _ i _ => H - (intOf i).toNat)
  case atStart => exact ⟨0, Nat.zero_le _, rfl, rfl, rfl, Below.refl _ _⟩
  case round =>
    clear b0 b1 b2
    obtain ⟨k, hk, rfl, rfl, rfl, hb⟩ := hrel
    have BR := HB1.out.below hb
    have b0 := BR.c0
    have b1 := BR.c1
    have b2 := BR.c2
    rw [HHi.out] at b0
    rw [← HN.out] at b1
    have HBb := hideg hb
    by_cases hkH : k < H
    · have HC := hideg (HAr.out k wr hkH hb)
      have hki : (k : Int) < (H : Int) := by omega
      have hkw : IntKind.i64.wrap ((k : Int) + 1) = (k : Int) + 1 := wrap_nr _ (by omega) (by omega)
      have hqi : (q : Int) < (n : Int) := by omega
      have HS : Hid (fstF g v q (k + 1) = if (arrF g v k).getD q 0 < 1099511627776 ∧ (arrF g v k).getD q 0 - k < (fstF g v q k).1 then ((arrF g v k).getD q 0 - k, (k : Int)) else fstF g v q k) := rfl
      clear BR hb
      generalize fstF g v q k = bb at HS ⊢
      obtain ⟨best, at0⟩ := bb
      simp only at HS ⊢
      go_wp2_with fail
      refine HC.out.mono ?_
      rintro r w3 ⟨gq, cap, rfl, hZ, hx, hb3⟩
      have x1 := hZ.cell hqn
      have hxr := hx q hqn
      have HB3 := hideg (HBb.out.trans (hb3.mono HBb.out.size))
      clear HC hZ hx hb3 b0 b1 b2
      generalize (arrF g v k).getD q 0 = x at HS x1 hxr
      have hwx : IntKind.i64.wrap (x - (k : Int)) = x - (k : Int) := wrap_nr _ (by omega) (by omega)
      by_cases h1 : x < 1099511627776
      · have d1 : decide (x < 1099511627776) = true := by simpa using h1
        by_cases h2 : x - (k : Int) < best
        · have d2 : decide (x - (k : Int) < best) = true := by simpa using h2
          have HS2 : Hid (fstF g v q (k + 1) = (x - (k : Int), (k : Int))) := by show _ = _; rw [HS.out, if_pos ⟨h1, h2⟩]
          clear HS hxr h1 h2
          go_wp2
          go_roundw
          case rel => exact ⟨k + 1, by omega, by go_num, by rw [HS2.out], by rw [HS2.out], HB3.out⟩
          case measure => simp [intOf]; omega
        · have d2 : decide (x - (k : Int) < best) = false := by simpa using h2
          have HS2 : Hid (fstF g v q (k + 1) = (best, at0)) := by show _ = _; rw [HS.out, if_neg (fun h => h2 h.2)]
          clear HS hxr h1 h2
          go_wp2
          go_roundw
          case rel => exact ⟨k + 1, by omega, by go_num, by rw [HS2.out], by rw [HS2.out], HB3.out⟩
          case measure => simp [intOf]; omega
      · have d1 : decide (x < 1099511627776) = false := by simpa using h1
        have HS2 : Hid (fstF g v q (k + 1) = (best, at0)) := by show _ = _; rw [HS.out, if_neg (fun h => h1 h.1)]
        clear HS hxr h1
        go_wp2
        go_roundw
        case rel => exact ⟨k + 1, by omega, by go_num, by rw [HS2.out], by rw [HS2.out], HB3.out⟩
        case measure => simp [intOf]; omega
    · have hke : H = k := by omega
      subst hke
      have HF := hideg BR.bel
      clear BR hb
      generalize fstF g v q H = bb at HA ⊢
      obtain ⟨best, at0⟩ := bb
      simp only at HA ⊢
      by_cases h1 : best = 1099511627776
      · have HA2 : Hid (ans = .tuple #[.int .i64 0, .int .i64 0, .int .i64 4]) := by show _ = _; rw [HA.out, if_pos h1]
        have d1 : (best == 1099511627776) = true := by simpa using h1
        clear h1 HA
        go_wp2
        go_ret3
        exact ⟨by rw [HA2.out]; rfl, HF.out⟩
      · have HA2 : Hid (ans = .tuple #[.int .i64 best, .int .i64 at0, .int .i64 0]) := by show _ = _; rw [HA.out, if_neg h1]
        have d1 : (best == 1099511627776) = false := by simpa using h1
        clear h1 HA
        go_wp2
        go_ret3
        exact ⟨by rw [HA2.out]; rfl, HF.out⟩

end Go.Proofs.Ythgelfnflafoiac
