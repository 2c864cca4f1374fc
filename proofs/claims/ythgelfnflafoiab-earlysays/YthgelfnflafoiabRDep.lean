/-
  What Departures of the reference answers.
-/
import Derived.Test.YthgelfnflafoiabRArrF
namespace Go.Proofs.Ythgelfnflafoiab
open Go.RowKit

/-- the latest of the first k times at which one may be at v, to be at q by d -/
noncomputable def depG (g : Gr) (q d v : Nat) : Nat → Int
  | 0 => -1
  | k + 1 => if aliveB (k : Int) g.lives (v : Int) = true ∧ (arrF g v k).getD q 0 ≤ (d : Int) then (k : Int) else depG g q d v k
noncomputable def depV (g : Gr) (q d v : Nat) : Int := if aliveB (d : Int) g.lives (q : Int) = true then depG g q d v (d + 1) else -1
noncomputable def depL (g : Gr) (q d k : Nat) : List Int := (List.range k).map fun v => depV g q d v
theorem depL_succ (g : Gr) (q d k : Nat) : (depL g q d (k + 1)).map (Value.int .i64) = (depL g q d k).map (Value.int .i64) ++ [.int .i64 (depV g q d k)] := by simp [depL, List.range_succ]

set_option maxRecDepth 100000 in
set_option maxHeartbeats 4000000 in
theorem Departures_any (g : Gr) (la ea : Option Addr) (lc ec : Nat) (q d : Nat) (w : World) (hG : GAt w la ea g) (hpl : placeE g q d = 0) :
    Calls Try.prog 24 #[.agg #[.int .i64 g.hor, .slice la g.lives.length lc, .slice ea g.edges.length ec], .int .i64 q, .int .i64 d] w fun r w' => ∃ u, r = .returned u ∧ w'.ownsRow w.heap.size 3 1 u g.lives.length ((depL g q d g.lives.length).map (Value.int .i64)) ∧ Below w.heap.size w w' := by
  obtain ⟨i0, hi, hz0, hz1, hz2⟩ := info_parts Try.infoInt
  obtain ⟨hg0, hq, hd⟩ := placeE_zero hpl
  have hR := gChk_right hg0
  have hor := hR.hor
  have hlv := hR.lvs
  obtain ⟨H, hH⟩ : ∃ H : Nat, H = g.hor.toNat := ⟨_, rfl⟩
  obtain ⟨n, hn⟩ : ∃ n : Nat, n = g.lives.length := ⟨_, rfl⟩
  have hHi : g.hor = (H : Int) := by omega
  have hH1 : 1 ≤ H ∧ H ≤ 100 := by omega
  have hn12 : n ≤ 12 := by omega
  have hqn : q < n := by omega
  have hdH : d < H := by omega
  obtain ⟨w1, hw1⟩ : ∃ x, x = w.alloc (.cells #[.int .i64 g.hor, .slice la g.lives.length lc, .slice ea g.edges.length ec] 41) := ⟨_, rfl⟩
  have B1 : GBox w w1 w.heap.size g la ea lc ec := by rw [hw1]; exact gbox_start w g la ea lc ec _
  have hAr : ∀ (v k : Nat) (W : World), v < n → k < H → Below w1.heap.size w1 W → Calls Try.prog 23 #[.agg #[.int .i64 (H : Int), .slice la n lc, .slice ea g.edges.length ec], .int .i64 v, .int .i64 k] W fun r w' => ∃ gq cap, r = .returned (.slice (some ⟨gq, 0, none⟩) n cap) ∧ Zo w' W.heap.size gq n cap (arrF g v k) ∧ Below W.heap.size W w' := fun v k W hv hk hb => by
    have := Arr_fn g la ea lc ec v k W (hG.below (B1.below hb).bel) (placeE_of hg0 ⟨by omega, by omega⟩ ⟨by omega, by omega⟩)
    rw [← hn, hHi] at this
    refine this.mono ?_
    rintro r w' ⟨gq, cap, h1, h2, _, h3⟩
    exact ⟨gq, cap, h1, h2, h3⟩
  have HAr := hideg hAr
  have hal0 : ∀ (vv tt : Nat) (W : World), vv < n → Below w1.heap.size w1 W → Calls Try.prog 43 #[.agg #[.int .i64 (H : Int), .slice la n lc, .slice ea g.edges.length ec], .int .i64 vv, .int .i64 tt] W fun r w' => r = .returned (.bool (aliveB tt g.lives vv)) ∧ Below W.heap.size W w' := fun vv tt W hvv h => by
    have := Alive_any (H : Int) la ea lc g.edges.length ec g.lives vv tt W ((hG.below (B1.below h).bel).lv) (by omega) (by omega)
    rw [← hn] at this
    exact this
  have HAl := hideg hal0
  have HB1 := hideg B1
  have b0 := B1.c0
  have b1 := B1.c1
  have b2 := B1.c2
  have hw1s := hw1.symm
  rw [← hn]
  rw [hHi] at b0 hw1s ⊢
  rw [← hn] at b1 hw1s
  have HHi := hideg hHi
  have HN := hideg hn
  clear hpl hG hg0 hR hw1 B1 hAr hal0 hHi hn hH hor hlv hq hd
  go_enter Try.func24, Try.ntmps24
  go_wp2_with fail
  clear hw1s
  go_loopw [7, 8] (fun u i wr => ∃ k : Nat, k ≤ n ∧ i = .int .i64 k ∧ wr.ownsRow w1.heap.size 3 1 u k ((depL g q d k).map (Value.int .i64)) ∧ Below w1.heap.size w1 wr) (fun _ i _ => n - (intOf i).toNat)
  case atStart => exact ⟨0, Nat.zero_le _, rfl, World.ownsRow_nil _ _ _ _, Below.refl _ _⟩
  case round =>
    clear b0 b1 b2
    obtain ⟨k, hk, rfl, hown, hb⟩ := hrel
    have BR := HB1.out.below hb
    have b0 := BR.c0
    have b1 := BR.c1
    have b2 := BR.c2
    rw [HHi.out] at b0
    rw [← HN.out] at b1
    by_cases hkn : k < n
    · have hki : (k : Int) < (n : Int) := by omega
      obtain ⟨wo, hwo⟩ : ∃ x, x = wr := ⟨_, rfl⟩
      rw [← hwo] at hown hb b0 b1 b2 ⊢
      have HOwn := hideg hown
      have HBo := hideg hb
      have HSu := hideg (depL_succ g q d k)
      have hkw : IntKind.i64.wrap ((k : Int) + 1) = (k : Int) + 1 := wrap_nr _ (by omega) (by omega)
      clear BR hown hb hwo
      go_wp2_with fail
      go_loopw [9, 10] (fun nn tt wq => ∃ j : Nat, j ≤ d + 1 ∧ tt = .int .i64 j ∧ nn = .int .i64 (depG g q d k j) ∧ (aliveB (d : Int) g.lives (q : Int) = false → j = 0) ∧ Below wo.heap.size wo wq) (fun _ tt _ => d + 1 - (intOf tt).toNat)
      case atStart => exact ⟨0, Nat.zero_le _, rfl, rfl, fun _ => rfl, Below.refl _ _⟩
      case round =>
        clear b0 b1 b2
        obtain ⟨j, hj, rfl, rfl, hdead, hb⟩ := hrel
        have hbk := HBo.out.trans (hb.mono HBo.out.size)
        have BR := HB1.out.below hbk
        have b0 := BR.c0
        have b1 := BR.c1
        have b2 := BR.c2
        rw [HHi.out] at b0
        rw [← HN.out] at b1
        clear BR
        by_cases hjd : j ≤ d
        · have dj : decide ((j : Int) ≤ (d : Int)) = true := by simp; omega
          have HA1 := hideg (HAl.out q d wr hqn hbk)
          cases alq : aliveB (d : Int) g.lives (q : Int) with
          | false =>
            have hj0 := hdead alq
            subst hj0
            have HV : Hid (depV g q d k = depG g q d k 0) := by show _ = _; unfold depV; rw [alq]; rfl
            rw [HV.out] at HSu
            rw [alq] at HA1
            generalize depG g q d k 0 = m at HSu ⊢
            clear hdead alq HV
            go_wp2_with fail
            refine HA1.out.mono ?_
            rintro r w6 ⟨rfl, hb6⟩
            have HB6 := hideg (hb.trans (hb6.mono hb.size))
            clear HA1 hb6 b0 b1 b2 hb hbk
            have hown := ownsRow_below HOwn.out HB6.out
            have hbt := HBo.out.trans (Below.mono HB6.out HBo.out.size)
            have hszt := hbt.size
            go_wp2_with (at_builtin; refine wpList_append_own _ rfl _ _ 28 rfl w1.heap.size 3 i0 (.int .i64 0) 1 8 Try.underlying28 hi hz0 hz1 hz2 rfl (by decide) _ _ _ rfl (World.ownsRow.alloc (w := w6) hown _) ⟨w6.heap.size, 0, none⟩ 1 1 [.int .i64 m] rfl rfl (cell_one_new _ _ _) (by intro u hu; simp at hu; subst hu; rfl) (by unfold maxLen; omega) (by omega) (by simp; omega) ?_; intro v' w5 hown5 hgrow _)
            have hb5 := (hbt.alloc hszt _).grown hgrow (by simp; omega) (fun q hq => (hown.lt q hq).1)
            exact ⟨⟨k + 1, by omega, by go_num, by rw [HSu.out]; exact hown5, hb5⟩, by simp [intOf]; omega⟩
          | true =>
            rw [alq] at HA1
            have HD : Hid (aliveB (d : Int) g.lives (q : Int) = true) := alq
            clear hdead alq
            have hjw : IntKind.i64.wrap ((j : Int) + 1) = (j : Int) + 1 := wrap_nr _ (by omega) (by omega)
            have HSt : Hid (depG g q d k (j + 1) = if aliveB (j : Int) g.lives (k : Int) = true ∧ (arrF g k j).getD q 0 ≤ (d : Int) then (j : Int) else depG g q d k j) := rfl
            generalize depG g q d k j = m at HSt ⊢
            go_wp2_with fail
            refine HA1.out.mono ?_
            rintro r w6 ⟨rfl, hb6⟩
            have hb06 := hb.trans (hb6.mono hb.size)
            have hb16 := HBo.out.trans (hb06.mono HBo.out.size)
            have BR := HB1.out.below hb16
            clear b0 b1 b2
            have b0 := BR.c0
            have b1 := BR.c1
            have b2 := BR.c2
            rw [HHi.out] at b0
            rw [← HN.out] at b1
            have HA2 := hideg (HAl.out k j w6 hkn hb16)
            clear BR HA1 hb6 hb hbk
            cases al2 : aliveB (j : Int) g.lives (k : Int) with
            | false =>
              have HS2 : Hid (depG g q d k (j + 1) = m) := by show _ = _; rw [HSt.out, if_neg (fun h => by rw [al2] at h; cases h.1)]
              rw [al2] at HA2
              clear al2 HSt
              go_wp2_with fail
              refine HA2.out.mono ?_
              rintro r w7 ⟨rfl, hb7⟩
              have HB7 := hideg (hb06.trans (hb7.mono hb06.size))
              clear HA2 hb7 hb06 hb16 b0 b1 b2
              go_wp2
              go_roundw
              case rel => exact ⟨j + 1, by omega, by go_num, by rw [HS2.out], (fun h => by cases h), HB7.out⟩
              case measure => simp [intOf]; omega
            | true =>
              have HS2 : Hid (depG g q d k (j + 1) = if (arrF g k j).getD q 0 ≤ (d : Int) then (j : Int) else m) := by show _ = _; rw [HSt.out, al2]; simp
              rw [al2] at HA2
              clear al2 HSt
              go_wp2_with fail
              refine HA2.out.mono ?_
              rintro r w7 ⟨rfl, hb7⟩
              have hb07 := hb06.trans (hb7.mono hb06.size)
              have hb17 := HBo.out.trans (hb07.mono HBo.out.size)
              have BR := HB1.out.below hb17
              clear b0 b1 b2
              have b0 := BR.c0
              have b1 := BR.c1
              have b2 := BR.c2
              rw [HHi.out] at b0
              rw [← HN.out] at b1
              have HC := hideg (HAr.out k j w7 hkn (by omega) hb17)
              have hqi : (q : Int) < (n : Int) := by omega
              clear BR HA2 hb7 hb06 hb16
              go_wp2_with fail
              refine HC.out.mono ?_
              rintro r w8 ⟨gq, cap, rfl, hZ, hb8⟩
              have x1 := hZ.cell hqn
              have HB8 := hideg (hb07.trans (hb8.mono hb07.size))
              clear HC hZ hb8 hb07 hb17 b0 b1 b2
              generalize (arrF g k j).getD q 0 = x at HS2 x1
              by_cases h1 : x ≤ (d : Int)
              · have d1 : decide (x ≤ (d : Int)) = true := by simpa using h1
                have HS3 : Hid (depG g q d k (j + 1) = (j : Int)) := by show _ = _; rw [HS2.out, if_pos h1]
                clear HS2 h1
                go_wp2
                go_roundw
                case rel => exact ⟨j + 1, by omega, by go_num, by rw [HS3.out], (fun h => by cases h), HB8.out⟩
                case measure => simp [intOf]; omega
              · have d1 : decide (x ≤ (d : Int)) = false := by simpa using h1
                have HS3 : Hid (depG g q d k (j + 1) = m) := by show _ = _; rw [HS2.out, if_neg h1]
                clear HS2 h1
                go_wp2
                go_roundw
                case rel => exact ⟨j + 1, by omega, by go_num, by rw [HS3.out], (fun h => by cases h), HB8.out⟩
                case measure => simp [intOf]; omega
        · have hje : d + 1 = j := by omega
          subst hje
          have dj : decide (((d + 1 : Nat) : Int) ≤ (d : Int)) = false := by simp; omega
          have HV : Hid (depV g q d k = depG g q d k (d + 1)) := by
            show _ = _
            unfold depV
            cases alq : aliveB (d : Int) g.lives (q : Int) with
            | true => rfl
            | false => exact absurd (hdead alq) (by omega)
          rw [HV.out] at HSu
          generalize depG g q d k (d + 1) = m at HSu ⊢
          have HBw := hideg hb
          clear hdead HV hb hbk b0 b1 b2
          have hown := ownsRow_below HOwn.out HBw.out
          have hbt := HBo.out.trans (Below.mono HBw.out HBo.out.size)
          have hszt := hbt.size
          go_wp2_with (at_builtin; refine wpList_append_own _ rfl _ _ 28 rfl w1.heap.size 3 i0 (.int .i64 0) 1 8 Try.underlying28 hi hz0 hz1 hz2 rfl (by decide) _ _ _ rfl (World.ownsRow.alloc (w := wr) hown _) ⟨wr.heap.size, 0, none⟩ 1 1 [.int .i64 m] rfl rfl (cell_one_new _ _ _) (by intro u hu; simp at hu; subst hu; rfl) (by unfold maxLen; omega) (by omega) (by simp; omega) ?_; intro v' w5 hown5 hgrow _)
          have hb5 := (hbt.alloc hszt _).grown hgrow (by simp; omega) (fun q hq => (hown.lt q hq).1)
          exact ⟨⟨k + 1, by omega, by go_num, by rw [HSu.out]; exact hown5, hb5⟩, by simp [intOf]; omega⟩
    · have hke : n = k := by omega
      subst hke
      have HO := hideg hown
      have HF := hideg BR.bel
      have HW := hideg HB1.out.bel.size
      clear hown hb BR
      go_wp2
      go_ret
      exact ⟨_, rfl, owns_base2 HO.out HW.out, HF.out⟩

end Go.Proofs.Ythgelfnflafoiab
