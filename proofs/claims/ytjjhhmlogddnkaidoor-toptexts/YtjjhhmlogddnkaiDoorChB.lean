/-
  What waitTill of the program's states does.
-/
import Derived.Test.YtjjhhmlogddnkaiDoorChA
namespace Go.Proofs.YtjjhhmlogddnkaiDoor
open Go.RowKit

/-- memory that is no map stays while a map is written -/
theorem MapAt.cell {w w' : World} {b n : Nat} {M : Mp} (h : MapAt w b n M) (hg : w.grownBy w' (some b)) {a : Addr} {x : Value} (hx : w.cell? a = some x) : w'.cell? a = some x := by
  refine hg.cell hx (fun e => ?_)
  obtain ⟨D, ⟨es, clock, hb, _⟩, _⟩ := h
  have e : a.block = b := by simpa using e
  unfold World.cell? at hx
  rw [e, hb] at hx
  cases hx
theorem gat_keep {w w' : World} {la ea : Option Addr} {g : Gr} (h : GAt w la ea g) (hs : w.heap.size ≤ w'.heap.size) (hc : ∀ a x, w.cell? a = some x → w'.cell? a = some x) : GAt w' la ea g := by
  refine ⟨?_, ?_, h.nl, h.ne⟩
  · rcases h.lv with h | ⟨b, off, rfl, hlt, hk⟩
    · exact .inl h
    · exact .inr ⟨b, off, rfl, Nat.lt_of_lt_of_le hlt hs, fun j hj => ⟨hc _ _ (hk j hj).1, hc _ _ (hk j hj).2⟩⟩
  · rcases h.ed with h | ⟨b, off, rfl, hlt, hk⟩
    · exact .inl h
    · refine .inr ⟨b, off, rfl, Nat.lt_of_lt_of_le hlt hs, fun j hj => ?_⟩
      obtain ⟨c0, c1, lo, lc, c2, hl, n1, n2⟩ := hk j hj
      refine ⟨hc _ _ c0, hc _ _ c1, lo, lc, hc _ _ c2, ?_, n1, n2⟩
      rcases hl with hl | ⟨b', off', rfl, hlt', hk'⟩
      · exact .inl hl
      · exact .inr ⟨b', off', rfl, Nat.lt_of_lt_of_le hlt' hs, fun i hi => ⟨hc _ _ (hk' i hi).1, hc _ _ (hk' i hi).2.1, hc _ _ (hk' i hi).2.2.1, hc _ _ (hk' i hi).2.2.2⟩⟩
theorem MapAt.gat {w w' : World} {b n : Nat} {M : Mp} (h : MapAt w b n M) (hg : w.grownBy w' (some b)) {la ea : Option Addr} {g : Gr} (hG : GAt w la ea g) : GAt w' la ea g := gat_keep hG hg.size (fun _ _ hx => h.cell hg hx)
theorem wi_small {n : Int} (h0 : -1000000 ≤ n) (h1 : n ≤ 1000000) : Wi n := by unfold Wi; omega

theorem waitV_none {g : Gr} {now : Int} {M : Mp} {v : Int} (h : M v (now - 1) = none) : waitV g now M v = M := by unfold waitV; rw [h]
theorem waitV_dead {g : Gr} {now : Int} {M : Mp} {v : Int} (h : aliveB now g.lives v = false) : waitV g now M v = M := by
  unfold waitV
  cases M v (now - 1) with
  | none => rfl
  | some x => simp [h]
theorem waitV_some {g : Gr} {now : Int} {M : Mp} {v : Int} {x : Vs} (h : M v (now - 1) = some x) (ha : aliveB now g.lives v = true) : waitV g now M v = if leqB (M v now) x.1 = true then mset M v now x else M := by
  unfold waitV; rw [h]; simp only; rw [if_pos ha]

set_option maxRecDepth 100000 in
set_option maxHeartbeats 1000000 in
theorem waitTill_any (g : Gr) (la ea : Option Addr) (lc ec : Nat) (b n : Nat) (M : Mp) (now : Int) (w : World) (hG : GAt w la ea g) (hR : Right g) (hM : MapAt w b n M) (hn : n < 50000) (h0 : 0 ≤ now ∧ now < 1000) :
    Calls Tryd.prog 55 #[.map (some b), .agg #[.int .i64 g.hor, .slice la g.lives.length lc, .slice ea g.edges.length ec], .int .i64 now] w fun res w' => (∃ v, res = .returned v) ∧ MapAt w' b (n + g.lives.length) (waitM g now M g.lives.length) ∧ w.grownBy w' (some b) := by
  obtain ⟨w1, hw1⟩ : ∃ x, x = w.alloc (.cells #[.int .i64 g.hor, .slice la g.lives.length lc, .slice ea g.edges.length ec] 25) := ⟨_, rfl⟩
  have B0 : GBx w w1 w.heap.size g la ea lc ec := by rw [hw1]; exact gbx_start w g la ea lc ec 25
  have M1 := hM.below B0.bel
  have hG1 := hG.below B0.bel
  have hlv := hR.lvs
  have g1 := B0.c1
  have hw1s := hw1.symm
  have HB0 := hideg B0.bel
  have HM1 := hideg M1
  have HG1 := hideg hG1
  have hnow1 : IntKind.i64.wrap (now - 1) = now - 1 := wrap_nj _ (by omega) (by omega)
  clear hM hG hR hw1 B0 M1 hG1
  go_enter Tryd.func55, Tryd.ntmps55
  go_wp2_with fail
  clear hw1s
  go_loopw [15] (fun i wr => ∃ k : Nat, k ≤ g.lives.length ∧ i = .int .i64 k ∧ MapAt wr b (n + k) (waitM g now M k) ∧ w1.grownBy wr (some b)) (fun i _ => g.lives.length - (intOf i).toNat)
  case atStart => exact ⟨0, Nat.zero_le _, rfl, HM1.out, gby_refl _ _⟩
  case round =>
    clear g1
    obtain ⟨k, hk, rfl, hMk, hg⟩ := hrel
    by_cases hkl : k < g.lives.length
    · have hki : (k : Int) < (g.lives.length : Int) := by omega
      have hkw : IntKind.i64.wrap ((k : Int) + 1) = (k : Int) + 1 := wrap_nj _ (by omega) (by omega)
      obtain ⟨lb, lof, rfl, hlb, l0, l1⟩ : ∃ b off, la = some ⟨b, off, none⟩ ∧ b < wr.heap.size ∧ (wr.cell? ⟨b, off + k * 2, none⟩ = some (.int .i64 g.lives[k].1) ∧ wr.cell? ⟨b, off + k * 2 + 1, none⟩ = some (.int .i64 g.lives[k].2)) := by
        rcases (HM1.out.gat hg HG1.out).lv with h0 | ⟨b, off, rfl, hbr, hc⟩
        · rw [h0] at hkl; simp at hkl
        exact ⟨b, off, rfl, hbr, IvAt.get hkl hc⟩
      have hal := fun W => jalive_any g.lives[k].1 g.lives[k].2 now W
      rw [← aliveB_at now g.lives k hkl] at hal
      obtain ⟨wa, hwa⟩ : ∃ x, x = wr.alloc (.cells #[.int .i64 g.lives[k].1, .int .i64 g.lives[k].2] 51) := ⟨_, rfl⟩
      have ba : Below wr.heap.size wr wa := by rw [hwa]; exact gal wr _
      have y0 : wa.cell? ⟨wr.heap.size, 0, none⟩ = some (.int .i64 g.lives[k].1) := by rw [hwa]; exact new_cell rfl rfl
      have y1 : wa.cell? ⟨wr.heap.size, 1, none⟩ = some (.int .i64 g.lives[k].2) := by rw [hwa]; exact new_cell rfl rfl
      have sa : wr.heap.size < wa.heap.size := by rw [hwa]; simp
      have Ma := hMk.below ba
      have k1 := Ma.look (v := (k : Int)) (t := now - 1) (wi_small (by omega) (by omega)) (wi_small (by omega) (by omega))
      have HSu : Hid (waitM g now M (k + 1) = waitV g now (waitM g now M k) (k : Int)) := rfl
      generalize waitM g now M k = Mk at *
      have HGa : Hid (∀ W, Below wa.heap.size wa W → w1.grownBy W (some b)) := fun W h => gby_trans hg (gby_of_below (ptg ba h) _)
      have HMa : Hid (∀ W, Below wa.heap.size wa W → MapAt W b (n + k) Mk) := fun W h => Ma.below h
      have hwas := hwa.symm
      clear hwa hMk hg ba Ma
      have NO : Hid (waitM g now M (k + 1) = Mk → ∀ W, Below wa.heap.size wa W → MapAt W b (n + (k + 1)) (waitM g now M (k + 1)) ∧ w1.grownBy W (some b)) := fun h W hW => by rw [h]; exact ⟨(HMa.out W hW).mono (by omega), HGa.out W hW⟩
      cases h1 : Mk (k : Int) (now - 1) with
      | none =>
        have HE := hideg (NO.out (HSu.out.trans (waitV_none h1)))
        rw [h1] at k1
        simp only [keyV, Option.getD_none, encV_mk, Option.isSome_none] at k1
        clear h1 hal HSu NO
        generalize g.lives[k] = lf at *
        go_wp2
        go_roundw
        case rel => exact ⟨k + 1, by omega, by go_num, (HE.out _ (gal wa _)).1, (HE.out _ (gal wa _)).2⟩
        case measure => simp [intOf]; omega
      | some x =>
        obtain ⟨q, E2, d2, a2, e2, ar2, c2⟩ := x
        rw [h1] at k1
        simp only [keyV, Option.getD_some, encV_mk, Option.isSome_some] at k1
        obtain ⟨wb, hwb⟩ : ∃ x, x = wa.alloc (.cells #[.int .i64 q, .int .i64 E2, .int .i64 d2, .int .i64 a2, .int .i64 e2, .int .i64 ar2, .int .i64 c2] 90) := ⟨_, rfl⟩
        have bb : Below wa.heap.size wa wb := by rw [hwb]; exact gal wa _
        have z0 : ∀ j x, #[Value.int .i64 q, .int .i64 E2, .int .i64 d2, .int .i64 a2, .int .i64 e2, .int .i64 ar2, .int .i64 c2][j]? = some x → wb.cell? ⟨wa.heap.size, j, none⟩ = some x := fun j x hx => by rw [hwb]; exact new_cell rfl hx
        have y0b := (bb.cell (p := ⟨wr.heap.size, 0, none⟩) sa).trans y0
        have y1b := (bb.cell (p := ⟨wr.heap.size, 1, none⟩) sa).trans y1
        have sb : wa.heap.size < wb.heap.size := by rw [hwb]; simp
        have hwbs := hwb.symm
        clear hwb
        cases ha : aliveB now g.lives (k : Int) with
        | false =>
          rw [ha] at hal
          have HE := hideg (fun W h => NO.out (HSu.out.trans (waitV_dead ha)) W (ptg bb h))
          clear h1 HSu NO ha z0
          generalize g.lives[k] = lf at *
          go_wp2_with fail
          refine (hal _).mono ?_
          rintro r w5 ⟨rfl, hb5⟩
          have HE5 := hideg (HE.out _ hb5)
          clear hal hb5 HE
          go_wp2
          go_roundw
          case rel => exact ⟨k + 1, by omega, by go_num, HE5.out.1, HE5.out.2⟩
          case measure => simp [intOf]; omega
        | true =>
          rw [ha] at hal
          have HV : Hid (waitM g now M (k + 1) = if leqB (Mk (k : Int) now) q = true then mset Mk (k : Int) now (q, E2, d2, a2, e2, ar2, c2) else Mk) := HSu.out.trans (waitV_some h1 ha)
          have HZ := hideg z0
          clear h1 HSu ha z0
          generalize g.lives[k] = lf at *
          go_wp2_with fail
          refine (hal _).mono ?_
          rintro r w5 ⟨rfl, hb5⟩
          have M5 := HMa.out w5 (ptg bb hb5)
          have k2 := M5.look (v := (k : Int)) (t := now) (wi_small (by omega) (by omega)) (wi_small (by omega) (by omega))
          have YES : Hid (waitM g now M (k + 1) = mset Mk (k : Int) now (q, E2, d2, a2, e2, ar2, c2) → ∀ W, Below w5.heap.size w5 W → ∃ w', (Instr.mapUpdate 87 (.map (some b)) (.agg #[.int .i64 (k : Int), .int .i64 now]) (.agg #[.int .i64 q, .int .i64 E2, .int .i64 d2, .int .i64 a2, .int .i64 e2, .int .i64 ar2, .int .i64 c2])).run Tryd.prog W = .ok () w' ∧ Hid (MapAt w' b (n + (k + 1)) (waitM g now M (k + 1)) ∧ w1.grownBy w' (some b))) := fun h W hW => by
            obtain ⟨w', r1, r2, r3⟩ := (M5.below hW).store (by unfold maxLen; omega) (v := (k : Int)) (t := now) (wi_small (by omega) (by omega)) (wi_small (by omega) (by omega)) (q, E2, d2, a2, e2, ar2, c2)
            exact ⟨w', r1, by rw [h]; exact r2, gby_trans (HGa.out W (ptg bb (ptg hb5 hW))) r3⟩
          have HC : Hid (∀ W, Below w5.heap.size w5 W → ∀ j x, #[Value.int .i64 q, .int .i64 E2, .int .i64 d2, .int .i64 a2, .int .i64 e2, .int .i64 ar2, .int .i64 c2][j]? = some x → W.cell? ⟨wa.heap.size, j, none⟩ = some x) := fun W hW j x hx => ((ptg hb5 hW).cell (p := ⟨wa.heap.size, j, none⟩) sb).trans (HZ.out j x hx)
          have HNO5 : Hid (waitM g now M (k + 1) = Mk → ∀ W, Below w5.heap.size w5 W → MapAt W b (n + (k + 1)) (waitM g now M (k + 1)) ∧ w1.grownBy W (some b)) := fun h W hW => NO.out h W (ptg bb (ptg hb5 hW))
          clear hal M5 NO HMa HGa hwas hwbs k1 y0 y1 y0b y1b bb hb5 HZ l0 l1
          cases h2 : Mk (k : Int) now with
          | none =>
            rw [h2] at k2
            simp only [keyV, Option.getD_none, encV_mk, Option.isSome_none] at k2
            have HT := hideg (YES.out (by rw [HV.out, h2]; rfl))
            clear h2 HV YES
            obtain ⟨o, ho⟩ : ∃ o : Obj, o = .cells #[.int .i64 0, .int .i64 0, .int .i64 0, .int .i64 0, .int .i64 0, .int .i64 0, .int .i64 0] 90 := ⟨_, rfl⟩
            obtain ⟨w', hup, HF⟩ := HT.out _ (gal w5 o)
            have c0 := HC.out _ (gal w5 o) 0 _ rfl
            have c1 := HC.out _ (gal w5 o) 1 _ rfl
            have c2' := HC.out _ (gal w5 o) 2 _ rfl
            have c3 := HC.out _ (gal w5 o) 3 _ rfl
            have c4 := HC.out _ (gal w5 o) 4 _ rfl
            have c5 := HC.out _ (gal w5 o) 5 _ rfl
            have c6 := HC.out _ (gal w5 o) 6 _ rfl
            subst ho
            clear HT HC
            go_wp2
            go_roundw
            case rel => exact ⟨k + 1, by omega, by go_num, HF.out.1, HF.out.2⟩
            case measure => simp [intOf]; omega
          | some y =>
            obtain ⟨q2, E3, d3, a3, e3, ar3, c3⟩ := y
            rw [h2] at k2
            simp only [keyV, Option.getD_some, encV_mk, Option.isSome_some] at k2
            obtain ⟨w6, hw6⟩ : ∃ x, x = w5.alloc (.cells #[.int .i64 q2, .int .i64 E3, .int .i64 d3, .int .i64 a3, .int .i64 e3, .int .i64 ar3, .int .i64 c3] 90) := ⟨_, rfl⟩
            have b6 : Below w5.heap.size w5 w6 := by rw [hw6]; exact gal w5 _
            have v0 : w6.cell? ⟨w5.heap.size, 0, none⟩ = some (.int .i64 q2) := by rw [hw6]; exact new_cell rfl rfl
            have c0 := HC.out w6 b6 0 _ rfl
            have c1 := HC.out w6 b6 1 _ rfl
            have c2' := HC.out w6 b6 2 _ rfl
            have c3' := HC.out w6 b6 3 _ rfl
            have c4 := HC.out w6 b6 4 _ rfl
            have c5 := HC.out w6 b6 5 _ rfl
            have c6 := HC.out w6 b6 6 _ rfl
            have hw6s := hw6.symm
            clear hw6 HC
            by_cases hl : q ≤ q2
            · have HT := hideg (YES.out (by rw [HV.out, h2, if_pos (by simp [leqB, hl])]))
              obtain ⟨w', hup, HF⟩ := HT.out w6 b6
              clear h2 HV YES HT HNO5
              go_wp2
              go_roundw
              case rel => exact ⟨k + 1, by omega, by go_num, HF.out.1, HF.out.2⟩
              case measure => simp [intOf]; omega
            · have HT := hideg (HNO5.out (by rw [HV.out, h2, if_neg (by simp [leqB]; omega)]) w6 b6)
              clear h2 HV YES HNO5
              go_wp2
              go_roundw
              case rel => exact ⟨k + 1, by omega, by go_num, HT.out.1, HT.out.2⟩
              case measure => simp [intOf]; omega
    · have hke : k = g.lives.length := by omega
      subst hke
      have HF := hideg hMk
      have HG := hideg (gby_trans (gby_of_below HB0.out (some b)) hg)
      clear hMk hg
      go_wp2_with fail
      refine bodyPost_end (results_none rfl _ _ _) rfl ⟨⟨_, rfl⟩, HF.out, HG.out⟩

end Go.Proofs.YtjjhhmlogddnkaiDoor
