/-
  What Reverse of the program answers.
-/
import Derived.Test.YtanbbkoleekmjagRRev
import Derived.Test.YtanbbkoleekmjagTnA
namespace Go.Proofs.Ytanbbkoleekmjag
open Go.RowKit

/-- what Reverse answers -/
def tRevA (g : Gr) : Gr × Int := if gChk g = 0 then revA g else (⟨0, [], []⟩, gChk g)

set_option maxRecDepth 100000 in
set_option maxHeartbeats 1000000 in
theorem tRev_ok (g : Gr) (la ea : Option Addr) (lc ec : Nat) (w : World) (hG : GAt w la ea g) (h0 : gChk g = 0) :
    Calls Try.prog 20 #[.agg #[.int .i64 g.hor, .slice la g.lives.length lc, .slice ea g.edges.length ec]] w fun r w' => ∃ la' ea' lc' ec', r = .returned (.tuple #[.agg #[.int .i64 (revA g).1.hor, .slice la' (revA g).1.lives.length lc', .slice ea' (revA g).1.edges.length ec'], .int .i64 (revA g).2]) ∧ GAt w' la' ea' (revA g).1 ∧ Below w.heap.size w w' := by
  have hR := gChk_right h0
  obtain ⟨ii, hii, hi0, hi1, hi2⟩ := info_parts Try.infoIvlT
  obtain ⟨ie, hie, he0, he1, he2⟩ := info_parts Try.infoEdgeT
  have hhor := hR.hor
  have hl12 := hR.lvs
  have he30 := hR.eds
  obtain ⟨H, hH⟩ : ∃ H : Nat, g.hor = (H : Int) := ⟨g.hor.toNat, by omega⟩
  have hH1 : 1 ≤ H ∧ H ≤ 100 := by omega
  obtain ⟨wA, hwA⟩ : ∃ x, x = (w.alloc (.cells #[.int .i64 g.hor, .slice la g.lives.length lc, .slice ea g.edges.length ec] 25)).alloc (.cells #[.int .i64 0, .slice none 0 0, .slice none 0 0] 25) := ⟨_, rfl⟩
  have hsA : wA.heap.size = w.heap.size + 1 + 1 := by rw [hwA]; simp
  have hbA : Below w.heap.size w wA := by rw [hwA]; exact ptg (gal w _) (gal _ _)
  have HGx0 : Hid (∀ W, Below wA.heap.size wA W → W.cell? ⟨w.heap.size, 0, none⟩ = some (.int .i64 (H : Int)) ∧ W.cell? ⟨w.heap.size, 1, none⟩ = some (.slice la g.lives.length lc) ∧ W.cell? ⟨w.heap.size, 2, none⟩ = some (.slice ea g.edges.length ec) ∧ W.heap[w.heap.size + 1]? = some (.cells #[.int .i64 0, .slice none 0 0, .slice none 0 0] 25 (0, 0)) ∧ GAt W la ea g ∧ Below w.heap.size w W) := by
    intro W hb
    have c : ∀ j x, #[Value.int .i64 g.hor, .slice la g.lives.length lc, .slice ea g.edges.length ec][j]? = some x → W.cell? ⟨w.heap.size, j, none⟩ = some x := by
      intro j x hx
      rw [hb.cell (p := ⟨w.heap.size, j, none⟩) (by simp only; omega), hwA, (gal _ _).cell (p := ⟨w.heap.size, j, none⟩) (by simp)]
      exact new_cell rfl hx
    have hW : Below w.heap.size w W := hbA.trans (hb.mono (by omega))
    refine ⟨(c 0 _ rfl).trans (by simp [hH]), c 1 _ rfl, c 2 _ rfl, ?_, hG.below hW, hW⟩
    rw [hb.block _ (by omega), hwA]
    have := heap_alloc_new (w.alloc (.cells #[.int .i64 g.hor, .slice la g.lives.length lc, .slice ea g.edges.length ec] 25)) (.cells #[.int .i64 0, .slice none 0 0, .slice none 0 0] 25)
    simpa using this
  have hC := gCheck_any g la ea lc ec wA (hG.below hbA)
  rw [h0, hH] at hC
  have HRt := hideg hR
  rw [hH] at hwA
  have HHor := hideg hH
  rw [hH]
  have HWA := hideg hwA.symm
  have HsA := hideg hsA
  have HLb : Hid (∀ b off, la = some ⟨b, off, none⟩ → 0 < g.lives.length → b < w.heap.size) := by
    intro b off e hl
    rcases hG.lv with h | ⟨b', off', e', h1, _⟩
    · rw [h] at hl; simp at hl
    · rw [e] at e'; cases e'; exact h1
  have HEd : Hid (∀ i (h : i < g.edges.length), ∃ eb eof lo lcap, ea = some ⟨eb, eof, none⟩ ∧ ∀ W, Below w.heap.size w W → W.cell? ⟨eb, eof + i * 3, none⟩ = some (.int .i64 g.edges[i].1) ∧ W.cell? ⟨eb, eof + i * 3 + 1, none⟩ = some (.int .i64 g.edges[i].2.1) ∧ W.cell? ⟨eb, eof + i * 3 + 2, none⟩ = some (.slice lo g.edges[i].2.2.length lcap) ∧ LgAt W lo g.edges[i].2.2) := by
    intro i h
    rcases hG.ed with h0 | ⟨eb, eof, rfl, heb, hce⟩
    · rw [h0] at h; simp at h
    · obtain ⟨c0, c1, lo, lcap, c2, hL, _, _⟩ := hce i h
      exact ⟨eb, eof, lo, lcap, rfl, fun W hb => ⟨(hb.cell (p := ⟨eb, eof + i * 3, none⟩) heb).trans c0, (hb.cell (p := ⟨eb, eof + i * 3 + 1, none⟩) heb).trans c1, (hb.cell (p := ⟨eb, eof + i * 3 + 2, none⟩) heb).trans c2, hL.below hb⟩⟩
  clear hG hR hbA hhor hwA hH h0 hsA
  go_enter Try.func20, Try.ntmps20
  go_wp2_with fail
  rw [HWA.out]
  refine hC.mono ?_
  rintro r wC ⟨rfl, hbC⟩
  obtain ⟨q0, q1, q2, _⟩ := HGx0.out wC hbC
  obtain ⟨B, hB⟩ : ∃ B, B = wC.heap.size := ⟨_, rfl⟩
  have hsA := HsA.out
  have hwB : w.heap.size + 1 < B := by have := hbC.size; omega
  have HGx : Hid (∀ W, Below B wC W → W.cell? ⟨w.heap.size, 0, none⟩ = some (.int .i64 (H : Int)) ∧ W.cell? ⟨w.heap.size, 1, none⟩ = some (.slice la g.lives.length lc) ∧ W.cell? ⟨w.heap.size, 2, none⟩ = some (.slice ea g.edges.length ec) ∧ W.heap[w.heap.size + 1]? = some (.cells #[.int .i64 0, .slice none 0 0, .slice none 0 0] 25 (0, 0)) ∧ GAt W la ea g ∧ Below w.heap.size w W) := fun W hb => HGx0.out W (hbC.trans (hb.mono (by have := hbC.size; omega)))
  obtain ⟨w2, hw2⟩ : ∃ x, x = wC.alloc (.cells #[.int .i64 (H : Int), .slice none 0 0, .slice none 0 0] 25) := ⟨_, rfl⟩
  have hbA2 : Below B wC w2 := by rw [hw2, hB]; exact gal wC _
  have hG2 : GOwn B B w2 (H : Int) (.slice none 0 0) (.slice none 0 0) [] [] := ⟨by rw [hw2, hB]; exact heap_alloc_new wC _, Nat.le_refl _, World.ownsRow_nil _ _ _ _, World.ownsRow_nil _ _ _ _, fun p hp => by simp at hp, fun M p h => by simp at h⟩
  have HG2 := hideg hG2
  have HbA2 := hideg hbA2
  have HW2 := hideg hw2.symm
  have HHB := hideg hB
  clear hC hbC HGx0 HWA hG2 hbA2 hw2 hB hsA HsA
  obtain ⟨_, p1, _⟩ := HGx.out w2 HbA2.out
  rw [← HW2.out] at p1
  go_wp2_with fail
  rw [HW2.out, ← HHB.out]
  clear q0 q1 q2 p1 HW2 HHB
  go_loopw [26] (fun i wr => ∃ (k : Nat) (vL : Value), k ≤ g.lives.length ∧ i = .int .i64 (k : Int) ∧ GOwn B B wr (H : Int) vL (.slice none 0 0) ((g.lives.take k).map (revIv (H : Int))) [] ∧ Below B wC wr) (fun i _ => g.lives.length - (intOf i).toNat)
  case atStart => exact ⟨0, _, Nat.zero_le _, rfl, HG2.out, HbA2.out⟩
  case round =>
    clear HG2 HbA2
    obtain ⟨k, vL, hk, rfl, hO, hb⟩ := hrel
    obtain ⟨q0, q1, q2, qR, hGA, hbw⟩ := HGx.out wr hb
    by_cases hlt : k < g.lives.length
    · have hki : (k : Int) < (g.lives.length : Int) := by omega
      have hkw : IntKind.i64.wrap ((k : Int) + 1) = (k : Int) + 1 := wrap_nj _ (by omega) (by omega)
      have hli := HRt.out.life _ (List.getElem_mem hlt)
      rw [HHor.out] at hli
      have HTk := hideg (take_map_rev (H : Int) g.lives k hlt)
      rcases hGA.lv with h0 | ⟨lb, lof, rfl, hlb, hc⟩
      · rw [h0] at hlt; simp at hlt
      obtain ⟨c0, c1⟩ := IvAt.get hlt hc
      generalize g.lives[k] = pp at *
      obtain ⟨pf, pt⟩ := pp
      simp only at hli c0 c1 HTk
      have hM := hideg (fun W => mirrored_any pf pt (H : Int) W (by omega) (by omega) (by omega))
      generalize hz1 : (H : Int) - pt = z1 at *
      generalize hz2 : (H : Int) - pf = z2 at *
      obtain ⟨wx, hwx⟩ : ∃ x, x = wr.alloc (.cells #[.int .i64 pf, .int .i64 pt] 55) := ⟨_, rfl⟩
      have bx : Below wr.heap.size wr wx := by rw [hwx]; exact gal wr _
      have y0 : wx.cell? ⟨wr.heap.size, 0, none⟩ = some (.int .i64 pf) := by rw [hwx]; exact new_cell rfl rfl
      have y1 : wx.cell? ⟨wr.heap.size, 1, none⟩ = some (.int .i64 pt) := by rw [hwx]; exact new_cell rfl rfl
      have hsx : wx.heap.size = wr.heap.size + 1 := by rw [hwx]; simp
      have hOx := hO.below bx
      have hBl0 := heap_ltg hO.box
      have hbx := hb.trans (bx.mono (by omega))
      have g0 := (bx.cell (p := ⟨w.heap.size, 0, none⟩) (by simp only; omega)).trans q0
      have HWX := hideg hwx.symm
      obtain ⟨XB, hXB⟩ : ∃ x, x = wr.heap.size := ⟨_, rfl⟩
      rw [← hXB] at y0 y1 hsx
      have HXB := hideg hXB
      have HO := hideg hOx
      have HB := hideg hbx
      have p1 : wx.cell? ⟨B, 1, none⟩ = some vL := by rw [Lib.cell_of_heap hOx.box]; rfl
      obtain ⟨vo, vc, rfl, _, _⟩ := row_form hOx.lv
      have hlvl : ((g.lives.take k).map (revIv (H : Int))).length = k := by simp; omega
      rw [hlvl] at p1
      have hBl := heap_ltg hOx.box
      have hBs : B ≤ wx.heap.size := Nat.le_of_lt hBl
      have hne1 : some XB ≠ (Value.slice vo k vc).ownBlock := fun e => by have h1 := (hO.lv.lt XB (by rw [hlvl]; exact e.symm)).2; omega
      have hne0 : some w.heap.size ≠ (Value.slice vo k vc).ownBlock := fun e => by have h1 := (hOx.lv.lt w.heap.size (by rw [hlvl]; exact e.symm)).1; omega
      clear hO hOx hbx hb hGA hc qR hbw bx hwx hXB hli hz1 hz2
      go_wp2_with fail
      rw [HWX.out, ← HXB.out]
      clear q0 q1 q2 c0 c1 HWX HXB
      refine wp_region_back (S := fun w' => w'.cell? ⟨B, 1, none⟩ = some (.slice vo k vc) ∧ w'.cell? ⟨w.heap.size, 0, none⟩ = some (.int .i64 (H : Int)) ∧ w'.cell? ⟨XB, 0, none⟩ = some (.int .i64 pf) ∧ w'.cell? ⟨XB, 1, none⟩ = some (.int .i64 pt)) (by kernel_rfl) (by simp) (by kernel_rfl) (by kernel_rfl) ⟨p1, g0, y0, y1⟩ (fun hHeld => ?_)
      simp only [List.pop_toArray, List.dropLast, List.back!_toArray, List.getLast!]
      refine take_lit (i := 0) (v := ?_) rfl (by kernel_rfl) (by kernel_rfl) (by kernel_rfl) (fun _ _ _ h => h) (Or.inl ⟨by rfl, ?hy0⟩) (by assumption) ?_
      case hy0 => (intro w hSw; (try dsimp only at hSw); go_simp; try with_reducible rfl)
      try simp only [Act.put, List.setIfInBounds_toArray, List.set_cons_zero, List.set_cons_succ]
      refine take_lit (i := 1) (v := ?_) rfl (by kernel_rfl) (by kernel_rfl) (by kernel_rfl) (fun _ _ _ h => h) (Or.inl ⟨by rfl, ?hy1⟩) (by assumption) ?_
      case hy1 => (intro w hSw; (try dsimp only at hSw); go_simp; try with_reducible rfl)
      try simp only [Act.put, List.setIfInBounds_toArray, List.set_cons_zero, List.set_cons_succ]
      refine take_lit (i := 2) (v := ?_) rfl (by kernel_rfl) (by kernel_rfl) (by kernel_rfl) (fun _ _ _ h => h) (Or.inl ⟨by rfl, ?hy2⟩) (by assumption) ?_
      case hy2 => (intro w hSw; (try dsimp only at hSw); go_simp; try with_reducible rfl)
      try simp only [Act.put, List.setIfInBounds_toArray, List.set_cons_zero, List.set_cons_succ]
      refine take_lit (i := 3) (v := ?_) rfl (by kernel_rfl) (by kernel_rfl) (by kernel_rfl) (fun _ _ _ h => h) (Or.inl ⟨by rfl, ?hy3⟩) (by assumption) ?_
      case hy3 => (intro w hSw; (try dsimp only at hSw); go_simp; try with_reducible rfl)
      try simp only [Act.put, List.setIfInBounds_toArray, List.set_cons_zero, List.set_cons_succ]
      refine take_lit (i := 4) (v := ?_) rfl (by kernel_rfl) (by kernel_rfl) (by kernel_rfl) (fun _ _ _ h => h) (Or.inl ⟨by rfl, ?hy4⟩) (by assumption) ?_
      case hy4 => (intro w hSw; (try dsimp only at hSw); go_simp; try with_reducible rfl)
      try simp only [Act.put, List.setIfInBounds_toArray, List.set_cons_zero, List.set_cons_succ]
      refine next_lit (i := 5) rfl (by kernel_rfl) (fun K hK => ?_)
      go_simp
      refine (hM.out _).mono ?_
      rintro r wm ⟨rfl, hbm⟩
      have hbm' : Below wx.heap.size wx wm := (below_drewN (Below.refl _ _) 1).trans hbm
      have m1 := (hbm'.cell (p := ⟨B, 1, none⟩) hBl).trans p1
      have m2 := (hbm'.cell (p := ⟨w.heap.size, 0, none⟩) (by simp only; omega)).trans g0
      have m3 := (hbm'.cell (p := ⟨XB, 0, none⟩) (by simp only; omega)).trans y0
      have m4 := (hbm'.cell (p := ⟨XB, 1, none⟩) (by simp only; omega)).trans y1
      refine hK.out _ _ ⟨m1, m2, m3, m4⟩ (fun hHeld => ?_)
      clear hK K hHeld hbm
      try simp only [Act.put, List.setIfInBounds_toArray, List.set_cons_zero, List.set_cons_succ]
      refine next_lit (i := 6) rfl (by kernel_rfl) (fun K hK => ?_)
      go_simp
      have hwa : Below wx.heap.size wx (wm.alloc (.cells #[.int .i64 z1, .int .i64 z2] 55)) := hbm'.alloc hbm'.size _
      have n1 := (hwa.cell (p := ⟨B, 1, none⟩) hBl).trans p1
      have n2 := (hwa.cell (p := ⟨w.heap.size, 0, none⟩) (by simp only; omega)).trans g0
      have n3 := (hwa.cell (p := ⟨XB, 0, none⟩) (by simp only; omega)).trans y0
      have n4 := (hwa.cell (p := ⟨XB, 1, none⟩) (by simp only; omega)).trans y1
      refine hK.out _ _ ⟨n1, n2, n3, n4⟩ (fun hHeld => ?_)
      clear hK K hHeld m1 m2 m3 m4
      try simp only [Act.put, List.setIfInBounds_toArray, List.set_cons_zero, List.set_cons_succ]
      refine next_lit (i := 7) rfl (by kernel_rfl) (fun K hK => ?_)
      have hlv0 := ownsRow_below HO.out.lv hwa
      rw [hlvl] at hlv0
      have hzm := hbm'.size
      refine step_append_lies _ (by rfl) _ _ _ (by rfl) B 55 ii _ 2 16 Try.underlying22 hii hi0 hi1 hi2 rfl (by omega) (.slice vo k vc) k (encs ((g.lives.take k).map (revIv (H : Int)))) (by rfl) hlv0 ⟨wm.heap.size, 0, none⟩ 1 1 [.int .i64 z1, .int .i64 z2] (by rfl) (by rfl) (World.news_of_block (cs := #[.int .i64 z1, .int .i64 z2]) (t := 55) (fr := (0, 0)) (heap_alloc_new wm _)) (by simp [Value.oneCell']) (by omega) (by unfold maxLen; omega) (by omega) (by simp; omega) (wm.heap.size + 1) (by simp) ?_
      intro gg cap1 w4 hown1 hgrow hat hltg
      have hown2 : w4.ownsRow B 55 2 (.slice (some ⟨gg, 0, none⟩) (k + 1) cap1) (((g.lives.take k).map (revIv (H : Int))).length + 1) (encs ((g.lives.take k).map (revIv (H : Int))) ++ [.int .i64 z1, .int .i64 z2]) := by rw [hlvl]; exact hown1
      have hgr2 := hgrow
      rw [← hlvl] at hgr2
      obtain ⟨hbox4, hG4⟩ := HO.out.life hwa hgr2 hown2
      rw [hlvl] at hbox4
      have x1 : w4.cell? ⟨B, 1, none⟩ = some (.slice vo k vc) := by rw [Lib.cell_of_heap hbox4]; rfl
      have x2 : w4.cell? ⟨w.heap.size, 0, none⟩ = some (.int .i64 (H : Int)) := by rw [hgrow.cell_far _ (Nat.lt_of_lt_of_le (by simp only; omega) hwa.size) hne0]; exact n2
      have x3 : w4.cell? ⟨XB, 0, none⟩ = some (.int .i64 pf) := by rw [hgrow.cell_far _ (Nat.lt_of_lt_of_le (by simp only; omega) hwa.size) hne1]; exact n3
      have x4 : w4.cell? ⟨XB, 1, none⟩ = some (.int .i64 pt) := by rw [hgrow.cell_far _ (Nat.lt_of_lt_of_le (by simp only; omega) hwa.size) hne1]; exact n4
      have fz4 : w4.frozen? ⟨B, 1, none⟩ = false := Lib.frozen_of_heap hbox4 1
      have HB4 := hideg (((HB.out.trans (hwa.mono hBs)).grown hgrow (Nat.le_trans hBs hwa.size) (fun j hj => (hlv0.lt j hj).1)).setCell (p := ⟨B, 1, none⟩) (Nat.le_refl _) (.slice (some ⟨gg, 0, none⟩) (k + 1) cap1))
      have HG4 : Hid (GOwn B B (w4.setCell ⟨B, 1, none⟩ (.slice (some ⟨gg, 0, none⟩) (k + 1) cap1)) (H : Int) (.slice (some ⟨gg, 0, none⟩) (k + 1) cap1) (.slice none 0 0) ((g.lives.take (k + 1)).map (revIv (H : Int))) []) := by rw [HTk.out]; exact hG4
      refine hK.out _ _ ⟨x1, x2, x3, x4⟩ (fun hHeld => ?_)
      clear hK K hwa n1 n2 n3 n4 hgrow hgr2 hown1 hown2 hbox4 hG4 hat hltg hlv0 hbm' hzm
      try simp only [Act.put, List.setIfInBounds_toArray, List.set_cons_zero, List.set_cons_succ]
      refine take_lit (i := 8) (v := ?_) rfl (by kernel_rfl) (by kernel_rfl) (by kernel_rfl) (fun _ _ _ h => h) (Or.inl ⟨by rfl, ?hy8⟩) (by assumption) ?_
      case hy8 => (intro w hSw; (try dsimp only at hSw); go_simp; try with_reducible rfl)
      try simp only [Act.put, List.setIfInBounds_toArray, List.set_cons_zero, List.set_cons_succ]
      refine wpAnyH_done (by kernel_rfl) ?_ _
      refine back_last (fun K hK => ?_)
      clear hHeld
      go_simp
      refine hK.out _ _ ?_
      clear hK K x1 x2 x3 x4 fz4
      go_wp2
      go_roundw
      case rel => exact ⟨k + 1, _, by omega, by go_num, HG4.out, HB4.out⟩
      case measure => simp [intOf]; omega
    · have hkn : ¬ ((k : Int) < (g.lives.length : Int)) := by omega
      have hO' : GOwn B B wr (H : Int) vL (.slice none 0 0) (g.lives.map (revIv (H : Int))) [] := by rw [List.take_of_length_le (by omega)] at hO; exact hO
      have HO := hideg hO'
      have HB := hideg hb
      clear hO hO' hb hGA qR hbw hlt q0 q1 q2
      obtain ⟨wo, hwo⟩ : ∃ x, x = wr := ⟨_, rfl⟩
      subst hwo
      obtain ⟨q0, q1, q2, _⟩ := HGx.out wo HB.out
      go_wp2_with fail
      clear q0 q1 q2
      go_loopw [43] (fun i wr => ∃ (k : Nat) (vE : Value) (L : List (Ed × Value)), k ≤ g.edges.length ∧ i = .int .i64 (k : Int) ∧ GOwn B B wr (H : Int) vL vE (g.lives.map (revIv (H : Int))) L ∧ L.map (·.1) = revEs g k ∧ Below B wC wr) (fun i _ => g.edges.length - (intOf i).toNat)
      case atStart => exact ⟨0, _, [], Nat.zero_le _, rfl, HO.out, rfl, HB.out⟩
      case round =>
        clear HO HB
        obtain ⟨i, vE, L, hi, rfl, hO, hLm, hb⟩ := hrel
        obtain ⟨q0, q1, q2, qR, hGA, hbw⟩ := HGx.out wr hb
        by_cases hlt2 : i < g.edges.length
        · have hii2 : (i : Int) < (g.edges.length : Int) := by omega
          have hiw : IntKind.i64.wrap ((i : Int) + 1) = (i : Int) + 1 := wrap_nj _ (by omega) (by omega)
          obtain ⟨eb, eof, lo, lcap, rfl, hed⟩ := HEd.out i hlt2
          obtain ⟨c0, c1, c2, _⟩ := hed wr hbw
          have hel := (HRt.out.ends _ (List.getElem_mem hlt2)).2.2
          have HFit := hideg (fun l (hl : l ∈ g.edges[i].2.2) => HRt.out.legs _ (List.getElem_mem hlt2) l hl)
          have HSu := hideg (revEs_succ hlt2)
          have HLen := hideg (revEs_len HRt.out i hi)
          have HLg : Hid (∀ W, Below B wC W → LgAt W lo g.edges[i].2.2) := fun W hW => (hed W (HGx.out W hW).2.2.2.2.2).2.2.2
          rw [HHor.out] at HFit HSu
          generalize g.edges[i] = e at *
          obtain ⟨A, C, legs⟩ := e
          simp only at c0 c1 c2 hel HFit HSu HLg
          obtain ⟨wx, hwx⟩ : ∃ x, x = wr.alloc (.cells #[.int .i64 A, .int .i64 C, .slice lo legs.length lcap] 78) := ⟨_, rfl⟩
          have bx : Below wr.heap.size wr wx := by rw [hwx]; exact gal wr _
          obtain ⟨XB, hXB⟩ : ∃ x, x = wr.heap.size := ⟨_, rfl⟩
          have y0 : wx.cell? ⟨XB, 0, none⟩ = some (.int .i64 A) := by rw [hwx, hXB]; exact new_cell rfl rfl
          have y1 : wx.cell? ⟨XB, 1, none⟩ = some (.int .i64 C) := by rw [hwx, hXB]; exact new_cell rfl rfl
          have hXl : XB < wx.heap.size := by rw [hwx, hXB]; simp
          have hEX : vE.ownBlock ≠ some XB := fun e => by have := (hO.ed.lt XB e).2; omega
          have HOx := hideg (hO.below bx)
          have HBx := hideg (hb.trans (bx.mono (by have := heap_ltg hO.box; omega)))
          have HY := hideg (⟨y0, y1, hXl, hEX⟩ : _ ∧ _ ∧ _ ∧ _)
          have HLm := hideg hLm
          have hXw : B < XB := by have := heap_ltg hO.box; omega
          have HWX := hideg hwx.symm
          clear hO hb hGA hed qR hbw bx hLm y0 y1 hXl hEX hwx
          go_wp2_with fail
          rw [HWX.out, ← hXB]
          clear HWX hXB c0 c1 c2 q0 q1 q2
          obtain ⟨wr0, hwr0⟩ : ∃ x, x = wr := ⟨_, rfl⟩
          subst hwr0
          go_loopw [50] (fun j wr => ∃ (k : Nat) (vE : Value) (L : List (Ed × Value)), k ≤ legs.length ∧ j = .int .i64 (k : Int) ∧ GOwn B B wr (H : Int) vL vE (g.lives.map (revIv (H : Int))) L ∧ L.map (·.1) = revEs g i ++ revE (H : Int) (A, C, legs) k ∧ Below B wC wr ∧ (wr.cell? ⟨XB, 0, none⟩ = some (.int .i64 A) ∧ wr.cell? ⟨XB, 1, none⟩ = some (.int .i64 C) ∧ XB < wr.heap.size ∧ vE.ownBlock ≠ some XB)) (fun j _ => legs.length - (intOf j).toNat)
          case atStart => exact ⟨0, vE, L, Nat.zero_le _, rfl, HOx.out, by rw [HLm.out]; simp [revE], HBx.out, HY.out⟩
          case round =>
            clear HOx HBx HY HLm
            obtain ⟨k, vE, L, hk, rfl, hO, hLm, hb, y0, y1, hXl, hEX⟩ := hrel
            by_cases hkl : k < legs.length
            · have hki2 : (k : Int) < (legs.length : Int) := by omega
              have hkw2 : IntKind.i64.wrap ((k : Int) + 1) = (k : Int) + 1 := wrap_nj _ (by omega) (by omega)
              rcases HLg.out wr hb with h0 | ⟨gb, gof, rfl, hgb, hcg⟩
              · rw [h0] at hkl; simp at hkl
              obtain ⟨z0, z1, z2, z3⟩ := LgAt.get hkl hcg
              have hT := hideg (fun W => turned_any legs[k] (H : Int) W (HFit.out legs[k] (List.getElem_mem hkl)) (by omega))
              have HSk := hideg (revE_succ (h := (H : Int)) (e := (A, C, legs)) hkl)
              simp only at HSk
              generalize legs[k] = l at *
              obtain ⟨l1, l2, l3, l4⟩ := l
              obtain ⟨ra, rb, hrv⟩ : ∃ ra rb, revLg (H : Int) (l1, l2, l3, l4) = (ra, rb, l3, l4) := ⟨_, _, rfl⟩
              rw [hrv] at HSk hT
              simp only at z0 z1 z2 z3 hT
              obtain ⟨c0, _⟩ := HGx.out wr hb
              have hBl0 := heap_ltg hO.box
              obtain ⟨wl, hwl⟩ : ∃ x, x = wr.alloc (.cells #[.int .i64 l1, .int .i64 l2, .int .i64 l3, .int .i64 l4] 75) := ⟨_, rfl⟩
              have bl : Below wr.heap.size wr wl := by rw [hwl]; exact gal wr _
              have hHl : wl.cell? ⟨w.heap.size, 0, none⟩ = some (.int .i64 (H : Int)) := (bl.cell (p := ⟨w.heap.size, 0, none⟩) (by simp only; omega)).trans c0
              rw [hwl] at hHl
              have HBL := hideg bl
              have HWL := hideg hwl.symm
              have HO := hideg hO
              have HB := hideg hb
              have HLm := hideg hLm
              have HYY := hideg (⟨y0, y1, hXl, hEX⟩ : _ ∧ _ ∧ _ ∧ _)
              have hLL : L.length ≤ 186 := by
                have h1 : L.length = (L.map (·.1)).length := by simp
                have h2 := revE_len (H : Int) (A, C, legs) k
                have h3 := HLen.out
                rw [h1, hLm, List.length_append]; omega
              clear hO hb hcg hLm bl hwl y0 y1 hXl hEX hrv
              go_wp2_with fail
              rw [HWL.out]
              refine (hT.out _).mono ?_
              rintro r wt ⟨rfl, hbt⟩
              have bt : Below wr.heap.size wr wt := HBL.out.trans (hbt.mono HBL.out.size)
              have HOt := hideg (HO.out.below bt)
              have HBt := hideg (HB.out.trans (bt.mono (Nat.le_of_lt hBl0)))
              obtain ⟨y0, y1, hXl, hEX⟩ := HYY.out
              have HYt := hideg (⟨(bt.cell (p := ⟨XB, 0, none⟩) hXl).trans y0, (bt.cell (p := ⟨XB, 1, none⟩) hXl).trans y1, Nat.lt_of_lt_of_le hXl bt.size, hEX⟩ : _ ∧ _ ∧ _ ∧ _)
              clear bt hbt HBL HWL HO HB HYY y0 y1 hXl hEX hT hHl c0 z0 z1 z2 z3
              obtain ⟨wr1, hwr1⟩ : ∃ x, x = wr := ⟨_, rfl⟩
              subst hwr1
              obtain ⟨y0, y1, hXl, hEX⟩ := HYt.out
              have p2 : wt.cell? ⟨B, 2, none⟩ = some vE := by rw [Lib.cell_of_heap HOt.out.box]; rfl
              have hBt := heap_ltg HOt.out.box
              obtain ⟨wq, hwq⟩ : ∃ x, x = wt.alloc (.cells #[.int .i64 ra, .int .i64 rb, .int .i64 l3, .int .i64 l4] 75) := ⟨_, rfl⟩
              have bq : Below wt.heap.size wt wq := by rw [hwq]; exact gal wt _
              have HOq := hideg (HOt.out.below bq)
              have HBq := hideg (HBt.out.trans (bq.mono (Nat.le_of_lt hBt)))
              have HYq := hideg (⟨(bq.cell (p := ⟨XB, 0, none⟩) hXl).trans y0, (bq.cell (p := ⟨XB, 1, none⟩) hXl).trans y1, Nat.lt_of_lt_of_le hXl bq.size, hEX⟩ : _ ∧ _ ∧ _ ∧ _)
              have hsq : wq.heap.size = wt.heap.size + 1 := by rw [hwq]; simp
              have u0 := HYq.out.1
              have u1 := HYq.out.2.1
              have u2 := (bq.cell (p := ⟨B, 2, none⟩) hBt).trans p2
              have HWQ := hideg hwq.symm
              rw [hwq] at u0 u1 u2
              clear bq hwq HOt HBt HYt y0 y1 p2
              by_cases hr : 0 < rvB (H : Int) (l1, l2, l3, l4)
              · have hSk := HSk.out
                rw [if_pos hr] at hSk
                have HSk := hideg hSk
                rw [decide_eq_true hr]
                obtain ⟨vo, vc, rfl, _, _⟩ := row_form HOq.out.ed
                clear hSk hr
                have hBl : B ≤ wq.heap.size := Nat.le_of_lt (heap_ltg HOq.out.box)
                obtain ⟨wb, hwb⟩ : ∃ x, x = wq.alloc (.cells #[.int .i64 ra, .int .i64 rb, .int .i64 l3, .int .i64 l4] 75) := ⟨_, rfl⟩
                obtain ⟨wc, hwc⟩ : ∃ x, x = wb.alloc (.cells #[.int .i64 C, .int .i64 A, .slice (some ⟨wt.heap.size + 1, 0, none⟩) 1 1] 78) := ⟨_, rfl⟩
                have hsb : wb.heap.size = wt.heap.size + 1 + 1 := by rw [hwb]; simp [hsq]
                have bb : Below wq.heap.size wq wb := by rw [hwb]; exact gal wq _
                have bc : Below wq.heap.size wq wc := by rw [hwc]; exact bb.alloc (by omega) _
                have hv : wc.ownsRow B 75 4 (.slice (some ⟨wt.heap.size + 1, 0, none⟩) 1 1) 1 (enc4 [(ra, rb, l3, l4)]) := by
                  refine ⟨rfl, .inr ⟨wt.heap.size + 1, 1, #[.int .i64 ra, .int .i64 rb, .int .i64 l3, .int .i64 l4], rfl, by omega, ?_, Nat.le_refl _, by unfold maxLen; omega, rfl, rfl⟩⟩
                  rw [hwc, heap_alloc_old _ _ (by omega), hwb, ← hsq]
                  exact heap_alloc_new wq _
                have HV := hideg hv
                have HBC := hideg bc
                have hEd := (HOq.out.below bc).ed
                have HEdc := hideg hEd
                have hNew := World.news_of_block (w := wc) (B := wb.heap.size) (cs := #[.int .i64 C, .int .i64 A, .slice (some ⟨wt.heap.size + 1, 0, none⟩) 1 1]) (t := 78) (fr := (0, 0)) (by rw [hwc]; exact heap_alloc_new wb _)
                rw [hsb] at hNew
                have HNew := hideg hNew
                have hbsz : B ≤ wc.heap.size := Nat.le_trans hBl bc.size
                have HWB := hideg hwb.symm
                have HWC := hideg hwc.symm
                clear bb bc hv hEd hNew hwb hwc
                go_wp2_with (at_builtin; rw [HWQ.out]; rw [HWB.out]; rw [HWC.out]; refine wpList_append_own_at _ rfl _ _ 23 rfl B 78 ie _ 3 40 Try.underlying23 hie he0 he1 he2 rfl (by decide) _ _ _ rfl HEdc.out ⟨wt.heap.size + 1 + 1, 0, none⟩ 1 1 [.int .i64 C, .int .i64 A, .slice (some ⟨wt.heap.size + 1, 0, none⟩) 1 1] rfl rfl HNew.out (by intro u hu; simp at hu; rcases hu with rfl | rfl | rfl <;> rfl) (by unfold maxLen; omega) (by omega) hbsz ?_; intro v' w5 hown5 hgrow _ hat; obtain ⟨hbox5, hG5⟩ := HOq.out.edgeL HBC.out hgrow HV.out (fun k e => by simp only [Value.ownBlock, Option.some.injEq] at e; omega) hown5; have x2 : w5.cell? ⟨B, 2, none⟩ = some (.slice vo L.length vc) := by { rw [Lib.cell_of_heap hbox5]; rfl }; have fz5 : w5.frozen? ⟨B, 2, none⟩ = false := Lib.frozen_of_heap hbox5 2; obtain ⟨vo5, cp5, rfl, _, _⟩ := row_form hown5; have HG5 := hideg hG5; have HGr : Hid (wc.grownBy w5 (Value.slice vo L.length vc).ownBlock) := hgrow; have HAt : Hid ((Value.slice vo5 (L.length + 1) cp5).ownBlock = (Value.slice vo L.length vc).ownBlock ∨ (Value.slice vo5 (L.length + 1) cp5).ownBlock = some wc.heap.size) := hat; clear hG5 hgrow hat hbox5 hown5)
                have hXl2 := HYq.out.2.2.1
                have hXc : XB < wc.heap.size := Nat.lt_of_lt_of_le hXl2 HBC.out.size
                have hc5 : ∀ j x, wq.cell? ⟨XB, j, none⟩ = some x → (w5.setCell ⟨B, 2, none⟩ (.slice vo5 (L.length + 1) cp5)).cell? ⟨XB, j, none⟩ = some x := by
                  intro j x hx
                  rw [World.cell?_setCell_far _ _ _ _ (by show B ≠ XB; omega), HGr.out.cell_far (⟨XB, j, none⟩) hXc (fun e => hEX e.symm), HBC.out.cell (p := ⟨XB, j, none⟩) hXl2]
                  exact hx
                have HY5 : Hid ((w5.setCell ⟨B, 2, none⟩ (.slice vo5 (L.length + 1) cp5)).cell? ⟨XB, 0, none⟩ = some (.int .i64 A) ∧ (w5.setCell ⟨B, 2, none⟩ (.slice vo5 (L.length + 1) cp5)).cell? ⟨XB, 1, none⟩ = some (.int .i64 C) ∧ XB < (w5.setCell ⟨B, 2, none⟩ (.slice vo5 (L.length + 1) cp5)).heap.size ∧ (Value.slice vo5 (L.length + 1) cp5).ownBlock ≠ some XB) := by
                  refine ⟨hc5 _ _ HYq.out.1, hc5 _ _ HYq.out.2.1, ?_, ?_⟩
                  · have := HGr.out.size
                    simp [World.setCell]; omega
                  · rcases HAt.out with h | h
                    · rw [h]; exact hEX
                    · rw [h]; intro e; simp only [Option.some.injEq] at e; omega
                have HB5 := hideg (((HBq.out.trans (HBC.out.mono hBl)).grown HGr.out hbsz (fun q hq => (HEdc.out.lt q hq).1)).setCell (p := ⟨B, 2, none⟩) (Nat.le_refl _) (.slice vo5 (L.length + 1) cp5))
                have HLm5 : Hid ((L ++ [((C, A, [(ra, rb, l3, l4)]), Value.slice (some ⟨wt.heap.size + 1, 0, none⟩) 1 1)]).map (·.1) = revEs g i ++ revE (H : Int) (A, C, legs) (k + 1)) := by
                  show _ = _
                  rw [HSk.out, List.map_append, HLm.out, List.append_assoc]; rfl
                go_wp2
                go_roundw
                case rel => exact ⟨k + 1, _, _, by omega, by go_num, HG5.out, HLm5.out, HB5.out, HY5.out⟩
                case measure => simp [intOf]; omega
              · have hSk := HSk.out
                rw [if_neg hr, List.append_nil] at hSk
                rw [decide_eq_false hr]
                have HSk := hideg hSk
                have HLm' : Hid (L.map (·.1) = revEs g i ++ revE (H : Int) (A, C, legs) (k + 1)) := by show _ = _; rw [HSk.out]; exact HLm.out
                clear hSk hr HLm
                go_wp2
                rw [HWQ.out]
                go_roundw
                case rel => exact ⟨k + 1, _, L, by omega, by go_num, HOq.out, HLm'.out, HBq.out, HYq.out⟩
                case measure => simp [intOf]; omega
            · have hkn2 : ¬ ((k : Int) < (legs.length : Int)) := by omega
              have HO2 := hideg hO
              have HLm2 : Hid (L.map (·.1) = revEs g (i + 1)) := by show _ = _; rw [hLm, HSu.out, show k = legs.length by omega]
              have HB2 := hideg hb
              clear hO hLm hb y0 y1
              go_wp2
              go_roundw
              case rel => exact ⟨i + 1, _, L, by omega, by go_num, HO2.out, HLm2.out, HB2.out⟩
              case measure => simp [intOf]; omega
        · have hin : ¬ ((i : Int) < (g.edges.length : Int)) := by omega
          obtain rfl : i = g.edges.length := by omega
          have hLl : L.length = (revEs g g.edges.length).length := by rw [← hLm]; simp
          have hR0 : wr.cell? ⟨w.heap.size + 1, 0, none⟩ = some (.int .i64 0) := by rw [Lib.cell_of_heap qR]; rfl
          have hR1 : wr.cell? ⟨w.heap.size + 1, 1, none⟩ = some (.slice none 0 0) := by rw [Lib.cell_of_heap qR]; rfl
          have hR2 : wr.cell? ⟨w.heap.size + 1, 2, none⟩ = some (.slice none 0 0) := by rw [Lib.cell_of_heap qR]; rfl
          have f0 : wr.frozen? ⟨w.heap.size + 1, 0, none⟩ = false := Lib.frozen_of_heap qR 0
          have f1 : wr.frozen? ⟨w.heap.size + 1, 1, none⟩ = false := Lib.frozen_of_heap qR 1
          have f2 : wr.frozen? ⟨w.heap.size + 1, 2, none⟩ = false := Lib.frozen_of_heap qR 2
          have s0 : wr.cell? ⟨B, 0, none⟩ = some (.int .i64 (H : Int)) := by rw [Lib.cell_of_heap hO.box]; rfl
          have s1 : wr.cell? ⟨B, 1, none⟩ = some vL := by rw [Lib.cell_of_heap hO.box]; rfl
          have s2 : wr.cell? ⟨B, 2, none⟩ = some vE := by rw [Lib.cell_of_heap hO.box]; rfl
          obtain ⟨lo, lc2, rfl, _, _⟩ := row_form hO.lv
          obtain ⟨eo, ec2, rfl, _, _⟩ := row_form hO.ed
          have HFin : Hid (∀ a b c, GOwn B B (((wr.setCell ⟨w.heap.size + 1, 0, none⟩ a).setCell ⟨w.heap.size + 1, 1, none⟩ b).setCell ⟨w.heap.size + 1, 2, none⟩ c) (H : Int) (.slice lo (g.lives.map (revIv (H : Int))).length lc2) (.slice eo L.length ec2) (g.lives.map (revIv (H : Int))) L) := fun a b c => ((hO.setLow hwB 0 a).setLow hwB 1 b).setLow hwB 2 c
          have HBF : Hid (∀ a b c, Below w.heap.size w (((wr.setCell ⟨w.heap.size + 1, 0, none⟩ a).setCell ⟨w.heap.size + 1, 1, none⟩ b).setCell ⟨w.heap.size + 1, 2, none⟩ c)) := fun a b c => ((hbw.setCell (p := ⟨w.heap.size + 1, 0, none⟩) (by simp) a).setCell (p := ⟨w.heap.size + 1, 1, none⟩) (by simp) b).setCell (p := ⟨w.heap.size + 1, 2, none⟩) (by simp) c
          have HLm := hideg hLm
          by_cases h30 : 30 < L.length
          · have h30i : (30 : Int) < (L.length : Int) := by omega
            have HA : Hid (revA g = (⟨0, [], []⟩, 2)) := by
              show _ = _
              unfold revA
              rw [if_pos (by show 30 < (revEs g g.edges.length).length; omega)]
            clear hO hb hGA qR hbw hLm hLl
            go_wp2
            rw [HA.out]
            exact bodyPost_ret (v := .tuple #[.agg #[.int .i64 0, .slice none 0 0, .slice none 0 0], .int .i64 2]) (by simp [results, Try.results20, go_sem, hR0, hR1, hR2]) rfl ⟨none, none, ⟨0, 0, rfl⟩, ⟨.inl rfl, .inl rfl, by simp, by simp⟩, HBF.out _ _ _⟩
          · have h30i : ¬ ((30 : Int) < (L.length : Int)) := by omega
            have HA : Hid (revA g = (⟨(H : Int), g.lives.map (revIv (H : Int)), L.map (·.1)⟩, 0)) := by
              show _ = _
              unfold revA
              rw [if_neg (by show ¬ 30 < (revEs g g.edges.length).length; omega)]
              unfold revG
              rw [HHor.out, hLm]
            clear hO hb hGA qR hbw hLm hLl
            have HGt : Hid (∀ a b c, GAt (((wr.setCell ⟨w.heap.size + 1, 0, none⟩ a).setCell ⟨w.heap.size + 1, 1, none⟩ b).setCell ⟨w.heap.size + 1, 2, none⟩ c) lo eo ⟨(H : Int), g.lives.map (revIv (H : Int)), L.map (·.1)⟩) := by
              intro a b c
              obtain ⟨la', lc', ea', ec', e1, e2, h, _⟩ := (HFin.out a b c).gat
              simp only [Value.slice.injEq] at e1 e2
              obtain ⟨rfl, _, rfl⟩ := e1
              obtain ⟨rfl, _, rfl⟩ := e2
              exact h
            go_wp2
            rw [HA.out]
            exact bodyPost_ret (v := .tuple #[.agg #[.int .i64 (H : Int), .slice lo (g.lives.map (revIv (H : Int))).length lc2, .slice eo L.length ec2], .int .i64 0]) (by simp [results, Try.results20, go_sem, hR0, hR1, hR2]) rfl ⟨lo, eo, ⟨lc2, ec2, by simp⟩, HGt.out _ _ _, HBF.out _ _ _⟩

set_option maxRecDepth 100000 in
set_option maxHeartbeats 1000000 in
theorem tRev_bad (g : Gr) (la ea : Option Addr) (lc ec : Nat) (w : World) (hG : GAt w la ea g) (h0 : ¬ gChk g = 0) :
    Calls Try.prog 20 #[.agg #[.int .i64 g.hor, .slice la g.lives.length lc, .slice ea g.edges.length ec]] w fun r w' => r = .returned (.tuple #[.agg #[.int .i64 0, .slice none 0 0, .slice none 0 0], .int .i64 (gChk g)]) ∧ Below w.heap.size w w' := by
  obtain ⟨wA, hwA⟩ : ∃ x, x = (w.alloc (.cells #[.int .i64 g.hor, .slice la g.lives.length lc, .slice ea g.edges.length ec] 25)).alloc (.cells #[.int .i64 0, .slice none 0 0, .slice none 0 0] 25) := ⟨_, rfl⟩
  have hsA : wA.heap.size = w.heap.size + 1 + 1 := by rw [hwA]; simp
  have hbA : Below w.heap.size w wA := by rw [hwA]; exact ptg (gal w _) (gal _ _)
  have hR : wA.heap[w.heap.size + 1]? = some (.cells #[.int .i64 0, .slice none 0 0, .slice none 0 0] 25 (0, 0)) := by
    rw [hwA]
    have := heap_alloc_new (w.alloc (.cells #[.int .i64 g.hor, .slice la g.lives.length lc, .slice ea g.edges.length ec] 25)) (.cells #[.int .i64 0, .slice none 0 0, .slice none 0 0] 25)
    simpa using this
  have hC := gCheck_any g la ea lc ec wA (hG.below hbA)
  have d1 : (gChk g != 0) = true := by simpa using h0
  generalize gChk g = n at *
  have HWA := hideg hwA.symm
  have HR := hideg hR
  clear hG hwA h0 hR
  go_enter Try.func20, Try.ntmps20
  go_wp2_with fail
  rw [HWA.out]
  refine hC.mono ?_
  rintro r wC ⟨rfl, hbC⟩
  have qR := (hbC.block (w.heap.size + 1) (by omega)).trans HR.out
  have hbw : Below w.heap.size w wC := ptg hbA hbC
  have hR0 : wC.cell? ⟨w.heap.size + 1, 0, none⟩ = some (.int .i64 0) := by rw [Lib.cell_of_heap qR]; rfl
  have hR1 : wC.cell? ⟨w.heap.size + 1, 1, none⟩ = some (.slice none 0 0) := by rw [Lib.cell_of_heap qR]; rfl
  have hR2 : wC.cell? ⟨w.heap.size + 1, 2, none⟩ = some (.slice none 0 0) := by rw [Lib.cell_of_heap qR]; rfl
  have f0 : wC.frozen? ⟨w.heap.size + 1, 0, none⟩ = false := Lib.frozen_of_heap qR 0
  have f1 : wC.frozen? ⟨w.heap.size + 1, 1, none⟩ = false := Lib.frozen_of_heap qR 1
  have f2 : wC.frozen? ⟨w.heap.size + 1, 2, none⟩ = false := Lib.frozen_of_heap qR 2
  have HBF := hideg (((hbw.setCell (p := ⟨w.heap.size + 1, 0, none⟩) (by simp) (.int .i64 0)).setCell (p := ⟨w.heap.size + 1, 1, none⟩) (by simp) (.slice none 0 0)).setCell (p := ⟨w.heap.size + 1, 2, none⟩) (by simp) (.slice none 0 0))
  clear hC hbC qR hbw HR
  go_wp2
  exact bodyPost_ret (v := .tuple #[.agg #[.int .i64 0, .slice none 0 0, .slice none 0 0], .int .i64 n]) (by simp [results, Try.results20, go_sem, hR0, hR1, hR2]) rfl ⟨rfl, HBF.out⟩

theorem tRev_any (g : Gr) (la ea : Option Addr) (lc ec : Nat) (w : World) (hG : GAt w la ea g) :
    Calls Try.prog 20 #[.agg #[.int .i64 g.hor, .slice la g.lives.length lc, .slice ea g.edges.length ec]] w fun r w' => ∃ la' ea' lc' ec', r = .returned (.tuple #[.agg #[.int .i64 (tRevA g).1.hor, .slice la' (tRevA g).1.lives.length lc', .slice ea' (tRevA g).1.edges.length ec'], .int .i64 (tRevA g).2]) ∧ GAt w' la' ea' (tRevA g).1 ∧ Below w.heap.size w w' := by
  by_cases h0 : gChk g = 0
  · unfold tRevA
    rw [if_pos h0]
    exact tRev_ok g la ea lc ec w hG h0
  · unfold tRevA
    rw [if_neg h0]
    refine (tRev_bad g la ea lc ec w hG h0).mono ?_
    rintro r w' ⟨rfl, hb⟩
    exact ⟨none, none, 0, 0, rfl, ⟨.inl rfl, .inl rfl, by simp, by simp⟩, hb⟩

end Go.Proofs.Ytanbbkoleekmjag
