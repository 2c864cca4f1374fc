/-
  What Snap of the reference tells: what At of the program tells of a right graph.
-/
import Derived.Test.YthgelfnflafoiaaDoorSAt
import Derived.Test.YthgelfnflafoiaaDoorRSnap
namespace Go.Proofs.YthgelfnflafoiaaDoor
open Go.RowKit

set_option linter.unusedSimpArgs false in
set_option maxRecDepth 100000 in
set_option maxHeartbeats 8000000 in
theorem RSnap_any (g : Gr) (la ea : Option Addr) (lc ec : Nat) (t : Int) (w : World) (hG : GAt w la ea g) (R : Right g) :
    Calls Tryd.prog 10 #[.agg #[.int .i64 g.hor, .slice la g.lives.length lc, .slice ea g.edges.length ec], .int .i64 t] w fun r w' => ∃ va vc, r = .returned (.agg #[va, vc]) ∧ w'.ownsRow w.heap.size 4 1 va (aliveL t g.lives).length ((aliveL t g.lives).map Value.bool) ∧ w'.ownsRow w.heap.size 42 3 vc (arcsL t g.lives g.edges).length (enc3 (arcsL t g.lives g.edges)) ∧ Below w.heap.size w w' := by
  have HB : Hid (∀ o o', Below w.heap.size w ((w.alloc o).alloc o')) := fun o o' => ptg (gal w o) (gal _ o')
  obtain ⟨i0, hi, hb0, hb1', hb2'⟩ := info_parts Tryd.infoBool
  obtain ⟨ia, hia, ha0, ha1, ha2⟩ := info_parts Tryd.infoArc
  have HG := hideg hG
  have HR := hideg R
  obtain ⟨h, lives, edges⟩ := g
  have hl12 : lives.length ≤ 12 := R.lvs
  have he30 : edges.length ≤ 30 := R.eds
  simp only
  clear R hG
  obtain ⟨w1, hw1⟩ : ∃ w1, w1 = (w.alloc (.cells #[.int .i64 h, .slice la lives.length lc, .slice ea edges.length ec] 25)).alloc (.cells #[.slice none 0 0, .slice none 0 0] 34) := ⟨_, rfl⟩
  have hs1 : w1.heap.size = w.heap.size + 1 + 1 := by rw [hw1]; simp
  have HB1 := hideg (show Below w.heap.size w w1 by rw [hw1]; exact HB.out _ _)
  have q0 : w1.cell? ⟨w.heap.size, 0, none⟩ = some (.int .i64 h) := by rw [hw1]; simp
  have q1 : w1.cell? ⟨w.heap.size, 1, none⟩ = some (.slice la lives.length lc) := by rw [hw1]; simp
  have q2 : w1.cell? ⟨w.heap.size, 2, none⟩ = some (.slice ea edges.length ec) := by rw [hw1]; simp
  have r0 : w1.cell? ⟨w.heap.size + 1, 0, none⟩ = some (.slice none 0 0) := by rw [hw1]; simp
  have r1 : w1.cell? ⟨w.heap.size + 1, 1, none⟩ = some (.slice none 0 0) := by rw [hw1]; simp
  have f0 : ∀ j, w1.frozen? ⟨w.heap.size + 1, j, none⟩ = false := fun j => by rw [hw1]; simp
  have HG1 := hideg (HG.out.below HB1.out)
  have HRes := hideg (⟨r0, r1, f0⟩ : _ ∧ _ ∧ _)
  have hz0 : w.heap.size < w1.heap.size := by omega
  have HW1 := hideg hw1
  have HS1 := hideg hs1
  clear HG r0 r1 f0 hw1 hs1
  go_enter Tryd.func10, Tryd.ntmps10
  go_wp2
  go_loopw [6] (fun i wr => ∃ k : Nat, ∃ v, k ≤ lives.length ∧ i = .int .i64 k ∧ SnIn (w.heap.size + 1 + 1) w1 wr v (.slice none 0 0) (aliveL t (lives.take k)) []) (fun i _ => lives.length - (intOf i).toNat)
  case atStart =>
    refine ⟨0, _, Nat.zero_le _, rfl, World.ownsRow_nil _ _ _ _, World.ownsRow_nil _ _ _ _, ?_, ?_⟩
    · rw [← HW1.out, ← HS1.out]; exact heap_alloc_new _ _
    · rw [← HW1.out]; exact gal _ _
  case round =>
    have hs1 : w.heap.size + 1 + 1 = w1.heap.size := HS1.out.symm
    have HSB := hideg hs1
    clear HW1 HS1
    obtain ⟨k, v, hk, rfl, hS⟩ := hrel
    have HS := hideg hS
    have hbw := hS.bel
    have hsz := hbw.size
    have hsb := heap_lt hS.box
    have p0 : wr.cell? ⟨w.heap.size, 0, none⟩ = some (.int .i64 h) := (hbw.cell (p := ⟨w.heap.size, 0, none⟩) hz0).trans q0
    have p1 : wr.cell? ⟨w.heap.size, 1, none⟩ = some (.slice la lives.length lc) := (hbw.cell (p := ⟨w.heap.size, 1, none⟩) hz0).trans q1
    have p2 : wr.cell? ⟨w.heap.size, 2, none⟩ = some (.slice ea edges.length ec) := (hbw.cell (p := ⟨w.heap.size, 2, none⟩) hz0).trans q2
    have s0 : wr.cell? ⟨w.heap.size + 1 + 1, 0, none⟩ = some v := by rw [Lib.cell_of_heap hS.box]; rfl
    have hw1s : w.heap.size + 1 + 1 ≤ w1.heap.size := by omega
    have hw1t : w1.heap.size ≤ w.heap.size + 1 + 1 := by omega
    clear hS hs1
    by_cases hlt : k < lives.length
    · have hAl := hideg (Alive_any h la ea lc edges.length ec lives k t wr.drew (HG1.out.lv.below hbw.drew) hlt (by omega))
      have HT := hideg (aliveL_take t lives k hlt)
      have HAB := hideg (aliveB_at t lives k hlt)
      obtain ⟨vo, vc, hve, _⟩ := bsAt_of_owns HS.out.own
      have hal : (aliveL t (lives.take k)).length = k := by rw [aliveL_length, List.length_take]; omega
      have hown : wr.ownsRow w1.heap.size 4 1 v k ((aliveL t (lives.take k)).map Value.bool) := by have := HS.out.own; rwa [hal] at this
      have HO := hideg hown
      rw [hal] at hve
      subst hve
      have HNE := hideg (own_ne hown HS.out.box (by decide))
      have HAfter : Hid (∀ w3, Below wr.heap.size wr w3 → (w3.cell? ⟨w.heap.size, 0, none⟩ = some (.int .i64 h) ∧ w3.cell? ⟨w.heap.size, 1, none⟩ = some (.slice la lives.length lc) ∧ w3.cell? ⟨w.heap.size, 2, none⟩ = some (.slice ea edges.length ec) ∧ w3.cell? ⟨w.heap.size + 1 + 1, 0, none⟩ = some (.slice vo k vc))) := fun w3 h3 =>
        ⟨(h3.cell (p := ⟨w.heap.size, 0, none⟩) (by simp only; omega)).trans p0, (h3.cell (p := ⟨w.heap.size, 1, none⟩) (by simp only; omega)).trans p1, (h3.cell (p := ⟨w.heap.size, 2, none⟩) (by simp only; omega)).trans p2, (h3.cell (p := ⟨w.heap.size + 1 + 1, 0, none⟩) hsb).trans s0⟩
      clear hown hal
      generalize hbb : aliveB t lives k = bb at *
      have HBB := hideg hbb
      clear hbb
      go_wp2_with fail
      refine wp_region_noPanic ?_
      refine wp_region_back (S := fun w' => w'.cell? ⟨w.heap.size, 0, none⟩ = some (.int .i64 h) ∧ w'.cell? ⟨w.heap.size, 1, none⟩ = some (.slice la lives.length lc) ∧ w'.cell? ⟨w.heap.size, 2, none⟩ = some (.slice ea edges.length ec) ∧ w'.cell? ⟨w.heap.size + 1 + 1, 0, none⟩ = some (.slice vo k vc)) (by kernel_rfl) (by simp) (by kernel_rfl) (by kernel_rfl) ⟨p0, p1, p2, s0⟩ (fun hHeld => ?_)
      simp only [List.pop_toArray, List.dropLast, List.back!_toArray, List.getLast!]
      refine take_lit (i := 0) (v := ?_) rfl (by kernel_rfl) (by kernel_rfl) (by kernel_rfl) (fun _ _ _ h => h) (Or.inl ⟨by rfl, ?hy0⟩) (by assumption) ?_
      case hy0 => (intro w hSw; (try dsimp only at hSw); go_simp; try with_reducible rfl)
      try simp only [Act.put, List.setIfInBounds_toArray, List.set_cons_zero, List.set_cons_succ]
      refine take_lit (i := 1) (v := ?_) rfl (by kernel_rfl) (by kernel_rfl) (by kernel_rfl) (fun _ _ _ h => h) (Or.inl ⟨by rfl, ?hy1⟩) (by assumption) ?_
      case hy1 => (intro w hSw; (try dsimp only at hSw); go_simp; try with_reducible rfl)
      try simp only [Act.put, List.setIfInBounds_toArray, List.set_cons_zero, List.set_cons_succ]
      refine take_lit (i := 2) (v := ?_) rfl (by kernel_rfl) (by kernel_rfl) (by kernel_rfl) (fun _ _ _ h => h) (Or.inl ⟨by rfl, ?hy2⟩) (by assumption) ?_
      case hy2 => (intro w hSw; (try dsimp only at hSw); go_simp; try with_reducible rfl)
      try simp only [Act.put, List.setIfInBounds_toArray, List.set_cons_zero, List.set_cons_succ]
      refine take_lit (i := 3) (v := ?_) rfl (by kernel_rfl) (by kernel_rfl) (by kernel_rfl) (fun _ _ _ h => h) (Or.inl ⟨by rfl, ?hy3⟩) (by assumption) ?_
      case hy3 => (intro w hSw; (try dsimp only at hSw); go_simp; try with_reducible rfl)
      try simp only [Act.put, List.setIfInBounds_toArray, List.set_cons_zero, List.set_cons_succ]
      refine take_lit (i := 4) (v := ?_) rfl (by kernel_rfl) (by kernel_rfl) (by kernel_rfl) (fun _ _ _ h => h) (Or.inl ⟨by rfl, ?hy4⟩) (by assumption) ?_
      case hy4 => (intro w hSw; (try dsimp only at hSw); go_simp; try with_reducible rfl)
      try simp only [Act.put, List.setIfInBounds_toArray, List.set_cons_zero, List.set_cons_succ]
      refine next_lit (i := 5) rfl (by kernel_rfl) (fun K hK => ?_)
      go_simp
      refine hAl.out.mono ?_
      rintro e w3 ⟨rfl, hb3'⟩
      have hb3 : Below wr.heap.size wr w3 := ptg (Below.refl _ _).drew hb3'
      clear hb3'
      have KK := HAfter.out w3 hb3
      refine hK.out _ _ KK (fun hHeld => ?_)
      clear hK K hHeld
      try simp only [Act.put, List.setIfInBounds_toArray, List.set_cons_zero, List.set_cons_succ]
      refine next_lit (i := 6) rfl (by kernel_rfl) (fun K hK => ?_)
      go_simp
      have l1 := heap_lt (HS.out.box)
      have hs3 := hb3.size
      have MM := HAfter.out (w3.alloc (.cells #[.bool bb] 4)) (ptg hb3 (gal w3 _))
      refine hK.out _ _ MM (fun hHeld => ?_)
      clear hK K hHeld
      try simp only [Act.put, List.setIfInBounds_toArray, List.set_cons_zero, List.set_cons_succ]
      refine next_lit (i := 7) rfl (by kernel_rfl) (fun K hK => ?_)
      refine step_append_lies _ (by rfl) _ _ _ (by rfl) w1.heap.size 4 i0 _ 1 1 Tryd.underlying31 hi hb0 hb1' hb2' rfl (by omega) (.slice vo k vc) k ((aliveL t (lives.take k)).map Value.bool) (by rfl) ((ownsRow_below HO.out hb3).alloc _) ⟨w3.heap.size, 0, none⟩ 1 1 [.bool bb] (by rfl) (by rfl) (World.news_of_block (cs := #[.bool bb]) (t := 4) (fr := (0, 0)) (heap_alloc_new w3 _)) (by simp [Value.oneCell']) (by omega) (by unfold maxLen; omega) (by omega) (by simp; omega) (w3.heap.size + 1) (by simp) ?_
      intro gg cap1 w4 hown1 hgrow hat hltg
      have n1 : some w.heap.size ≠ (Value.slice vo k vc).ownBlock := fun h => by have := (HO.out.lt _ h.symm).1; omega
      have x0 : w4.cell? ⟨w.heap.size, 0, none⟩ = some (.int .i64 h) := by rw [hgrow.cell_far _ (by simp; omega) n1]; exact MM.1
      have x1 : w4.cell? ⟨w.heap.size, 1, none⟩ = some (.slice la lives.length lc) := by rw [hgrow.cell_far _ (by simp; omega) n1]; exact MM.2.1
      have x2 : w4.cell? ⟨w.heap.size, 2, none⟩ = some (.slice ea edges.length ec) := by rw [hgrow.cell_far _ (by simp; omega) n1]; exact MM.2.2.1
      have x3 : w4.cell? ⟨w.heap.size + 1 + 1, 0, none⟩ = some (.slice vo k vc) := by rw [hgrow.cell_far _ (by simp; omega) (Ne.symm HNE.out)]; exact MM.2.2.2
      have hbox4 : w4.heap[w.heap.size + 1 + 1]? = some (.cells #[.slice vo k vc, .slice none 0 0] 34 (0, 0)) := by
        rw [hgrow.block _ (by simp; omega) (Ne.symm HNE.out), (gal w3 _).block _ (by omega), hb3.block _ l1]; exact HS.out.box
      have fz4 := frozen_at hbox4 0
      have HB4 := hideg (((hbw.trans (hb3.mono hbw.size)).alloc (by omega) (.cells #[.bool bb] 4)).grown hgrow (by simp; omega) (fun j hj => (HO.out.lt j hj).1))
      refine hK.out _ _ ⟨x0, x1, x2, x3⟩ (fun hHeld => ?_)
      clear hK K
      try simp only [Act.put, List.setIfInBounds_toArray, List.set_cons_zero, List.set_cons_succ]
      refine take_lit (i := 8) (v := ?_) rfl (by kernel_rfl) (by kernel_rfl) (by kernel_rfl) (fun _ _ _ h => h) (Or.inl ⟨by rfl, ?hy8⟩) (by assumption) ?_
      case hy8 => (intro w hSw; (try dsimp only at hSw); go_simp; try with_reducible rfl)
      try simp only [Act.put, List.setIfInBounds_toArray, List.set_cons_zero, List.set_cons_succ]
      refine wpAnyH_done (by kernel_rfl) ?_ _
      refine back_last (fun K hK => ?_)
      clear hHeld
      go_simp
      refine hK.out _ _ (NoPanic.normal ?_)
      clear hK K
      have HS4 : Hid (SnIn (w.heap.size + 1 + 1) w1 (w4.setCell ⟨w.heap.size + 1 + 1, 0, none⟩ (.slice (some ⟨gg, 0, none⟩) (k + 1) cap1)) (.slice (some ⟨gg, 0, none⟩) (k + 1) cap1) (.slice none 0 0) (aliveL t (lives.take (k + 1))) []) := by
        have hr : w4.ownsRow w1.heap.size 4 1 (.slice (some ⟨gg, 0, none⟩) (k + 1) cap1) (aliveL t (lives.take (k + 1))).length ((aliveL t (lives.take (k + 1))).map Value.bool) := by
          rw [aliveL_length, List.length_take, Nat.min_eq_left (by omega), HT.out, List.map_append, ← HAB.out]; exact hown1
        have hne := own_ne hr hbox4 (by decide)
        refine ⟨ownsRow_setBox hr hne, World.ownsRow_nil _ _ _ _, ?_, HB4.out.setCell (p := ⟨w.heap.size + 1 + 1, 0, none⟩) (by simp only; omega) _⟩
        simp [World.setCell, Array.getElem?_modify, hbox4]
      clear HB4 hgrow hown1 x0 x1 x2 x3 MM KK hbox4 hat hltg
      go_wp2
      go_roundw
      case rel => exact ⟨k + 1, _, by omega, by go_num, HS4.out⟩
      case measure => simp [intOf]; omega
    · have hke : k = lives.length := by omega
      subst hke
      rw [List.take_length] at HS
      have hal : (aliveL t lives).length = lives.length := aliveL_length t lives
      have HVV : Hid (∃ vo vc, v = .slice vo lives.length vc) := by
        obtain ⟨ao, ca, h, _⟩ := bsAt_of_owns HS.out.own
        exact ⟨ao, ca, by rw [h, hal]⟩
      clear s0 hbw
      obtain ⟨vo, vc, rfl⟩ := HVV.out
      go_wp2_with fail
      go_loopw [7, 10] (fun i _ wr => ∃ k : Nat, ∃ u, k ≤ edges.length ∧ i = .int .i64 k ∧ SnIn (w.heap.size + 1 + 1) w1 wr (.slice vo lives.length vc) u (aliveL t lives) (arcsL t lives (edges.take k))) (fun i _ _ => edges.length - (intOf i).toNat)
      case atStart => exact ⟨0, _, Nat.zero_le _, rfl, HS.out⟩
      case round =>
        clear HS p0 p1 p2 hsb hsz HVV
        obtain ⟨k, u, hk, rfl, hS⟩ := hrel
        have HS := hideg hS
        have hbw := hS.bel
        have hsz := hbw.size
        have hsb := heap_lt hS.box
        have p2 : wr.cell? ⟨w.heap.size, 2, none⟩ = some (.slice ea edges.length ec) := (hbw.cell (p := ⟨w.heap.size, 2, none⟩) hz0).trans q2
        have HCW : Hid (∀ w3, Below wr.heap.size wr w3 → (w3.cell? ⟨w.heap.size, 0, none⟩ = some (.int .i64 h) ∧ w3.cell? ⟨w.heap.size, 1, none⟩ = some (.slice la lives.length lc) ∧ w3.cell? ⟨w.heap.size, 2, none⟩ = some (.slice ea edges.length ec)) ∧ w3.cell? ⟨w.heap.size + 1 + 1, 1, none⟩ = some u ∧ IvAt w3 la lives ∧ wr.heap.size ≤ w3.heap.size) := by
          intro w3 h3
          have hb := hbw.trans (h3.mono hsz)
          refine ⟨⟨(hb.cell (p := ⟨w.heap.size, 0, none⟩) hz0).trans q0, (hb.cell (p := ⟨w.heap.size, 1, none⟩) hz0).trans q1, (hb.cell (p := ⟨w.heap.size, 2, none⟩) hz0).trans q2⟩, ?_, HG1.out.lv.below hb, h3.size⟩
          rw [h3.cell (p := ⟨w.heap.size + 1 + 1, 1, none⟩) hsb, Lib.cell_of_heap HS.out.box]; rfl
        clear hS
        by_cases hlt : k < edges.length
        · have hlt2 := hlt
          rcases HG1.out.ed with h0 | ⟨b, off, rfl, hbr, hc⟩
          · simp only at h0; subst h0; simp at hlt
          obtain ⟨c0', c1', lo, lcap, c2', hL, hnl, hml⟩ := hc k hlt
          have c0 := (hbw.cell (p := ⟨b, off + k * 3, none⟩) hbr).trans c0'
          have c1 := (hbw.cell (p := ⟨b, off + k * 3 + 1, none⟩) hbr).trans c1'
          have c2 := (hbw.cell (p := ⟨b, off + k * 3 + 2, none⟩) hbr).trans c2'
          have hbr2 : b < wr.heap.size := by omega
          have HN := HR.out.ends edges[k] (List.getElem_mem hlt)
          have HT := hideg (arcs_take t lives edges k hlt)
          have hLw := hL.below hbw
          have hln := arcs_len t lives (edges.take k)
          have hln2 : (arcsL t lives (edges.take k)).length ≤ 30 := by rw [List.length_take] at hln; omega
          clear c0' c1' c2' hc hL hln
          generalize edges[k] = ed at *
          obtain ⟨A, B, legs⟩ := ed
          simp only at HN c0 c1 c2 hLw hnl
          obtain ⟨⟨hA0, hA1⟩, ⟨hB0, hB1⟩, hl6⟩ := HN
          obtain ⟨na, rfl⟩ : ∃ na : Nat, A = na := ⟨A.toNat, by omega⟩
          obtain ⟨nb, rfl⟩ : ∃ nb : Nat, B = nb := ⟨B.toNat, by omega⟩
          have hA1' : na < lives.length := by omega
          have hB1' : nb < lives.length := by omega
          have hleg := fun o => rleg_any na nb lo lcap legs t (wr.alloc o) (hLw.below (gal wr o)) (by omega)
          clear hLw
          have iA : (na : Int) < (lives.length : Int) := by omega
          have iB : (nb : Int) < (lives.length : Int) := by omega
          have iA0 : (0 : Int) ≤ (na : Int) := by omega
          have iB0 : (0 : Int) ≤ (nb : Int) := by omega
          have HD0 := hideg (fun h => arcOf_none (t := t) (lives := lives) (e := ((na : Int), (nb : Int), legs)) h)
          have HD1 := hideg (fun h => arcOf_dead (t := t) (lives := lives) (e := ((na : Int), (nb : Int), legs)) h)
          have HD2 := hideg (fun l h h' => arcOf_some (t := t) (lives := lives) (e := ((na : Int), (nb : Int), legs)) (l := l) h h')
          simp only at HD0 HD1 HD2
          have i1 : (k : Int) < (edges.length : Int) := by omega
          have i2 : (0 : Int) ≤ (k : Int) := by omega
          go_wp2_with fail
          refine (hleg _).mono ?_
          rintro e w2 ⟨rfl, hb2⟩
          have HE : Hid (∀ o w3, Below w2.heap.size w2 w3 → Below (w2.alloc o).heap.size (w2.alloc o) w3 ∨ True → w3.cell? ⟨wr.heap.size, 0, none⟩ = some (.int .i64 na) ∧ w3.cell? ⟨wr.heap.size, 1, none⟩ = some (.int .i64 nb)) := by
            intro o w3 h3 _
            have hs2 := hb2.size
            simp only [World.size_alloc] at hs2
            refine ⟨?_, ?_⟩
            · rw [h3.cell (p := ⟨wr.heap.size, 0, none⟩) (by simp only; omega), hb2.cell (p := ⟨wr.heap.size, 0, none⟩) (by simp)]; simp
            · rw [h3.cell (p := ⟨wr.heap.size, 1, none⟩) (by simp only; omega), hb2.cell (p := ⟨wr.heap.size, 1, none⟩) (by simp)]; simp
          have HB2 := hideg (ptg (gal wr _) hb2)
          have y1 : wr.heap.size < w2.heap.size := by have := hb2.size; simp at this; omega
          have y2 : w.heap.size + 1 + 1 < w2.heap.size := by omega
          have y4 : w.heap.size < w2.heap.size := by omega
          clear hb2 hleg c0 c1 c2 p2
          have HSk : Hid (∀ w3, Below w2.heap.size w2 w3 → arcOf t lives ((na : Int), (nb : Int), legs) = [] → SnIn (w.heap.size + 1 + 1) w1 w3 (.slice vo lives.length vc) u (aliveL t lives) (arcsL t lives (edges.take (k + 1)))) := by
            intro w3 h3 h
            have hb := ptg HB2.out h3
            rw [HT.out, h, List.append_nil]
            exact ⟨ownsRow_below HS.out.own hb, ownsRow_below HS.out.own2 hb, by rw [hb.block _ hsb]; exact HS.out.box, hbw.trans (hb.mono hsz)⟩
          have HAl : Hid (∀ W n, n < lives.length → Below w2.heap.size w2 W → Calls Tryd.prog 23 #[.agg #[.int .i64 h, .slice la lives.length lc, .slice (some ⟨b, off, none⟩) edges.length ec], .int .i64 (n : Nat), .int .i64 t] W fun r w' => r = .returned (.bool (aliveB t lives n)) ∧ Below W.heap.size W w') := fun W n hn hb => Alive_any h la (some ⟨b, off, none⟩) lc edges.length ec lives n t W (HCW.out W (ptg HB2.out hb)).2.2.1 hn (by omega)
          cases hf : lgFind t legs with
          | none =>
            have HSk2 := hideg (fun w3 h3 => HSk.out w3 h3 (HD0.out hf))
            simp only [legV, Option.getD_none, Option.isSome_none]
            clear hf HSk HD0 HD1 HD2 HAl
            go_wp2
            go_roundw
            case rel => exact ⟨k + 1, _, by omega, by go_num, HSk2.out _ (gal w2 _)⟩
            case measure => simp [intOf]; omega
          | some l =>
            simp only [legV, Option.getD_some, Option.isSome_some]
            obtain ⟨⟨a0, a1, a2⟩, a3, _, _⟩ := HCW.out w2 HB2.out
            obtain ⟨e0, e1⟩ := HE.out (.cells #[] 0) w2 (Below.refl _ _) (.inr trivial)
            go_wp2_with fail
            refine (HAl.out _ na hA1' (gal w2 _)).mono ?_
            rintro e w3 ⟨rfl, hb3'⟩
            have hb3 := ptg (gal w2 _) hb3'
            have d3 : w3.cell? ⟨w2.heap.size, 3, none⟩ = some (.int .i64 l.2.2.2) := by rw [hb3'.cell (p := ⟨w2.heap.size, 3, none⟩) (by simp)]; simp
            have y5 : w2.heap.size < w3.heap.size := by have := hb3'.size; simp at this; omega
            have HB3 := hideg hb3
            clear hb3' hb3 a0 a1 a2 a3 e0 e1
            obtain ⟨⟨a0, a1, a2⟩, a3, _, _⟩ := HCW.out w3 (ptg HB2.out HB3.out)
            obtain ⟨e0, e1⟩ := HE.out (.cells #[] 0) w3 HB3.out (.inr trivial)
            have y6 : wr.heap.size < w3.heap.size := by omega
            have y7 : w.heap.size < w3.heap.size := by omega
            cases ea' : aliveB t lives na with
            | false =>
              have HSk2 := hideg (HSk.out w3 HB3.out (HD1.out (by simp [ea'])))
              clear hf HSk HD0 HD1 HD2 ea'
              go_wp2
              go_roundw
              case rel => exact ⟨k + 1, _, by omega, by go_num, HSk2.out⟩
              case measure => simp [intOf]; omega
            | true =>
              go_wp2_with fail
              refine (HAl.out _ nb hB1' HB3.out).mono ?_
              rintro e w4 ⟨rfl, hb4⟩
              have HB4 := hideg (ptg HB3.out hb4)
              have d4 : w4.cell? ⟨w2.heap.size, 3, none⟩ = some (.int .i64 l.2.2.2) := by rw [hb4.cell (p := ⟨w2.heap.size, 3, none⟩) y5, d3]
              have y8 : w3.heap.size ≤ w4.heap.size := hb4.size
              clear hb4 a0 a1 a2 a3 e0 e1 d3
              obtain ⟨_, a3, _, _⟩ := HCW.out w4 (ptg HB2.out HB4.out)
              obtain ⟨e0, e1⟩ := HE.out (.cells #[] 0) w4 HB4.out (.inr trivial)
              cases eb' : aliveB t lives nb with
              | false =>
                have HSk2 := hideg (HSk.out w4 HB4.out (HD1.out (by simp [eb'])))
                clear hf HSk HD0 HD1 HD2 ea' eb'
                go_wp2
                go_roundw
                case rel => exact ⟨k + 1, _, by omega, by go_num, HSk2.out⟩
                case measure => simp [intOf]; omega
              | true =>
                have HA := hideg (HD2.out l hf (by simp [ea', eb']))
                clear hf HSk HD0 HD1 HD2 ea' eb'
                have hb4 := ptg HB2.out HB4.out
                have hu := ownsRow_below HS.out.own2 hb4
                have y9 : w.heap.size + 1 + 1 < w4.heap.size := by omega
                go_wp2_with (at_builtin; refine wpList_append_lies _ rfl _ _ 32 rfl w1.heap.size 42 ia (.agg #[.int .i64 0, .int .i64 0, .int .i64 0]) 3 24 Tryd.underlying32 hia ha0 ha1 ha2 rfl (by decide) _ _ _ rfl (World.ownsRow.alloc (w := w4) hu _) ⟨w4.heap.size, 0, none⟩ 1 1 [.int .i64 na, .int .i64 nb, .int .i64 l.2.2.2] rfl rfl ?c1 ?c2 (by decide) ?c3 ?c4 ?c5 (w4.heap.size + 1) ?c6 ?_)
                case c1 => exact cells_three_new _ _ _ _ _ _ (by simp)
                case c2 => intro u hu; simp at hu; rcases hu with rfl | rfl | rfl <;> rfl
                case c3 => unfold maxLen; omega
                case c4 => omega
                case c5 => simp; omega
                case c6 => simp
                intro gg cap1 w5 hown3 hgrow hat hltg
                have hne := own_ne HS.out.own2 HS.out.box (by decide)
                have hbox3 : w5.heap[w.heap.size + 1 + 1]? = some (.cells #[.slice vo lives.length vc, u] 34 (0, 0)) := by
                  rw [hgrow.block _ (by simp; omega) (Ne.symm hne), (gal _ _).block _ y9, hb4.block _ hsb]; exact HS.out.box
                have z0 : w5.cell? ⟨w.heap.size + 1 + 1, 0, none⟩ = some (.slice vo lives.length vc) := by rw [Lib.cell_of_heap hbox3]; rfl
                have z1 : w5.cell? ⟨w.heap.size + 1 + 1, 1, none⟩ = some u := by rw [Lib.cell_of_heap hbox3]; rfl
                have fz := frozen_at hbox3 1
                have HBg := hideg (((hbw.trans (hb4.mono hsz)).alloc (by omega) (.cells #[.int .i64 na, .int .i64 nb, .int .i64 l.2.2.2] 42)).grown hgrow (by simp; omega) (fun j hj => (HS.out.own2.lt j hj).1))
                have HS3 : Hid (SnIn (w.heap.size + 1 + 1) w1 (w5.setCell ⟨w.heap.size + 1 + 1, 1, none⟩ (.slice (some ⟨gg, 0, none⟩) ((arcsL t lives (edges.take k)).length + 1) cap1)) (.slice vo lives.length vc) (.slice (some ⟨gg, 0, none⟩) ((arcsL t lives (edges.take k)).length + 1) cap1) (aliveL t lives) (arcsL t lives (edges.take (k + 1)))) := by
                  have hr : w5.ownsRow w1.heap.size 42 3 (.slice (some ⟨gg, 0, none⟩) ((arcsL t lives (edges.take k)).length + 1) cap1) (arcsL t lives (edges.take (k + 1))).length (enc3 (arcsL t lives (edges.take (k + 1)))) := by
                    rw [HT.out, HA.out, enc3_append, List.length_append]; exact hown3
                  have ha : w5.ownsRow w1.heap.size 4 1 (.slice vo lives.length vc) (aliveL t lives).length ((aliveL t lives).map Value.bool) :=
                    ownsRow_grown (World.ownsRow.alloc (ownsRow_below HS.out.own hb4) (.cells #[.int .i64 na, .int .i64 nb, .int .i64 l.2.2.2] 42)) (World.ownsRow.alloc hu _) hgrow (by decide)
                  refine ⟨ownsRow_setBox ha (own_ne ha hbox3 (by decide)), ownsRow_setBox hr (own_ne hr hbox3 (by decide)), ?_, HBg.out.setCell (p := ⟨w.heap.size + 1 + 1, 1, none⟩) (by simp only; omega) _⟩
                  simp [World.setCell, Array.getElem?_modify, hbox3]
                clear HBg hgrow hown3 hbox3 hat hltg e0 e1 hu
                go_wp2
                go_roundw
                case rel => exact ⟨k + 1, _, by omega, by go_num, HS3.out⟩
                case measure => simp [intOf]; omega
        · have hke : k = edges.length := by omega
          subst hke
          rw [List.take_length] at HS
          obtain ⟨r0', r1', f0'⟩ := HRes.out
          have r0 := (hbw.cell (p := ⟨w.heap.size + 1, 0, none⟩) (by simp only; omega)).trans r0'
          have r1 := (hbw.cell (p := ⟨w.heap.size + 1, 1, none⟩) (by simp only; omega)).trans r1'
          have f0 : ∀ j, wr.frozen? ⟨w.heap.size + 1, j, none⟩ = false := fun j => (hbw.frozen (p := ⟨w.heap.size + 1, j, none⟩) (by simp only; omega)).trans (f0' j)
          have s0 : wr.cell? ⟨w.heap.size + 1 + 1, 0, none⟩ = some (.slice vo lives.length vc) := by rw [Lib.cell_of_heap HS.out.box]; rfl
          have s1 : wr.cell? ⟨w.heap.size + 1 + 1, 1, none⟩ = some u := by rw [Lib.cell_of_heap HS.out.box]; rfl
          obtain ⟨uo, uc, hue, _⟩ := pcAt_of_owns HS.out.own2
          subst hue
          have HF : Hid (∀ a b, ((wr.setCell ⟨w.heap.size + 1, 0, none⟩ a).setCell ⟨w.heap.size + 1, 1, none⟩ b).ownsRow w.heap.size 4 1 (.slice vo lives.length vc) (aliveL t lives).length ((aliveL t lives).map Value.bool) ∧ ((wr.setCell ⟨w.heap.size + 1, 0, none⟩ a).setCell ⟨w.heap.size + 1, 1, none⟩ b).ownsRow w.heap.size 42 3 (.slice uo (arcsL t lives edges).length uc) (arcsL t lives edges).length (enc3 (arcsL t lives edges))) := by
            intro a b
            have n1 : (Value.slice vo lives.length vc).ownBlock ≠ some (w.heap.size + 1) := fun h => by have := (HS.out.own.lt _ h).1; omega
            have n2 : (Value.slice uo (arcsL t lives edges).length uc).ownBlock ≠ some (w.heap.size + 1) := fun h => by have := (HS.out.own2.lt _ h).1; omega
            exact ⟨owns_base2 (ownsRow_setBox (j := 1) (u := b) (ownsRow_setBox (j := 0) (u := a) HS.out.own n1) n1) (by omega), owns_base2 (ownsRow_setBox (j := 1) (u := b) (ownsRow_setBox (j := 0) (u := a) HS.out.own2 n2) n2) (by omega)⟩
          have HBF := hideg (ptg HB1.out hbw)
          clear r0' r1' f0'
          go_wp2
          refine bodyPost_ret (v := .agg #[.slice vo lives.length vc, .slice uo (arcsL t lives edges).length uc]) (by simp [results, Tryd.results10, go_sem, r0, r1]) rfl ⟨_, _, rfl, (HF.out _ _).1, (HF.out _ _).2, ?_⟩
          exact (HBF.out.setCell (p := ⟨w.heap.size + 1, 0, none⟩) (by simp) _).setCell (p := ⟨w.heap.size + 1, 1, none⟩) (by simp) _

end Go.Proofs.YthgelfnflafoiaaDoor
