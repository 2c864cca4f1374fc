/-
  Several texts in one.
-/
import Derived.Shelf.Abstract
import Derived.Laws.AppendOwnNone
import Derived.Maps.AppendAt
import Derived.Test.YthgelfnflafoiabGreatPk7
namespace Go.Proofs.YthgelfnflafoiabGreat.Q
open Sim (Seq.prog)
open Go.RowKit
set_option linter.unusedSimpArgs false in
set_option maxRecDepth 100000 in
set_option maxHeartbeats 8000000 in
theorem RSnap_any (g : Gr) (la ea : Option Addr) (lc ec : Nat) (t : Int) (w : World) (hG : GAt w la ea g) (R : Right g) :
   Calls Seq.prog 15 #[.agg #[.int .i64 g.hor, .slice la g.lives.length lc, .slice ea g.edges.length ec], .int .i64 t] w fun r w' => ∃ va vc, r = .returned (.agg #[va, vc]) /\ w'.ownsRow w.heap.size 4 1 va (aliveL t g.lives).length ((aliveL t g.lives).map Value.bool) /\ w'.ownsRow w.heap.size 72 3 vc (arcsL t g.lives g.edges).length (enc3 (arcsL t g.lives g.edges)) /\ Below w.heap.size w w' := by
 have HB : Hid (∀ o o', Below w.heap.size w ((w.alloc o).alloc o')) := fun o o' => ptg (gal w o) (gal _ o')
 obtain ⟨i0, hi, hb0, hb1', hb2'⟩ := info_parts Tryz.infoBool
 obtain ⟨ia, hia, ha0, ha1, ha2⟩ := info_parts Tryz.infoArc
 have HG := hideg hG
 have HR := hideg R
 obtain ⟨h, lives, edges⟩ := g
 have hl12 : lives.length <= 12 := R.lvs
 have he30 : edges.length <= 30 := R.eds
 simp only
 clear R hG
 obtain ⟨w1, hw1⟩ : ∃ w1, w1 = (w.alloc (.cells #[.int .i64 h, .slice la lives.length lc, .slice ea edges.length ec] 25)).alloc (.cells #[.slice none 0 0, .slice none 0 0] 49) := ⟨_, rfl⟩
 have hs1 : w1.heap.size = w.heap.size + 1 + 1 := by rw [hw1]; simp
 have HB1 := hideg (show Below w.heap.size w w1 by rw [hw1]; exact HB.out _ _)
 have q0 : w1.cell? ⟨w.heap.size, 0, none⟩ = some (.int .i64 h) := by rw [hw1]; simp
 have q1 : w1.cell? ⟨w.heap.size, 1, none⟩ = some (.slice la lives.length lc) := by rw [hw1]; simp
 have q2 : w1.cell? ⟨w.heap.size, 2, none⟩ = some (.slice ea edges.length ec) := by rw [hw1]; simp
 have r0 : w1.cell? ⟨w.heap.size + 1, 0, none⟩ = some (.slice none 0 0) := by rw [hw1]; simp
 have r1 : w1.cell? ⟨w.heap.size + 1, 1, none⟩ = some (.slice none 0 0) := by rw [hw1]; simp
 have f0 : ∀ j, w1.frozen? ⟨w.heap.size + 1, j, none⟩ = false := fun j => by rw [hw1]; simp
 have HG1 := hideg (HG.out.below HB1.out)
 have HRes := hideg (⟨r0, r1, f0⟩ : _ /\ _ /\ _)
 have hz0 : w.heap.size < w1.heap.size := by omega
 have HW1 := hideg hw1
 have HS1 := hideg hs1
 clear HG r0 r1 f0 hw1 hs1
 go_enter Seq.func15, Tryz.ntmps15
 go_wp2
 go_loopw [6] (fun i wr => ∃ k : Nat, ∃ v, k <= lives.length /\ i = .int .i64 k /\ SnIn (w.heap.size + 1 + 1) w1 wr v (.slice none 0 0) (aliveL t (lives.take k)) []) (fun i _ => lives.length - (intOf i).toNat)
 case atStart =>
   refine ⟨0, _, Nat.zero_le _, rfl, World.ownsRow_nil _ _ _ _, World.ownsRow_nil _ _ _ _, ?_, ?_⟩
   · rw [<- HW1.out, <- HS1.out]; exact heap_alloc_new _ _
   · rw [<- HW1.out]; exact gal _ _
 case round =>
   have hs1 : w.heap.size + 1 + 1 = w1.heap.size := HS1.out.symm
   have HSB := hideg hs1
   clear HW1 HS1
   obtain ⟨k, v, hk, rfl, hS⟩ := hrel
   have HS := hideg hS
   have hbw := hS.bel
   have hsz := hbw.size
   have hsb := heap_lt hS.box
   have p0 : wr.cell? ⟨w.heap.size, 0, none⟩ = some (.int .i64 h) := (hbw.cell (p := ⟨w.heap.size, 0, none⟩) hz0).trans q0
   have p1 : wr.cell? ⟨w.heap.size, 1, none⟩ = some (.slice la lives.length lc) := (hbw.cell (p := ⟨w.heap.size, 1, none⟩) hz0).trans q1
   have p2 : wr.cell? ⟨w.heap.size, 2, none⟩ = some (.slice ea edges.length ec) := (hbw.cell (p := ⟨w.heap.size, 2, none⟩) hz0).trans q2
   have s0 : wr.cell? ⟨w.heap.size + 1 + 1, 0, none⟩ = some v := by rw [Lib.cell_of_heap hS.box]; rfl
   have hw1s : w.heap.size + 1 + 1 <= w1.heap.size := by omega
   have hw1t : w1.heap.size <= w.heap.size + 1 + 1 := by omega
   clear hS hs1
   by_cases hlt : k < lives.length
   · have hAl := hideg (Alive_any h la ea lc edges.length ec lives k t wr.drew (HG1.out.lv.below hbw.drew) hlt (by omega))
     have HT := hideg (aliveL_take t lives k hlt)
     have HAB := hideg (aliveB_at t lives k hlt)
     obtain ⟨vo, vc, hve, _⟩ := bsAt_of_owns HS.out.own
     have hal : (aliveL t (lives.take k)).length = k := by rw [aliveL_length, List.length_take]; omega
     have hown : wr.ownsRow w1.heap.size 4 1 v k ((aliveL t (lives.take k)).map Value.bool) := by have := HS.out.own; rwa [hal] at this
     have HO := hideg hown
     rw [hal] at hve
     subst hve
     have HNE := hideg (own_ne hown HS.out.box (by decide))
     have HAfter : Hid (∀ w3, Below wr.heap.size wr w3 -> (w3.cell? ⟨w.heap.size, 0, none⟩ = some (.int .i64 h) /\ w3.cell? ⟨w.heap.size, 1, none⟩ = some (.slice la lives.length lc) /\ w3.cell? ⟨w.heap.size, 2, none⟩ = some (.slice ea edges.length ec) /\ w3.cell? ⟨w.heap.size + 1 + 1, 0, none⟩ = some (.slice vo k vc))) := fun w3 h3 =>
       ⟨(h3.cell (p := ⟨w.heap.size, 0, none⟩) (by simp only; omega)).trans p0, (h3.cell (p := ⟨w.heap.size, 1, none⟩) (by simp only; omega)).trans p1, (h3.cell (p := ⟨w.heap.size, 2, none⟩) (by simp only; omega)).trans p2, (h3.cell (p := ⟨w.heap.size + 1 + 1, 0, none⟩) hsb).trans s0⟩
     clear hown hal
     generalize hbb : aliveB t lives k = bb at *
     have HBB := hideg hbb
     clear hbb
     go_wp2_with fail
     refine wp_region_noPanic ?_
     refine wp_region_back (S := fun w' => w'.cell? ⟨w.heap.size, 0, none⟩ = some (.int .i64 h) /\ w'.cell? ⟨w.heap.size, 1, none⟩ = some (.slice la lives.length lc) /\ w'.cell? ⟨w.heap.size, 2, none⟩ = some (.slice ea edges.length ec) /\ w'.cell? ⟨w.heap.size + 1 + 1, 0, none⟩ = some (.slice vo k vc)) (by kernel_rfl) (by simp) (by kernel_rfl) (by kernel_rfl) ⟨p0, p1, p2, s0⟩ (fun hHeld => ?_)
     simp only [List.pop_toArray, List.dropLast, List.back!_toArray, List.getLast!]
     refine take_lit (i := 0) (v := ?_) rfl (by kernel_rfl) (by kernel_rfl) (by kernel_rfl) (fun _ _ _ h => h) (Or.inl ⟨by rfl, ?hy0⟩) (by assumption) ?_
     case hy0 => (intro w hSw; (try dsimp only at hSw); go_simp; try with_reducible rfl)
     try simp only [Act.put, List.setIfInBounds_toArray, List.set_cons_zero, List.set_cons_succ]
     refine take_lit (i := 1) (v := ?_) rfl (by kernel_rfl) (by kernel_rfl) (by kernel_rfl) (fun _ _ _ h => h) (Or.inl ⟨by rfl, ?hy1⟩) (by assumption) ?_
     case hy1 => (intro w hSw; (try dsimp only at hSw); go_simp; try with_reducible rfl)
     try simp only [Act.put, List.setIfInBounds_toArray, List.set_cons_zero, List.set_cons_succ]
     refine take_lit (i := 2) (v := ?_) rfl (by kernel_rfl) (by kernel_rfl) (by kernel_rfl) (fun _ _ _ h => h) (Or.inl ⟨by rfl, ?hy2⟩) (by assumption) ?_
     case hy2 => (intro w hSw; (try dsimp only at hSw); go_simp; try with_reducible rfl)
     try simp only [Act.put, List.setIfInBounds_toArray, List.set_cons_zero, List.set_cons_succ]
     refine take_lit (i := 3) (v := ?_) rfl (by kernel_rfl) (by kernel_rfl) (by kernel_rfl) (fun _ _ _ h => h) (Or.inl ⟨by rfl, ?hy3⟩) (by assumption) ?_
     case hy3 => (intro w hSw; (try dsimp only at hSw); go_simp; try with_reducible rfl)
     try simp only [Act.put, List.setIfInBounds_toArray, List.set_cons_zero, List.set_cons_succ]
     refine take_lit (i := 4) (v := ?_) rfl (by kernel_rfl) (by kernel_rfl) (by kernel_rfl) (fun _ _ _ h => h) (Or.inl ⟨by rfl, ?hy4⟩) (by assumption) ?_
     case hy4 => (intro w hSw; (try dsimp only at hSw); go_simp; try with_reducible rfl)
     try simp only [Act.put, List.setIfInBounds_toArray, List.set_cons_zero, List.set_cons_succ]
     refine next_lit (i := 5) rfl (by kernel_rfl) (fun K hK => ?_)
     go_simp
     refine hAl.out.mono ?_
     rintro e w3 ⟨rfl, hb3'⟩
     have hb3 : Below wr.heap.size wr w3 := ptg (Below.refl _ _).drew hb3'
     clear hb3'
     have KK := HAfter.out w3 hb3
     refine hK.out _ _ KK (fun hHeld => ?_)
     clear hK K hHeld
     try simp only [Act.put, List.setIfInBounds_toArray, List.set_cons_zero, List.set_cons_succ]
     refine next_lit (i := 6) rfl (by kernel_rfl) (fun K hK => ?_)
     go_simp
     have l1 := heap_lt (HS.out.box)
     have hs3 := hb3.size
     have MM := HAfter.out (w3.alloc (.cells #[.bool bb] 4)) (ptg hb3 (gal w3 _))
     refine hK.out _ _ MM (fun hHeld => ?_)
     clear hK K hHeld
     try simp only [Act.put, List.setIfInBounds_toArray, List.set_cons_zero, List.set_cons_succ]
     refine next_lit (i := 7) rfl (by kernel_rfl) (fun K hK => ?_)
     refine step_append_lies _ (by rfl) _ _ _ (by rfl) w1.heap.size 4 i0 _ 1 1 ((Seq.pu 46).trans Tryz.underlying46) hi hb0 hb1' hb2' rfl (by omega) (.slice vo k vc) k ((aliveL t (lives.take k)).map Value.bool) (by rfl) ((ownsRow_below HO.out hb3).alloc _) ⟨w3.heap.size, 0, none⟩ 1 1 [.bool bb] (by rfl) (by rfl) (World.news_of_block (cs := #[.bool bb]) (t := 4) (fr := (0, 0)) (heap_alloc_new w3 _)) (by simp [Value.oneCell']) (by omega) (by unfold maxLen; omega) (by omega) (by simp; omega) (w3.heap.size + 1) (by simp) ?_
     intro gg cap1 w4 hown1 hgrow hat hltg
     have n1 : some w.heap.size ≠ (Value.slice vo k vc).ownBlock := fun h => by have := (HO.out.lt _ h.symm).1; omega
     have x0 : w4.cell? ⟨w.heap.size, 0, none⟩ = some (.int .i64 h) := by rw [hgrow.cell_far _ (by simp; omega) n1]; exact MM.1
     have x1 : w4.cell? ⟨w.heap.size, 1, none⟩ = some (.slice la lives.length lc) := by rw [hgrow.cell_far _ (by simp; omega) n1]; exact MM.2.1
     have x2 : w4.cell? ⟨w.heap.size, 2, none⟩ = some (.slice ea edges.length ec) := by rw [hgrow.cell_far _ (by simp; omega) n1]; exact MM.2.2.1
     have x3 : w4.cell? ⟨w.heap.size + 1 + 1, 0, none⟩ = some (.slice vo k vc) := by rw [hgrow.cell_far _ (by simp; omega) (Ne.symm HNE.out)]; exact MM.2.2.2
     have hbox4 : w4.heap[w.heap.size + 1 + 1]? = some (.cells #[.slice vo k vc, .slice none 0 0] 49 (0, 0)) := by
       rw [hgrow.block _ (by simp; omega) (Ne.symm HNE.out), (gal w3 _).block _ (by omega), hb3.block _ l1]; exact HS.out.box
     have fz4 := frozen_at hbox4 0
     have HB4 := hideg (((hbw.trans (hb3.mono hbw.size)).alloc (by omega) (.cells #[.bool bb] 4)).grown hgrow (by simp; omega) (fun j hj => (HO.out.lt j hj).1))
     refine hK.out _ _ ⟨x0, x1, x2, x3⟩ (fun hHeld => ?_)
     clear hK K
     try simp only [Act.put, List.setIfInBounds_toArray, List.set_cons_zero, List.set_cons_succ]
     refine take_lit (i := 8) (v := ?_) rfl (by kernel_rfl) (by kernel_rfl) (by kernel_rfl) (fun _ _ _ h => h) (Or.inl ⟨by rfl, ?hy8⟩) (by assumption) ?_
     case hy8 => (intro w hSw; (try dsimp only at hSw); go_simp; try with_reducible rfl)
     try simp only [Act.put, List.setIfInBounds_toArray, List.set_cons_zero, List.set_cons_succ]
     refine wpAnyH_done (by kernel_rfl) ?_ _
     refine back_last (fun K hK => ?_)
     clear hHeld
     go_simp
     refine hK.out _ _ (NoPanic.normal ?_)
     clear hK K
     have HS4 : Hid (SnIn (w.heap.size + 1 + 1) w1 (w4.setCell ⟨w.heap.size + 1 + 1, 0, none⟩ (.slice (some ⟨gg, 0, none⟩) (k + 1) cap1)) (.slice (some ⟨gg, 0, none⟩) (k + 1) cap1) (.slice none 0 0) (aliveL t (lives.take (k + 1))) []) := by
       have hr : w4.ownsRow w1.heap.size 4 1 (.slice (some ⟨gg, 0, none⟩) (k + 1) cap1) (aliveL t (lives.take (k + 1))).length ((aliveL t (lives.take (k + 1))).map Value.bool) := by
         rw [aliveL_length, List.length_take, Nat.min_eq_left (by omega), HT.out, List.map_append, <- HAB.out]; exact hown1
       have hne := own_ne hr hbox4 (by decide)
       refine ⟨ownsRow_setBox hr hne, World.ownsRow_nil _ _ _ _, ?_, HB4.out.setCell (p := ⟨w.heap.size + 1 + 1, 0, none⟩) (by simp only; omega) _⟩
       simp [World.setCell, Array.getElem?_modify, hbox4]
     clear HB4 hgrow hown1 x0 x1 x2 x3 MM KK hbox4 hat hltg
     go_wp2
     go_roundw
     case rel => exact ⟨k + 1, _, by omega, by go_num, HS4.out⟩
     case measure => simp [intOf]; omega
   · have hke : k = lives.length := by omega
     subst hke
     rw [List.take_length] at HS
     have hal : (aliveL t lives).length = lives.length := aliveL_length t lives
     have HVV : Hid (∃ vo vc, v = .slice vo lives.length vc) := by
       obtain ⟨ao, ca, h, _⟩ := bsAt_of_owns HS.out.own
       exact ⟨ao, ca, by rw [h, hal]⟩
     clear s0 hbw
     obtain ⟨vo, vc, rfl⟩ := HVV.out
     go_wp2_with fail
     go_loopw [7, 10] (fun i _ wr => ∃ k : Nat, ∃ u, k <= edges.length /\ i = .int .i64 k /\ SnIn (w.heap.size + 1 + 1) w1 wr (.slice vo lives.length vc) u (aliveL t lives) (arcsL t lives (edges.take k))) (fun i _ _ => edges.length - (intOf i).toNat)
     case atStart => exact ⟨0, _, Nat.zero_le _, rfl, HS.out⟩
     case round =>
       clear HS p0 p1 p2 hsb hsz HVV
       obtain ⟨k, u, hk, rfl, hS⟩ := hrel
       have HS := hideg hS
       have hbw := hS.bel
       have hsz := hbw.size
       have hsb := heap_lt hS.box
       have p2 : wr.cell? ⟨w.heap.size, 2, none⟩ = some (.slice ea edges.length ec) := (hbw.cell (p := ⟨w.heap.size, 2, none⟩) hz0).trans q2
       have HCW : Hid (∀ w3, Below wr.heap.size wr w3 -> (w3.cell? ⟨w.heap.size, 0, none⟩ = some (.int .i64 h) /\ w3.cell? ⟨w.heap.size, 1, none⟩ = some (.slice la lives.length lc) /\ w3.cell? ⟨w.heap.size, 2, none⟩ = some (.slice ea edges.length ec)) /\ w3.cell? ⟨w.heap.size + 1 + 1, 1, none⟩ = some u /\ IvAt w3 la lives /\ wr.heap.size <= w3.heap.size) := by
         intro w3 h3
         have hb := hbw.trans (h3.mono hsz)
         refine ⟨⟨(hb.cell (p := ⟨w.heap.size, 0, none⟩) hz0).trans q0, (hb.cell (p := ⟨w.heap.size, 1, none⟩) hz0).trans q1, (hb.cell (p := ⟨w.heap.size, 2, none⟩) hz0).trans q2⟩, ?_, HG1.out.lv.below hb, h3.size⟩
         rw [h3.cell (p := ⟨w.heap.size + 1 + 1, 1, none⟩) hsb, Lib.cell_of_heap HS.out.box]; rfl
       clear hS
       by_cases hlt : k < edges.length
       · have hlt2 := hlt
         rcases HG1.out.ed with h0 | ⟨b, off, rfl, hbr, hc⟩
         · simp only at h0; subst h0; simp at hlt
         obtain ⟨c0', c1', lo, lcap, c2', hL, hnl, hml⟩ := hc k hlt
         have c0 := (hbw.cell (p := ⟨b, off + k * 3, none⟩) hbr).trans c0'
         have c1 := (hbw.cell (p := ⟨b, off + k * 3 + 1, none⟩) hbr).trans c1'
         have c2 := (hbw.cell (p := ⟨b, off + k * 3 + 2, none⟩) hbr).trans c2'
         have hbr2 : b < wr.heap.size := by omega
         have HN := HR.out.ends edges[k] (List.getElem_mem hlt)
         have HT := hideg (arcs_take t lives edges k hlt)
         have hLw := hL.below hbw
         have hln := arcs_len t lives (edges.take k)
         have hln2 : (arcsL t lives (edges.take k)).length <= 30 := by rw [List.length_take] at hln; omega
         clear c0' c1' c2' hc hL hln
         generalize edges[k] = ed at *
         obtain ⟨A, B, legs⟩ := ed
         simp only at HN c0 c1 c2 hLw hnl
         obtain ⟨⟨hA0, hA1⟩, ⟨hB0, hB1⟩, hl6⟩ := HN
         obtain ⟨na, rfl⟩ : ∃ na : Nat, A = na := ⟨A.toNat, by omega⟩
         obtain ⟨nb, rfl⟩ : ∃ nb : Nat, B = nb := ⟨B.toNat, by omega⟩
         have hA1' : na < lives.length := by omega
         have hB1' : nb < lives.length := by omega
         have hleg := fun o => rleg_any na nb lo lcap legs t (wr.alloc o) (hLw.below (gal wr o)) (by omega)
         clear hLw
         have iA : (na : Int) < (lives.length : Int) := by omega
         have iB : (nb : Int) < (lives.length : Int) := by omega
         have iA0 : (0 : Int) <= (na : Int) := by omega
         have iB0 : (0 : Int) <= (nb : Int) := by omega
         have HD0 := hideg (fun h => arcOf_none (t := t) (lives := lives) (e := ((na : Int), (nb : Int), legs)) h)
         have HD1 := hideg (fun h => arcOf_dead (t := t) (lives := lives) (e := ((na : Int), (nb : Int), legs)) h)
         have HD2 := hideg (fun l h h' => arcOf_some (t := t) (lives := lives) (e := ((na : Int), (nb : Int), legs)) (l := l) h h')
         simp only at HD0 HD1 HD2
         have i1 : (k : Int) < (edges.length : Int) := by omega
         have i2 : (0 : Int) <= (k : Int) := by omega
         go_wp2_with fail
         refine (hleg _).mono ?_
         rintro e w2 ⟨rfl, hb2⟩
         have HE : Hid (∀ o w3, Below w2.heap.size w2 w3 -> Below (w2.alloc o).heap.size (w2.alloc o) w3 \/ True -> w3.cell? ⟨wr.heap.size, 0, none⟩ = some (.int .i64 na) /\ w3.cell? ⟨wr.heap.size, 1, none⟩ = some (.int .i64 nb)) := by
           intro o w3 h3 _
           have hs2 := hb2.size
           simp only [World.size_alloc] at hs2
           refine ⟨?_, ?_⟩
           · rw [h3.cell (p := ⟨wr.heap.size, 0, none⟩) (by simp only; omega), hb2.cell (p := ⟨wr.heap.size, 0, none⟩) (by simp)]; simp
           · rw [h3.cell (p := ⟨wr.heap.size, 1, none⟩) (by simp only; omega), hb2.cell (p := ⟨wr.heap.size, 1, none⟩) (by simp)]; simp
         have HB2 := hideg (ptg (gal wr _) hb2)
         have y1 : wr.heap.size < w2.heap.size := by have := hb2.size; simp at this; omega
         have y2 : w.heap.size + 1 + 1 < w2.heap.size := by omega
         have y4 : w.heap.size < w2.heap.size := by omega
         clear hb2 hleg c0 c1 c2 p2
         have HSk : Hid (∀ w3, Below w2.heap.size w2 w3 -> arcOf t lives ((na : Int), (nb : Int), legs) = [] -> SnIn (w.heap.size + 1 + 1) w1 w3 (.slice vo lives.length vc) u (aliveL t lives) (arcsL t lives (edges.take (k + 1)))) := by
           intro w3 h3 h
           have hb := ptg HB2.out h3
           rw [HT.out, h, List.append_nil]
           exact ⟨ownsRow_below HS.out.own hb, ownsRow_below HS.out.own2 hb, by rw [hb.block _ hsb]; exact HS.out.box, hbw.trans (hb.mono hsz)⟩
         have HAl : Hid (∀ W n, n < lives.length -> Below w2.heap.size w2 W -> Calls Seq.prog 28 #[.agg #[.int .i64 h, .slice la lives.length lc, .slice (some ⟨b, off, none⟩) edges.length ec], .int .i64 (n : Nat), .int .i64 t] W fun r w' => r = .returned (.bool (aliveB t lives n)) /\ Below W.heap.size W w') := fun W n hn hb => Alive_any h la (some ⟨b, off, none⟩) lc edges.length ec lives n t W (HCW.out W (ptg HB2.out hb)).2.2.1 hn (by omega)
         cases hf : lgFind t legs with
         | none =>
           have HSk2 := hideg (fun w3 h3 => HSk.out w3 h3 (HD0.out hf))
           simp only [legV, Option.getD_none, Option.isSome_none]
           clear hf HSk HD0 HD1 HD2 HAl
           go_wp2
           go_roundw
           case rel => exact ⟨k + 1, _, by omega, by go_num, HSk2.out _ (gal w2 _)⟩
           case measure => simp [intOf]; omega
         | some l =>
           simp only [legV, Option.getD_some, Option.isSome_some]
           obtain ⟨⟨a0, a1, a2⟩, a3, _, _⟩ := HCW.out w2 HB2.out
           obtain ⟨e0, e1⟩ := HE.out (.cells #[] 0) w2 (Below.refl _ _) (.inr trivial)
           go_wp2_with fail
           refine (HAl.out _ na hA1' (gal w2 _)).mono ?_
           rintro e w3 ⟨rfl, hb3'⟩
           have hb3 := ptg (gal w2 _) hb3'
           have d3 : w3.cell? ⟨w2.heap.size, 3, none⟩ = some (.int .i64 l.2.2.2) := by rw [hb3'.cell (p := ⟨w2.heap.size, 3, none⟩) (by simp)]; simp
           have y5 : w2.heap.size < w3.heap.size := by have := hb3'.size; simp at this; omega
           have HB3 := hideg hb3
           clear hb3' hb3 a0 a1 a2 a3 e0 e1
           obtain ⟨⟨a0, a1, a2⟩, a3, _, _⟩ := HCW.out w3 (ptg HB2.out HB3.out)
           obtain ⟨e0, e1⟩ := HE.out (.cells #[] 0) w3 HB3.out (.inr trivial)
           have y6 : wr.heap.size < w3.heap.size := by omega
           have y7 : w.heap.size < w3.heap.size := by omega
           cases ea' : aliveB t lives na with
           | false =>
             have HSk2 := hideg (HSk.out w3 HB3.out (HD1.out (by simp [ea'])))
             clear hf HSk HD0 HD1 HD2 ea'
             go_wp2
             go_roundw
             case rel => exact ⟨k + 1, _, by omega, by go_num, HSk2.out⟩
             case measure => simp [intOf]; omega
           | true =>
             go_wp2_with fail
             refine (HAl.out _ nb hB1' HB3.out).mono ?_
             rintro e w4 ⟨rfl, hb4⟩
             have HB4 := hideg (ptg HB3.out hb4)
             have d4 : w4.cell? ⟨w2.heap.size, 3, none⟩ = some (.int .i64 l.2.2.2) := by rw [hb4.cell (p := ⟨w2.heap.size, 3, none⟩) y5, d3]
             have y8 : w3.heap.size <= w4.heap.size := hb4.size
             clear hb4 a0 a1 a2 a3 e0 e1 d3
             obtain ⟨_, a3, _, _⟩ := HCW.out w4 (ptg HB2.out HB4.out)
             obtain ⟨e0, e1⟩ := HE.out (.cells #[] 0) w4 HB4.out (.inr trivial)
             cases eb' : aliveB t lives nb with
             | false =>
               have HSk2 := hideg (HSk.out w4 HB4.out (HD1.out (by simp [eb'])))
               clear hf HSk HD0 HD1 HD2 ea' eb'
               go_wp2
               go_roundw
               case rel => exact ⟨k + 1, _, by omega, by go_num, HSk2.out⟩
               case measure => simp [intOf]; omega
             | true =>
               have HA := hideg (HD2.out l hf (by simp [ea', eb']))
               clear hf HSk HD0 HD1 HD2 ea' eb'
               have hb4 := ptg HB2.out HB4.out
               have hu := ownsRow_below HS.out.own2 hb4
               have y9 : w.heap.size + 1 + 1 < w4.heap.size := by omega
               go_wp2_with (at_builtin; refine wpList_append_lies _ rfl _ _ 47 rfl w1.heap.size 72 ia (.agg #[.int .i64 0, .int .i64 0, .int .i64 0]) 3 24 ((Seq.pu 47).trans Tryz.underlying47) hia ha0 ha1 ha2 rfl (by decide) _ _ _ rfl (World.ownsRow.alloc (w := w4) hu _) ⟨w4.heap.size, 0, none⟩ 1 1 [.int .i64 na, .int .i64 nb, .int .i64 l.2.2.2] rfl rfl ?c1 ?c2 (by decide) ?c3 ?c4 ?c5 (w4.heap.size + 1) ?c6 ?_)
               case c1 => exact cells_three_new _ _ _ _ _ _ (by simp)
               case c2 => intro u hu; simp at hu; rcases hu with rfl | rfl | rfl <;> rfl
               case c3 => unfold maxLen; omega
               case c4 => omega
               case c5 => simp; omega
               case c6 => simp
               intro gg cap1 w5 hown3 hgrow hat hltg
               have hne := own_ne HS.out.own2 HS.out.box (by decide)
               have hbox3 : w5.heap[w.heap.size + 1 + 1]? = some (.cells #[.slice vo lives.length vc, u] 49 (0, 0)) := by
                 rw [hgrow.block _ (by simp; omega) (Ne.symm hne), (gal _ _).block _ y9, hb4.block _ hsb]; exact HS.out.box
               have z0 : w5.cell? ⟨w.heap.size + 1 + 1, 0, none⟩ = some (.slice vo lives.length vc) := by rw [Lib.cell_of_heap hbox3]; rfl
               have z1 : w5.cell? ⟨w.heap.size + 1 + 1, 1, none⟩ = some u := by rw [Lib.cell_of_heap hbox3]; rfl
               have fz := frozen_at hbox3 1
               have HBg := hideg (((hbw.trans (hb4.mono hsz)).alloc (by omega) (.cells #[.int .i64 na, .int .i64 nb, .int .i64 l.2.2.2] 72)).grown hgrow (by simp; omega) (fun j hj => (HS.out.own2.lt j hj).1))
               have HS3 : Hid (SnIn (w.heap.size + 1 + 1) w1 (w5.setCell ⟨w.heap.size + 1 + 1, 1, none⟩ (.slice (some ⟨gg, 0, none⟩) ((arcsL t lives (edges.take k)).length + 1) cap1)) (.slice vo lives.length vc) (.slice (some ⟨gg, 0, none⟩) ((arcsL t lives (edges.take k)).length + 1) cap1) (aliveL t lives) (arcsL t lives (edges.take (k + 1)))) := by
                 have hr : w5.ownsRow w1.heap.size 72 3 (.slice (some ⟨gg, 0, none⟩) ((arcsL t lives (edges.take k)).length + 1) cap1) (arcsL t lives (edges.take (k + 1))).length (enc3 (arcsL t lives (edges.take (k + 1)))) := by
                   rw [HT.out, HA.out, enc3_append, List.length_append]; exact hown3
                 have ha : w5.ownsRow w1.heap.size 4 1 (.slice vo lives.length vc) (aliveL t lives).length ((aliveL t lives).map Value.bool) :=
                   ownsRow_grown (World.ownsRow.alloc (ownsRow_below HS.out.own hb4) (.cells #[.int .i64 na, .int .i64 nb, .int .i64 l.2.2.2] 72)) (World.ownsRow.alloc hu _) hgrow (by decide)
                 refine ⟨ownsRow_setBox ha (own_ne ha hbox3 (by decide)), ownsRow_setBox hr (own_ne hr hbox3 (by decide)), ?_, HBg.out.setCell (p := ⟨w.heap.size + 1 + 1, 1, none⟩) (by simp only; omega) _⟩
                 simp [World.setCell, Array.getElem?_modify, hbox3]
               clear HBg hgrow hown3 hbox3 hat hltg e0 e1 hu
               go_wp2
               go_roundw
               case rel => exact ⟨k + 1, _, by omega, by go_num, HS3.out⟩
               case measure => simp [intOf]; omega
       · have hke : k = edges.length := by omega
         subst hke
         rw [List.take_length] at HS
         obtain ⟨r0', r1', f0'⟩ := HRes.out
         have r0 := (hbw.cell (p := ⟨w.heap.size + 1, 0, none⟩) (by simp only; omega)).trans r0'
         have r1 := (hbw.cell (p := ⟨w.heap.size + 1, 1, none⟩) (by simp only; omega)).trans r1'
         have f0 : ∀ j, wr.frozen? ⟨w.heap.size + 1, j, none⟩ = false := fun j => (hbw.frozen (p := ⟨w.heap.size + 1, j, none⟩) (by simp only; omega)).trans (f0' j)
         have s0 : wr.cell? ⟨w.heap.size + 1 + 1, 0, none⟩ = some (.slice vo lives.length vc) := by rw [Lib.cell_of_heap HS.out.box]; rfl
         have s1 : wr.cell? ⟨w.heap.size + 1 + 1, 1, none⟩ = some u := by rw [Lib.cell_of_heap HS.out.box]; rfl
         obtain ⟨uo, uc, hue, _⟩ := pcAt_of_owns HS.out.own2
         subst hue
         have HF : Hid (∀ a b, ((wr.setCell ⟨w.heap.size + 1, 0, none⟩ a).setCell ⟨w.heap.size + 1, 1, none⟩ b).ownsRow w.heap.size 4 1 (.slice vo lives.length vc) (aliveL t lives).length ((aliveL t lives).map Value.bool) /\ ((wr.setCell ⟨w.heap.size + 1, 0, none⟩ a).setCell ⟨w.heap.size + 1, 1, none⟩ b).ownsRow w.heap.size 72 3 (.slice uo (arcsL t lives edges).length uc) (arcsL t lives edges).length (enc3 (arcsL t lives edges))) := by
           intro a b
           have n1 : (Value.slice vo lives.length vc).ownBlock ≠ some (w.heap.size + 1) := fun h => by have := (HS.out.own.lt _ h).1; omega
           have n2 : (Value.slice uo (arcsL t lives edges).length uc).ownBlock ≠ some (w.heap.size + 1) := fun h => by have := (HS.out.own2.lt _ h).1; omega
           exact ⟨owns_base2 (ownsRow_setBox (j := 1) (u := b) (ownsRow_setBox (j := 0) (u := a) HS.out.own n1) n1) (by omega), owns_base2 (ownsRow_setBox (j := 1) (u := b) (ownsRow_setBox (j := 0) (u := a) HS.out.own2 n2) n2) (by omega)⟩
         have HBF := hideg (ptg HB1.out hbw)
         clear r0' r1' f0'
         go_wp2
         refine bodyPost_ret (v := .agg #[.slice vo lives.length vc, .slice uo (arcsL t lives edges).length uc]) (by simp [results, Tryz.results15, go_sem, r0, r1]) rfl ⟨_, _, rfl, (HF.out _ _).1, (HF.out _ _).2, ?_⟩
         exact (HBF.out.setCell (p := ⟨w.heap.size + 1, 0, none⟩) (by simp) _).setCell (p := ⟨w.heap.size + 1, 1, none⟩) (by simp) _
structure HeldIn (w0 : World) where
 w : World
 h : Below w0.heap.size w0 w
theorem wp_region_held {P : Program} (w0 : World) {id : Nat} {Q : Exit -> Act -> World -> Prop} {a : Act} {w : World} {l : List Oper} (h0 : Below w0.heap.size w0 w) (hm : P.follows .mixedOrders = true) (hB : Region.lexB .any l.toArray = true)
   (h : wpQuiet P l.toArray (fun w' => ∃ s : HeldIn w0, w' = s.w) (fun a' => ∀ w', (∃ s : HeldIn w0, w' = s.w) -> Q .normal a' w') l a) : (Code.region id l.toArray true).wp P Q a w :=
 wp_region_quiet (C := fun w' => ∃ s : HeldIn w0, w' = s.w) hm hB ⟨⟨_, h0.drew⟩, rfl⟩ (by simpa using h)
theorem held_of {P : Program} {f : FuncId} {args : Array Value} {w0 : World} {s : HeldIn w0} {v : Value}
   (h : Calls P f args s.w fun e w' => e = .returned v /\ Below s.w.heap.size s.w w') : Calls P f args s.w fun e w'' => e = .returned v /\ ∃ s' : HeldIn w0, w'' = s'.w :=
 h.mono fun _ w' ⟨he, hb⟩ => ⟨he, ⟨w', s.h.trans (hb.mono s.h.size)⟩, rfl⟩
theorem held_same {P : Program} {f : FuncId} {args : Array Value} {w0 : World} {s : HeldIn w0} {v : Value}
   (h : Calls P f args s.w fun e w' => e = .returned v /\ w' = s.w) : Calls P f args s.w fun e w'' => e = .returned v /\ ∃ s' : HeldIn w0, w'' = s'.w :=
 h.mono fun _ _ ⟨he, hb⟩ => ⟨he, s, hb⟩
theorem wp_region_held_back {P : Program} (w0 : World) {id : Nat} {full : Array Oper} {Q : Exit -> Act -> World -> Prop} {a : Act} {w : World} (h0 : Below w0.heap.size w0 w) (hm : P.follows .mixedOrders = true) (hn : 0 < full.size) (hB : Region.lexB .any full.pop = true) (hf : fwdB full.pop = true) (hl : lastB full.pop full.back! = true)
   (h : wpQuiet P full.pop (fun w' => ∃ s : HeldIn w0, w' = s.w) (fun a' => ∀ w', (∃ s : HeldIn w0, w' = s.w) -> BackQ P full.back! Q .normal a' w') full.pop.toList a) : (Code.region id full true).wp P Q a w := by
 have e : full = full.pop.push full.back! := (Array.eq_push_pop_back!_of_size_ne_zero (by omega))
 generalize full.pop = ops at *
 generalize full.back! = st at *
 subst e
 simp only [Region.lexB, Bool.and_eq_true] at hB
 refine wp_region_any hm ?_
 have h1 : wpAny P .any ops (BackQ P st Q) ops.size (Array.replicate ops.size false) a w.drew := by
   refine wpAny_of_quiet (C := fun w' => ∃ s : HeldIn w0, w' = s.w) (Q := fun a' => ∀ w', (∃ s : HeldIn w0, w' = s.w) -> BackQ P st Q .normal a' w') (fun _ w' hw' h => h w' hw') _ _ _ _ ⟨⟨_, h0.drew⟩, rfl⟩ ?_
   have := wpAnyQ_lex (C := fun w' => ∃ s : HeldIn w0, w' = s.w) (md := .any) hB.1 ops.toList 0 (Array.replicate ops.size false) a (by simp) (by simpa using hB.2) h
   simpa using this
 have h2 := pop_sound hf hl ops.size _ a w.drew (by simp) (by
   intro j o hj hlj
   have : j < ops.size := (Array.getElem?_eq_some_iff.1 hj).1
   simp [this] at hlj) h1
 have e1 : (Array.replicate ops.size false).push false = Array.replicate (ops.push st).size false := by
   apply Array.ext
   · simp
   · intro k h1 h2
     simp [Array.getElem_push]
 rw [e1] at h2
 have e2 : (ops.push st).size = ops.size + 1 := by simp
 rw [e2] at h2 ⊢
 exact h2
theorem gby_set (w : World) (b j : Nat) (u : Value) : w.grownBy (w.setCell ⟨b, j, none⟩ u) (some b) :=
 ⟨rfl, rfl, rfl, by simp [World.setCell], fun k _ hk => Below.heap_setCell _ _ _ _ (fun e => hk (by simp [e]))⟩
abbrev Zo (w : World) (base gb n cap : Nat) (x : List Int) : Prop := w.ownsRow base 3 1 (.slice (some ⟨gb, 0, none⟩) n cap) n (x.map (Value.int .i64))
theorem Zo.len {w : World} {base gb n cap : Nat} {x : List Int} (h : Zo w base gb n cap x) : x.length = n := by have := h.1; simpa using this
theorem Zo.cell {w : World} {base gb n cap : Nat} {x : List Int} (h : Zo w base gb n cap x) {k : Nat} (hk : k < n) : w.cell? ⟨gb, k, none⟩ = some (.int .i64 (x.getD k 0)) := by
 have hl := h.len
 rw [World.ownsRow.cellAt h k (by omega), List.getElem?_map, List.getD_eq_getElem?_getD, List.getElem?_eq_getElem (by omega)]; rfl
theorem Zo.set {w : World} {base gb n cap : Nat} {x : List Int} (h : Zo w base gb n cap x) (k : Nat) (v : Int) : Zo (w.setCell ⟨gb, k, none⟩ (.int .i64 v)) base gb n cap (x.set k v) := by
 have := (World.ownsRow.stored h k (.int .i64 v)).1
 rw [<- List.map_set] at this
 exact this
theorem Zo.below {w w' : World} {base gb n cap : Nat} {x : List Int} (h : Zo w base gb n cap x) (hb : Below w.heap.size w w') : Zo w' base gb n cap x := ownsRow_below h hb
def rdL (w : World) (gb n : Nat) : List Int := (List.range n).map fun j => intOf ((w.cell? ⟨gb, j, none⟩).getD (.int .i64 0))
theorem Zo.rd {w : World} {base gb n cap : Nat} {x : List Int} (h : Zo w base gb n cap x) : rdL w gb n = x := by
 have hl := h.len
 apply List.ext_getElem (by simp [rdL, hl])
 intro i h1 h2
 simp only [rdL, List.getElem_map, List.getElem_range]
 rw [h.cell (k := i) (by omega), List.getD_eq_getElem?_getD, List.getElem?_eq_getElem h2]; rfl
theorem take_succI (l : List Int) (k : Nat) (h : k < l.length) : l.take (k + 1) = l.take k ++ [l[k]] := List.take_succ_eq_append_getElem h
set_option maxHeartbeats 2000000 in
theorem EqualI_any (ao bo : Option Addr) (ca cb : Nat) (a b : List Int) (w : World) (hA : ZsAt w ao a) (hB : ZsAt w bo b) (hl : a.length <= 9223372036854775807) :
   Calls Seq.prog 42 #[.slice ao a.length ca, .slice bo b.length cb] w fun e w' => e = .returned (.bool (decide (a = b))) /\ Below w.heap.size w w' := by
 by_cases hlen : a.length = b.length
 · have HLN : Hid (a.length = b.length) := hlen
   rw [<- hlen]
   have hne : ((a.length : Int) != (a.length : Int)) = false := by simp
   clear hlen
   go_enter Seq.func42, Tryz.ntmps42
   go_wp2
   go_loopw [5, 13] (fun _ i wr => ∃ k : Nat, k <= a.length /\ i = .int .i64 k /\ a.take k = b.take k /\ Below w.heap.size w wr) (fun _ i _ => a.length - (intOf i).toNat)
   case atStart => exact ⟨0, Nat.zero_le _, rfl, rfl, Below.refl _ _⟩
   case round =>
     obtain ⟨k, hk, rfl, hh, hb⟩ := hrel
     have HH : Hid (a.take k = b.take k) := hh
     clear hh
     by_cases hlt : k < a.length
     · have hlt' : k < b.length := by have := HLN.out; omega
       rcases hA.below hb with h0 | ⟨b1, o1, rfl, hb1, hc1⟩
       · subst h0; simp at hlt
       rcases hB.below hb with h0 | ⟨b2, o2, rfl, hb2, hc2⟩
       · subst h0; simp at hlt'
       have c0 := hc1 k hlt
       have d0 := hc2 k hlt'
       rw [List.getD_eq_getElem?_getD, List.getElem?_eq_getElem hlt, Option.getD_some] at c0
       rw [List.getD_eq_getElem?_getD, List.getElem?_eq_getElem hlt', Option.getD_some] at d0
       clear hc1 hc2 hA hB
       by_cases g : a[k] = b[k]
       · have HC : Hid (a.take (k + 1) = b.take (k + 1)) := by show _ = _; rw [take_succI a k hlt, take_succI b k hlt', HH.out, g]
         have e1 : (a[k] != b[k]) = false := by simpa using g
         clear g
         go_wp2
         go_quiet (fail)
         go_wp2
         go_roundw
         case rel => exact ⟨k + 1, by omega, by go_num, HC.out, below_drewN hb _⟩
         case measure => simp [intOf]; omega
       · have HC : Hid (decide (a = b) = false) := by
           show _ = _
           rw [decide_eq_false_iff_not]
           intro h; subst h; exact g rfl
         have e1 : (a[k] != b[k]) = true := by simpa using g
         clear g
         go_wp2
         go_quiet (fail)
         go_wp2
         go_ret
         exact ⟨retp_bool HC.out.symm, below_drewN hb _⟩
     · have hkl : k = a.length := by omega
       have HC : Hid (decide (a = b) = true) := by
         show _ = _
         have := HH.out
         rw [hkl, List.take_length, HLN.out, List.take_length] at this
         rw [this]; simp
       go_wp2
       go_ret
       exact ⟨retp_bool HC.out.symm, hb⟩
 · have hne : ((a.length : Int) != (b.length : Int)) = true := by simp; omega
   have HC : Hid (decide (a = b) = false) := by
     show _ = _
     rw [decide_eq_false_iff_not]
     intro h; subst h; exact hlen rfl
   clear hlen
   go_enter Seq.func42, Tryz.ntmps42
   go_wp2
   go_ret
   exact ⟨retp_bool HC.out.symm, Below.refl _ _⟩
theorem arc_parts {arcs : List Ac} {n k : Nat} (hE : EndsIn n arcs) (hk : k < arcs.length) : ∃ (A B : Nat), A < n /\ B < n /\ arcs[k].1 = (A : Int) /\ arcs[k].2.1 = (B : Int) := by
 have h := hE _ (List.getElem_mem hk)
 exact ⟨arcs[k].1.toNat, arcs[k].2.1.toNat, by omega, by omega, by omega, by omega⟩
def blkOf : Value -> Nat
 | .slice (some a) _ _ => a.block
 | _ => 0
structure RoundsIs (arcs : List Ac) (p : Ac -> Int) (back : Bool) (first x : List Int) (k : Nat) : Prop where
 is : x = rnds arcs p back k first
 stop : rnd arcs p back x = x
 on : ∀ j, j < k -> ¬ rnd arcs p back (rnds arcs p back j first) = rnds arcs p back j first
theorem zsAt_of_zo {w : World} {base gb n cap : Nat} {x : List Int} (h : Zo w base gb n cap x) : ZsAt w (some ⟨gb, 0, none⟩) x := by
 have hl := h.len
 refine .inr ⟨gb, 0, rfl, (World.ownsRow.lt h gb rfl).2, fun j hj => ?_⟩
 rw [Nat.zero_add]; exact h.cell (by omega)
theorem zo_news {w : World} {base gb n cap : Nat} {x : List Int} (h : Zo w base gb n cap x) : ∀ j u, (x.map (Value.int .i64))[j]? = some u -> w.cell? ((⟨gb, 0, none⟩ : Addr).add j) = some u := World.ownsRow.cells h rfl
theorem map_one (x : List Int) : ∀ u ∈ x.map (Value.int .i64), u.oneCell' = true := by intro u hu; rw [List.mem_map] at hu; obtain ⟨z, _, rfl⟩ := hu; rfl
theorem zo_made {w : World} {base n : Nat} {v : Value} {x : List Int} (h : w.ownsRow base 3 1 v n (x.map (Value.int .i64))) (hn : 0 < n) : ∃ g c, v = .slice (some ⟨g, 0, none⟩) n c /\ Zo w base g n c x := by
 rcases h.2 with ⟨_, h0⟩ | ⟨g, cap, cur, rfl, _⟩
 · omega
 · exact ⟨g, cap, rfl, h⟩
theorem min_if (a b : Int) : (if b < a then b else a) = min a b := by
 by_cases h : b < a
 · rw [if_pos h]; omega
 · rw [if_neg h]; omega
theorem rel1_parts (p : Ac -> Int) (back : Bool) (x z : List Int) (a : Ac) {A B : Nat} (eA : a.1 = (A : Int)) (eB : a.2.1 = (B : Int)) :
   rel1 p back x z a = if back = true then (z.set B (min (z.getD B 0) (x.getD A 0 + p a))).set A (min ((z.set B (min (z.getD B 0) (x.getD A 0 + p a))).getD A 0) (x.getD B 0 + p a)) else z.set B (min (z.getD B 0) (x.getD A 0 + p a)) := by
 unfold rel1 vat; rw [eA, eB]; rfl
set_option maxRecDepth 100000 in
set_option maxHeartbeats 8000000 in
theorem Rounds_false (g : Nat) (caps : Array Value) (p : Ac -> Int) (eg : ∀ args w, (callFunc g args).run Seq.prog w = .ok (.enter g args) w) (ao bo : Option Addr) (ca cb fb fc na : Nat) (first : List Int) (arcs : List Ac) (base0 : Nat) (w : World)
   (hFi : Zo w base0 fb first.length fc first) (hR : PcAt w bo arcs) (F : Fine first (ways false arcs) p) (he : false = true -> Even p) (h0 : 0 < first.length) (h12 : first.length <= 12) (h30 : arcs.length <= 30)
   (hf : ∀ a ∈ arcs, ∀ wq, Below w.heap.size w wq -> Calls Seq.prog g (#[.agg #[.int .i64 a.1, .int .i64 a.2.1, .int .i64 a.2.2]] ++ caps) wq fun e w' => e = .returned (.int .i64 (p a)) /\ Below wq.heap.size wq w') :
   Calls Seq.prog 25 #[.agg #[.slice ao na ca, .slice bo arcs.length cb], .slice (some ⟨fb, 0, none⟩) first.length fc, .func (.func g) #[] caps, .bool false] w fun e w' => ∃ gb c x k, e = .returned (.tuple #[.slice (some ⟨gb, 0, none⟩) first.length c, .int .i64 (k : Nat)]) /\ RoundsIs arcs p false first x k /\ Zo w' w.heap.size gb first.length c x /\ Below w.heap.size w w' := by
 obtain ⟨i0, hi, hz0, hz1, hz2⟩ := info_parts Tryz.infoInt
 have HF := hidep hf
 have HFine := hidep F
 have HRR : Hid (∀ x, Mid first (ways false arcs) p x -> Mid first (ways false arcs) p (rnd arcs p false x)) := fun x hx => (rn_round F he hx).mid
 have HRL : Hid (∀ x, Mid first (ways false arcs) p x -> ¬ rnd arcs p false x = x -> msum (rnd arcs p false x) < msum x) := fun x hx h => rnd_less F he hx h
 have HEn : Hid (EndsIn first.length arcs) := fun a ha => F.en a (mem_ways ha).1
 have HPl : Hid (∀ a ∈ arcs, 0 <= p a /\ p a <= 1000) := fun a ha => F.pl a (mem_ways ha).1
 have HMs : Hid (msum first <= 20000000000000) := by
   have := msum_bound first (fun z hz => by obtain ⟨i, hi, rfl⟩ := List.getElem_of_mem hz; have := F.hi i hi; rw [List.getD_eq_getElem?_getD, List.getElem?_eq_getElem hi] at this; exact this)
   show _ <= _
   omega
 have hnews := hidep (zo_news hFi)
 have HFl := hidep (World.ownsRow.lt hFi fb rfl).2
 clear hf F he hFi
 obtain ⟨n, hn⟩ : ∃ n, n = first.length := ⟨_, rfl⟩
 rw [<- hn]
 have HN := hidep hn
 have h0' : 0 < n := by omega
 have h12' : n <= 12 := by omega
 clear hn h0 h12
 have HD1 : Hid ((first.map (Value.int .i64)).length = n * 1) := by show _ = _; rw [List.length_map, <- HN.out, Nat.mul_one]
 have HD2 : Hid (∀ o j u, (first.map (Value.int .i64))[j]? = some u -> (w.alloc o).cell? ((⟨fb, 0, none⟩ : Addr).add j) = some u) := by
   intro o j u hu
   have h := hnews.out j u hu
   rw [Go.WideShapes.add_plain] at h ⊢
   rw [(pal w _).cell (p := ⟨fb, 0 + j, none⟩) HFl.out]
   exact h
 have HD3 := hidep (map_one first)
 have HD6 : Hid (∀ o, w.heap.size + 1 <= (w.alloc o).heap.size) := fun o => by simp
 go_enter Seq.func25, Tryz.ntmps25
 go_wp2_with (at_builtin; refine wpList_append_own _ rfl _ _ 43 rfl (w.heap.size + 1) 3 i0 (.int .i64 0) 1 8 ((Seq.pu 43).trans Tryz.underlying43) hi hz0 hz1 hz2 rfl (by decide) _ 0 [] rfl (World.ownsRow_nil _ _ _ _) ⟨fb, 0, none⟩ n fc (first.map (Value.int .i64)) rfl HD1.out (HD2.out _) HD3.out (by unfold maxLen; omega) (by omega) (HD6.out _) ?_)
 intro v1 w1 hown1 hgrow1 _
 obtain ⟨g1, c1, rfl, hZ1⟩ := zo_made hown1 h0'
 have hb1 : Below (w.heap.size + 1) (w.alloc (.cells #[.slice ao na ca, .slice bo arcs.length cb] 49)) w1 := (Below.refl _ _).grown hgrow1 (by simp) (fun k hk => by cases hk)
 have HZ1 := hidep hZ1
 have HB1 := hidep hb1
 clear hown1 hgrow1 hZ1 hb1 hnews HD1 HD2 HD3 HD6
 go_wp2
 go_loopw [10, 11, 12, 13, 14] (fun vn vk _ _ _ wr => ∃ (k g1 c1 : Nat) (x : List Int), vn = .slice (some ⟨g1, 0, none⟩) n c1 /\ vk = .int .i64 k /\ x = rnds arcs p false k first /\ (∀ j, j < k -> ¬ rnd arcs p false (rnds arcs p false j first) = rnds arcs p false j first) /\ Mid first (ways false arcs) p x /\ k + msum x <= msum first /\ Zo wr (w.heap.size + 1) g1 n c1 x /\ Below (w.heap.size + 1) (w.alloc (.cells #[.slice ao na ca, .slice bo arcs.length cb] 49)) wr) (fun vn _ _ _ _ wr => msum (rdL wr (blkOf vn) n))
 case atStart => exact ⟨0, g1, c1, first, rfl, rfl, rfl, (fun j h => by omega), mid_start _ _ _, by omega, HZ1.out, HB1.out⟩
 case round =>
   obtain ⟨k, g1, c1, x, rfl, rfl, hx, hon, hM, hms, hZ, hb⟩ := hrel
   have HX := hidep hx
   have HOn := hidep hon
   have HM := hidep hM
   have HMx := hidep hms
   have HZx := hidep hZ
   have HB := hidep hb
   have hxl := hZ.len
   have hz := hb.size
   simp only [World.size_alloc] at hz
   have hkb : (k : Int) <= 20000000000000 := by have := HMs.out; have := HMx.out; omega
   clear hx hon hM hms
   have hn2 := hidep (zo_news hZ)
   have hg1 := World.ownsRow.lt hZ g1 rfl
   clear hZ hb
   obtain ⟨wo, rfl⟩ : ∃ x, x = wr := ⟨_, rfl⟩
   have HE1 : Hid ((x.map (Value.int .i64)).length = n * 1) := by show _ = _; rw [List.length_map, hxl, Nat.mul_one]
   have HE3 := hidep (map_one x)
   go_wp2_with (at_builtin; refine wpList_append_own _ rfl _ _ 43 rfl wo.heap.size 3 i0 (.int .i64 0) 1 8 ((Seq.pu 43).trans Tryz.underlying43) hi hz0 hz1 hz2 rfl (by decide) _ 0 [] rfl (World.ownsRow_nil _ _ _ _) ⟨g1, 0, none⟩ n c1 (x.map (Value.int .i64)) rfl HE1.out hn2.out HE3.out (by unfold maxLen; omega) (by omega) (Nat.le_refl _) ?_)
   intro v2 w2 hown2 hgrow2 _
   obtain ⟨g2, c2, rfl, hZ2⟩ := zo_made hown2 h0'
   have hg2 := (World.ownsRow.lt hZ2 g2 rfl).1
   have HZ2 := hidep hZ2
   have HB2 : Hid (Below wo.heap.size wo w2) := (Below.refl _ _).grown hgrow2 (Nat.le_refl _) (fun k hk => by cases hk)
   clear hown2 hgrow2 hZ2 hn2 HE1 HE3
   go_wp2
   go_loopw [13, 14] (fun vi _ wr => ∃ (i : Nat) (z : List Int), i <= arcs.length /\ vi = .int .i64 i /\ z = (arcs.take i).foldl (rel1 p false x) x /\ Zo wr wo.heap.size g2 n c2 z /\ Below wo.heap.size wo wr) (fun vi _ _ => arcs.length - (intOf vi).toNat)
   case atStart => exact ⟨0, x, Nat.zero_le _, rfl, by rw [List.take_zero]; rfl, HZ2.out, HB2.out⟩
   case round =>
     obtain ⟨i, z, hi', rfl, hz', hZ, hb⟩ := hrel
     have HZz := hidep hz'
     have HZZ := hidep hZ
     have HBB := hidep hb
     have hzr := hb.size
     have q1 : wr.cell? ⟨w.heap.size, 1, none⟩ = some (.slice bo arcs.length cb) := by
       rw [hb.cell (p := ⟨w.heap.size, 1, none⟩) (by show w.heap.size < _; omega), HB.out.cell (p := ⟨w.heap.size, 1, none⟩) (by simp)]; simp
     have hlw : w.heap.size < wr.heap.size := by omega
     have HBW : Hid (Below w.heap.size w wr) := (((pal w _).trans (HB.out.mono (by omega)))).trans (hb.mono (by omega))
     clear hz'
     by_cases hlt : i < arcs.length
     · rcases hR.below HBW.out with h0 | ⟨b, off, rfl, hbr, hc⟩
       · subst h0; simp at hlt
       obtain ⟨e0, e1, e2⟩ := PcAt.at3 hlt hc
       obtain ⟨A, B, hA, hB, eA, eB⟩ := arc_parts HEn.out hlt
       rw [<- HN.out] at hA hB
       have hm : arcs[i] ∈ arcs := List.getElem_mem hlt
       have HCL : Hid (∀ W, Below wo.heap.size wo W -> Calls Seq.prog g (#[.agg #[.int .i64 (A : Int), .int .i64 (B : Int), .int .i64 arcs[i].2.2]] ++ caps) W fun e w' => e = .returned (.int .i64 (p arcs[i])) /\ Below W.heap.size W w') := by
         intro W hW
         have := HF.out _ hm W (((pal w _).trans (HB.out.mono (by omega))).trans (hW.mono (by omega)))
         rw [eA, eB] at this
         exact this
       have hp := HPl.out _ hm
       have b1 := HM.out.lo HFine.out A (by rw [<- HN.out]; omega)
       have b2 := HM.out.hi HFine.out A (by rw [<- HN.out]; omega)
       have b3 := HM.out.lo HFine.out B (by rw [<- HN.out]; omega)
       have b4 := HM.out.hi HFine.out B (by rw [<- HN.out]; omega)
       have HFT : Hid ((arcs.take (i + 1)).foldl (rel1 p false x) x = rel1 p false x z arcs[i]) := by show _ = _; rw [fold_take _ _ _ _ _ hlt, HZz.out]
       rw [rel1_parts p false x z arcs[i] eA eB] at HFT
       have zA := hZ.cell hA
       have zB := hZ.cell hB
       have xA : wr.cell? ⟨g1, A, none⟩ = some (.int .i64 (x.getD A 0)) := by rw [hb.cell (p := ⟨g1, A, none⟩) hg1.2]; exact HZx.out.cell hA
       have xB : wr.cell? ⟨g1, B, none⟩ = some (.int .i64 (x.getD B 0)) := by rw [hb.cell (p := ⟨g1, B, none⟩) hg1.2]; exact HZx.out.cell hB
       have hgl := World.ownsRow.lt hZ g2 rfl
       have HG : Hid (g1 < wr.heap.size) := by show _ < _; omega
       rw [eA] at e0
       rw [eB] at e1
       clear hc eA eB hm hR
       generalize p arcs[i] = pa at *
       generalize arcs[i].2.2 = ac at *
       generalize x.getD A 0 = tA at *
       generalize x.getD B 0 = tB at *
       generalize hsB : z.getD B 0 = sB at *
       clear hsB
       have hiA : (A : Int) < (n : Int) := by omega
       have hiB : (B : Int) < (n : Int) := by omega
       have hw1 : IntKind.i64.wrap (tA + pa) = tA + pa := wrap_small _ (by omega) (by omega)
       have hw2 : IntKind.i64.wrap (tB + pa) = tB + pa := wrap_small _ (by omega) (by omega)
       have hne2 : Nonempty (HeldIn (wr.alloc (.cells #[.int .i64 (A : Int), .int .i64 (B : Int), .int .i64 ac] 72))) := ⟨⟨_, Below.refl _ _⟩⟩
       have f0 : ∀ s : HeldIn (wr.alloc (.cells #[.int .i64 (A : Int), .int .i64 (B : Int), .int .i64 ac] 72)), s.w.cell? ⟨wr.heap.size, 0, none⟩ = some (.int .i64 A) := fun s => by rw [s.h.cell (p := ⟨wr.heap.size, 0, none⟩) (by simp)]; simp
       have f1 : ∀ s : HeldIn (wr.alloc (.cells #[.int .i64 (A : Int), .int .i64 (B : Int), .int .i64 ac] 72)), s.w.cell? ⟨wr.heap.size, 1, none⟩ = some (.int .i64 B) := fun s => by rw [s.h.cell (p := ⟨wr.heap.size, 1, none⟩) (by simp)]; simp
       have f2 : ∀ s : HeldIn (wr.alloc (.cells #[.int .i64 (A : Int), .int .i64 (B : Int), .int .i64 ac] 72)), s.w.cell? ⟨wr.heap.size, 2, none⟩ = some (.int .i64 ac) := fun s => by rw [s.h.cell (p := ⟨wr.heap.size, 2, none⟩) (by simp)]; simp
       have f3 : ∀ s : HeldIn (wr.alloc (.cells #[.int .i64 (A : Int), .int .i64 (B : Int), .int .i64 ac] 72)), s.w.cell? ⟨g1, A, none⟩ = some (.int .i64 tA) := fun s => by rw [s.h.cell (p := ⟨g1, A, none⟩) (by simp; have := HG.out; omega), (pal wr _).cell (p := ⟨g1, A, none⟩) HG.out]; exact xA
       have f4 : ∀ s : HeldIn (wr.alloc (.cells #[.int .i64 (A : Int), .int .i64 (B : Int), .int .i64 ac] 72)), s.w.cell? ⟨g2, B, none⟩ = some (.int .i64 sB) := fun s => by rw [s.h.cell (p := ⟨g2, B, none⟩) (by simp; omega), (pal wr _).cell (p := ⟨g2, B, none⟩) hgl.2]; exact zB
       have HQ : Hid (∀ w1, Below (wr.alloc (.cells #[.int .i64 (A : Int), .int .i64 (B : Int), .int .i64 ac] 72)).heap.size (wr.alloc (.cells #[.int .i64 (A : Int), .int .i64 (B : Int), .int .i64 ac] 72)) w1 -> Below wr.heap.size wr w1 /\ Zo w1 wo.heap.size g2 n c2 z /\ wr.heap.size < w1.heap.size) := by
         intro w1 h1
         have h2 := ptw (pal wr _) h1
         have hz := h1.size
         simp only [World.size_alloc] at hz
         exact ⟨h2, HZZ.out.below h2, by omega⟩
       have hcl : ∀ s : HeldIn (wr.alloc (.cells #[.int .i64 (A : Int), .int .i64 (B : Int), .int .i64 ac] 72)), Calls Seq.prog g (#[.agg #[.int .i64 (A : Int), .int .i64 (B : Int), .int .i64 ac]] ++ caps) s.w fun e w' => e = .returned (.int .i64 pa) /\ Below s.w.heap.size s.w w' := fun s => HCL.out _ (ptw HBB.out (ptw (pal wr _) s.h))
       clear hZ hb
       go_wp2_with fail
       refine wp_region_held_back _ (Below.refl _ _) (by kernel_rfl) (by simp) (by kernel_rfl) (by kernel_rfl) (by kernel_rfl) ?_
       simp only [List.pop_toArray, List.dropLast, List.back!_toArray, List.getLast!]
       repeat (go_big_quiet_step ((go_at_fn g; exact held_of (hcl _))))
       refine wpQuiet_nil ?_
       rintro _ ⟨s, rfl⟩
       refine back_last (fun K hK => ?_)
       have k0 := f0 s
       have k1 := f1 s
       have k2 := f2 s
       have k4 := f4 s
       obtain ⟨hb4, hZ4, hl4⟩ := HQ.out _ s.h
       have fz := World.ownsRow.frozenAt hZ4 B
       have hgl4 := (World.ownsRow.lt hZ4 g2 rfl).2
       clear f0 f1 f2 f3 f4 hne2 HQ hcl
       generalize s.w = w4 at *
       clear s
       go_simp
       refine hK.out _ _ ?_
       clear hK K
       have hmin := min_if sB (tA + pa)
       rw [<- hmin] at HFT
       generalize (if tA + pa < sB then tA + pa else sB) = m1 at HFT ⊢
       clear hmin
       have G5 := gby_set w4 g2 B (.int .i64 m1)
       have hne5 : some wr.heap.size ≠ some g2 := fun e => by have := Option.some.inj e; omega
       have j0 := (G5.cell_far ⟨wr.heap.size, 0, none⟩ hl4 hne5).trans k0
       have j1 := (G5.cell_far ⟨wr.heap.size, 1, none⟩ hl4 hne5).trans k1
       have j2 := (G5.cell_far ⟨wr.heap.size, 2, none⟩ hl4 hne5).trans k2
       have jB : (w4.setCell ⟨g2, B, none⟩ (.int .i64 m1)).cell? ⟨g1, B, none⟩ = some (.int .i64 tB) := by
         rw [G5.cell_far ⟨g1, B, none⟩ (Nat.lt_of_lt_of_le HG.out hb4.size) (show some g1 ≠ some g2 from fun e => by have := Option.some.inj e; omega), hb4.cell (p := ⟨g1, B, none⟩) HG.out]; exact xB
       have hZ5 := hZ4.set B m1
       have jA := hZ5.cell hA
       have hl5 : wr.heap.size < (w4.setCell ⟨g2, B, none⟩ (.int .i64 m1)).heap.size := Nat.lt_of_lt_of_le hl4 G5.size
       have HB5 : Hid (Below wo.heap.size wo (w4.setCell ⟨g2, B, none⟩ (.int .i64 m1))) := (ptw HBB.out hb4).setCell hg2 _
       have HW5 : Hid (∀ W, Below (w4.setCell ⟨g2, B, none⟩ (.int .i64 m1)).heap.size (w4.setCell ⟨g2, B, none⟩ (.int .i64 m1)) W -> Calls Seq.prog g (#[.agg #[.int .i64 (A : Int), .int .i64 (B : Int), .int .i64 ac]] ++ caps) W fun e w' => e = .returned (.int .i64 pa) /\ Below W.heap.size W w') := by
         intro W hW
         exact HCL.out W ((ptw HB5.out hW))
       clear k0 k1 k2 k4 fz hgl4 hZ4 hb4 hl4 HCL xA xB zA zB
       generalize w4.setCell ⟨g2, B, none⟩ (.int .i64 m1) = w5 at *
       simp only [Bool.false_eq_true, if_false] at HFT
       clear jA j0 j1 j2 jB HW5
       have HZ5 := hidep hZ5
       clear hZ5
       go_wp2
       go_roundw
       case rel => exact ⟨i + 1, _, by omega, by go_num, HFT.out.symm, HZ5.out, HB5.out⟩
       case measure => simp [intOf]; omega
     · have hil : i = arcs.length := by omega
       have HRz : Hid (z = rnd arcs p false x) := by show _ = _; rw [HZz.out, hil, List.take_length]; rfl
       have hEq := EqualI_any (some ⟨g2, 0, none⟩) (some ⟨g1, 0, none⟩) c2 c1 z x wr (zsAt_of_zo hZ) (zsAt_of_zo (HZx.out.below hb)) (by rw [hZ.len]; omega)
       rw [hZ.len, hxl] at hEq
       have HMz : Hid (Mid first (ways false arcs) p z) := by
         show Mid _ _ _ _
         rw [HRz.out]; exact HRR.out _ HM.out
       by_cases hfix : z = x
       · have HI : Hid (RoundsIs arcs p false first x k) := ⟨HX.out, by rw [<- HRz.out]; exact hfix, HOn.out⟩
         have hd : decide (z = x) = true := by simpa using hfix
         rw [hd] at hEq
         clear hfix hd hZ hb
         go_wp2_with fail
         refine hEq.mono ?_
         rintro e w6 ⟨rfl, hb6⟩
         have HZ6 : Hid (Zo w6 w.heap.size g1 n c1 x) := owns_base2 ((HZx.out.below HBB.out).below hb6) (by omega)
         have HB6 := hidep (ptw HBW.out hb6)
         clear hb6 hEq
         go_wp2
         go_ret2
         exact ⟨_, _, x, _, rfl, HI.out, HZ6.out, HB6.out⟩
       · have HLs : Hid (msum z < msum x) := by
           have := HRL.out _ HM.out (fun h => hfix (HRz.out.trans h))
           rw [<- HRz.out] at this; exact this
         have HO2 : Hid (∀ j, j < k + 1 -> ¬ rnd arcs p false (rnds arcs p false j first) = rnds arcs p false j first) := by
           intro j hj h
           by_cases e : j = k
           · subst e
             rw [<- HX.out, <- HRz.out] at h
             exact hfix h
           · exact HOn.out j (by omega) h
         have HX2 : Hid (z = rnds arcs p false (k + 1) first) := by show _ = _; rw [HRz.out, HX.out]; rfl
         have hd : decide (z = x) = false := by simpa using hfix
         rw [hd] at hEq
         clear hfix hd hZ hb
         go_wp2_with fail
         refine hEq.mono ?_
         rintro e w6 ⟨rfl, hb6⟩
         have HZ6 : Hid (Zo w6 (w.heap.size + 1) g2 n c2 z) := owns_base2 (HZZ.out.below hb6) (by omega)
         have HB6 : Hid (Below (w.heap.size + 1) (w.alloc (.cells #[.slice ao na ca, .slice bo arcs.length cb] 49)) w6) := HB.out.trans ((ptw HBB.out hb6).mono (by omega))
         clear hb6 hEq
         go_wp2
         go_roundw
         case rel => exact ⟨k + 1, g2, c2, z, rfl, by go_num, HX2.out, HO2.out, HMz.out, by have := HLs.out; have := HMx.out; omega, HZ6.out, HB6.out⟩
         case measure =>
           show msum (rdL w6 g2 n) < msum (rdL wo g1 n)
           rw [Zo.rd HZ6.out, Zo.rd HZx.out]
           exact HLs.out
set_option maxRecDepth 100000 in
set_option maxHeartbeats 8000000 in
theorem Rounds_true (g : Nat) (caps : Array Value) (p : Ac -> Int) (eg : ∀ args w, (callFunc g args).run Seq.prog w = .ok (.enter g args) w) (ao bo : Option Addr) (ca cb fb fc na : Nat) (first : List Int) (arcs : List Ac) (base0 : Nat) (w : World)
   (hFi : Zo w base0 fb first.length fc first) (hR : PcAt w bo arcs) (F : Fine first (ways true arcs) p) (he : true = true -> Even p) (h0 : 0 < first.length) (h12 : first.length <= 12) (h30 : arcs.length <= 30)
   (hf : ∀ a ∈ arcs, ∀ wq, Below w.heap.size w wq -> Calls Seq.prog g (#[.agg #[.int .i64 a.1, .int .i64 a.2.1, .int .i64 a.2.2]] ++ caps) wq fun e w' => e = .returned (.int .i64 (p a)) /\ Below wq.heap.size wq w') :
   Calls Seq.prog 25 #[.agg #[.slice ao na ca, .slice bo arcs.length cb], .slice (some ⟨fb, 0, none⟩) first.length fc, .func (.func g) #[] caps, .bool true] w fun e w' => ∃ gb c x k, e = .returned (.tuple #[.slice (some ⟨gb, 0, none⟩) first.length c, .int .i64 (k : Nat)]) /\ RoundsIs arcs p true first x k /\ Zo w' w.heap.size gb first.length c x /\ Below w.heap.size w w' := by
 obtain ⟨i0, hi, hz0, hz1, hz2⟩ := info_parts Tryz.infoInt
 have HF := hidep hf
 have HFine := hidep F
 have HRR : Hid (∀ x, Mid first (ways true arcs) p x -> Mid first (ways true arcs) p (rnd arcs p true x)) := fun x hx => (rn_round F he hx).mid
 have HRL : Hid (∀ x, Mid first (ways true arcs) p x -> ¬ rnd arcs p true x = x -> msum (rnd arcs p true x) < msum x) := fun x hx h => rnd_less F he hx h
 have HEn : Hid (EndsIn first.length arcs) := fun a ha => F.en a (mem_ways ha).1
 have HPl : Hid (∀ a ∈ arcs, 0 <= p a /\ p a <= 1000) := fun a ha => F.pl a (mem_ways ha).1
 have HMs : Hid (msum first <= 20000000000000) := by
   have := msum_bound first (fun z hz => by obtain ⟨i, hi, rfl⟩ := List.getElem_of_mem hz; have := F.hi i hi; rw [List.getD_eq_getElem?_getD, List.getElem?_eq_getElem hi] at this; exact this)
   show _ <= _
   omega
 have hnews := hidep (zo_news hFi)
 have HFl := hidep (World.ownsRow.lt hFi fb rfl).2
 clear hf F he hFi
 obtain ⟨n, hn⟩ : ∃ n, n = first.length := ⟨_, rfl⟩
 rw [<- hn]
 have HN := hidep hn
 have h0' : 0 < n := by omega
 have h12' : n <= 12 := by omega
 clear hn h0 h12
 have HD1 : Hid ((first.map (Value.int .i64)).length = n * 1) := by show _ = _; rw [List.length_map, <- HN.out, Nat.mul_one]
 have HD2 : Hid (∀ o j u, (first.map (Value.int .i64))[j]? = some u -> (w.alloc o).cell? ((⟨fb, 0, none⟩ : Addr).add j) = some u) := by
   intro o j u hu
   have h := hnews.out j u hu
   rw [Go.WideShapes.add_plain] at h ⊢
   rw [(pal w _).cell (p := ⟨fb, 0 + j, none⟩) HFl.out]
   exact h
 have HD3 := hidep (map_one first)
 have HD6 : Hid (∀ o, w.heap.size + 1 <= (w.alloc o).heap.size) := fun o => by simp
 go_enter Seq.func25, Tryz.ntmps25
 go_wp2_with (at_builtin; refine wpList_append_own _ rfl _ _ 43 rfl (w.heap.size + 1) 3 i0 (.int .i64 0) 1 8 ((Seq.pu 43).trans Tryz.underlying43) hi hz0 hz1 hz2 rfl (by decide) _ 0 [] rfl (World.ownsRow_nil _ _ _ _) ⟨fb, 0, none⟩ n fc (first.map (Value.int .i64)) rfl HD1.out (HD2.out _) HD3.out (by unfold maxLen; omega) (by omega) (HD6.out _) ?_)
 intro v1 w1 hown1 hgrow1 _
 obtain ⟨g1, c1, rfl, hZ1⟩ := zo_made hown1 h0'
 have hb1 : Below (w.heap.size + 1) (w.alloc (.cells #[.slice ao na ca, .slice bo arcs.length cb] 49)) w1 := (Below.refl _ _).grown hgrow1 (by simp) (fun k hk => by cases hk)
 have HZ1 := hidep hZ1
 have HB1 := hidep hb1
 clear hown1 hgrow1 hZ1 hb1 hnews HD1 HD2 HD3 HD6
 go_wp2
 go_loopw [10, 11, 12, 13, 14] (fun vn vk _ _ _ wr => ∃ (k g1 c1 : Nat) (x : List Int), vn = .slice (some ⟨g1, 0, none⟩) n c1 /\ vk = .int .i64 k /\ x = rnds arcs p true k first /\ (∀ j, j < k -> ¬ rnd arcs p true (rnds arcs p true j first) = rnds arcs p true j first) /\ Mid first (ways true arcs) p x /\ k + msum x <= msum first /\ Zo wr (w.heap.size + 1) g1 n c1 x /\ Below (w.heap.size + 1) (w.alloc (.cells #[.slice ao na ca, .slice bo arcs.length cb] 49)) wr) (fun vn _ _ _ _ wr => msum (rdL wr (blkOf vn) n))
 case atStart => exact ⟨0, g1, c1, first, rfl, rfl, rfl, (fun j h => by omega), mid_start _ _ _, by omega, HZ1.out, HB1.out⟩
 case round =>
   obtain ⟨k, g1, c1, x, rfl, rfl, hx, hon, hM, hms, hZ, hb⟩ := hrel
   have HX := hidep hx
   have HOn := hidep hon
   have HM := hidep hM
   have HMx := hidep hms
   have HZx := hidep hZ
   have HB := hidep hb
   have hxl := hZ.len
   have hz := hb.size
   simp only [World.size_alloc] at hz
   have hkb : (k : Int) <= 20000000000000 := by have := HMs.out; have := HMx.out; omega
   clear hx hon hM hms
   have hn2 := hidep (zo_news hZ)
   have hg1 := World.ownsRow.lt hZ g1 rfl
   clear hZ hb
   obtain ⟨wo, rfl⟩ : ∃ x, x = wr := ⟨_, rfl⟩
   have HE1 : Hid ((x.map (Value.int .i64)).length = n * 1) := by show _ = _; rw [List.length_map, hxl, Nat.mul_one]
   have HE3 := hidep (map_one x)
   go_wp2_with (at_builtin; refine wpList_append_own _ rfl _ _ 43 rfl wo.heap.size 3 i0 (.int .i64 0) 1 8 ((Seq.pu 43).trans Tryz.underlying43) hi hz0 hz1 hz2 rfl (by decide) _ 0 [] rfl (World.ownsRow_nil _ _ _ _) ⟨g1, 0, none⟩ n c1 (x.map (Value.int .i64)) rfl HE1.out hn2.out HE3.out (by unfold maxLen; omega) (by omega) (Nat.le_refl _) ?_)
   intro v2 w2 hown2 hgrow2 _
   obtain ⟨g2, c2, rfl, hZ2⟩ := zo_made hown2 h0'
   have hg2 := (World.ownsRow.lt hZ2 g2 rfl).1
   have HZ2 := hidep hZ2
   have HB2 : Hid (Below wo.heap.size wo w2) := (Below.refl _ _).grown hgrow2 (Nat.le_refl _) (fun k hk => by cases hk)
   clear hown2 hgrow2 hZ2 hn2 HE1 HE3
   go_wp2
   go_loopw [13, 14] (fun vi _ wr => ∃ (i : Nat) (z : List Int), i <= arcs.length /\ vi = .int .i64 i /\ z = (arcs.take i).foldl (rel1 p true x) x /\ Zo wr wo.heap.size g2 n c2 z /\ Below wo.heap.size wo wr) (fun vi _ _ => arcs.length - (intOf vi).toNat)
   case atStart => exact ⟨0, x, Nat.zero_le _, rfl, by rw [List.take_zero]; rfl, HZ2.out, HB2.out⟩
   case round =>
     obtain ⟨i, z, hi', rfl, hz', hZ, hb⟩ := hrel
     have HZz := hidep hz'
     have HZZ := hidep hZ
     have HBB := hidep hb
     have hzr := hb.size
     have q1 : wr.cell? ⟨w.heap.size, 1, none⟩ = some (.slice bo arcs.length cb) := by
       rw [hb.cell (p := ⟨w.heap.size, 1, none⟩) (by show w.heap.size < _; omega), HB.out.cell (p := ⟨w.heap.size, 1, none⟩) (by simp)]; simp
     have hlw : w.heap.size < wr.heap.size := by omega
     have HBW : Hid (Below w.heap.size w wr) := (((pal w _).trans (HB.out.mono (by omega)))).trans (hb.mono (by omega))
     clear hz'
     by_cases hlt : i < arcs.length
     · rcases hR.below HBW.out with h0 | ⟨b, off, rfl, hbr, hc⟩
       · subst h0; simp at hlt
       obtain ⟨e0, e1, e2⟩ := PcAt.at3 hlt hc
       obtain ⟨A, B, hA, hB, eA, eB⟩ := arc_parts HEn.out hlt
       rw [<- HN.out] at hA hB
       have hm : arcs[i] ∈ arcs := List.getElem_mem hlt
       have HCL : Hid (∀ W, Below wo.heap.size wo W -> Calls Seq.prog g (#[.agg #[.int .i64 (A : Int), .int .i64 (B : Int), .int .i64 arcs[i].2.2]] ++ caps) W fun e w' => e = .returned (.int .i64 (p arcs[i])) /\ Below W.heap.size W w') := by
         intro W hW
         have := HF.out _ hm W (((pal w _).trans (HB.out.mono (by omega))).trans (hW.mono (by omega)))
         rw [eA, eB] at this
         exact this
       have hp := HPl.out _ hm
       have b1 := HM.out.lo HFine.out A (by rw [<- HN.out]; omega)
       have b2 := HM.out.hi HFine.out A (by rw [<- HN.out]; omega)
       have b3 := HM.out.lo HFine.out B (by rw [<- HN.out]; omega)
       have b4 := HM.out.hi HFine.out B (by rw [<- HN.out]; omega)
       have HFT : Hid ((arcs.take (i + 1)).foldl (rel1 p true x) x = rel1 p true x z arcs[i]) := by show _ = _; rw [fold_take _ _ _ _ _ hlt, HZz.out]
       rw [rel1_parts p true x z arcs[i] eA eB] at HFT
       have zA := hZ.cell hA
       have zB := hZ.cell hB
       have xA : wr.cell? ⟨g1, A, none⟩ = some (.int .i64 (x.getD A 0)) := by rw [hb.cell (p := ⟨g1, A, none⟩) hg1.2]; exact HZx.out.cell hA
       have xB : wr.cell? ⟨g1, B, none⟩ = some (.int .i64 (x.getD B 0)) := by rw [hb.cell (p := ⟨g1, B, none⟩) hg1.2]; exact HZx.out.cell hB
       have hgl := World.ownsRow.lt hZ g2 rfl
       have HG : Hid (g1 < wr.heap.size) := by show _ < _; omega
       rw [eA] at e0
       rw [eB] at e1
       clear hc eA eB hm hR
       generalize p arcs[i] = pa at *
       generalize arcs[i].2.2 = ac at *
       generalize x.getD A 0 = tA at *
       generalize x.getD B 0 = tB at *
       generalize hsB : z.getD B 0 = sB at *
       clear hsB
       have hiA : (A : Int) < (n : Int) := by omega
       have hiB : (B : Int) < (n : Int) := by omega
       have hw1 : IntKind.i64.wrap (tA + pa) = tA + pa := wrap_small _ (by omega) (by omega)
       have hw2 : IntKind.i64.wrap (tB + pa) = tB + pa := wrap_small _ (by omega) (by omega)
       have hne2 : Nonempty (HeldIn (wr.alloc (.cells #[.int .i64 (A : Int), .int .i64 (B : Int), .int .i64 ac] 72))) := ⟨⟨_, Below.refl _ _⟩⟩
       have f0 : ∀ s : HeldIn (wr.alloc (.cells #[.int .i64 (A : Int), .int .i64 (B : Int), .int .i64 ac] 72)), s.w.cell? ⟨wr.heap.size, 0, none⟩ = some (.int .i64 A) := fun s => by rw [s.h.cell (p := ⟨wr.heap.size, 0, none⟩) (by simp)]; simp
       have f1 : ∀ s : HeldIn (wr.alloc (.cells #[.int .i64 (A : Int), .int .i64 (B : Int), .int .i64 ac] 72)), s.w.cell? ⟨wr.heap.size, 1, none⟩ = some (.int .i64 B) := fun s => by rw [s.h.cell (p := ⟨wr.heap.size, 1, none⟩) (by simp)]; simp
       have f2 : ∀ s : HeldIn (wr.alloc (.cells #[.int .i64 (A : Int), .int .i64 (B : Int), .int .i64 ac] 72)), s.w.cell? ⟨wr.heap.size, 2, none⟩ = some (.int .i64 ac) := fun s => by rw [s.h.cell (p := ⟨wr.heap.size, 2, none⟩) (by simp)]; simp
       have f3 : ∀ s : HeldIn (wr.alloc (.cells #[.int .i64 (A : Int), .int .i64 (B : Int), .int .i64 ac] 72)), s.w.cell? ⟨g1, A, none⟩ = some (.int .i64 tA) := fun s => by rw [s.h.cell (p := ⟨g1, A, none⟩) (by simp; have := HG.out; omega), (pal wr _).cell (p := ⟨g1, A, none⟩) HG.out]; exact xA
       have f4 : ∀ s : HeldIn (wr.alloc (.cells #[.int .i64 (A : Int), .int .i64 (B : Int), .int .i64 ac] 72)), s.w.cell? ⟨g2, B, none⟩ = some (.int .i64 sB) := fun s => by rw [s.h.cell (p := ⟨g2, B, none⟩) (by simp; omega), (pal wr _).cell (p := ⟨g2, B, none⟩) hgl.2]; exact zB
       have HQ : Hid (∀ w1, Below (wr.alloc (.cells #[.int .i64 (A : Int), .int .i64 (B : Int), .int .i64 ac] 72)).heap.size (wr.alloc (.cells #[.int .i64 (A : Int), .int .i64 (B : Int), .int .i64 ac] 72)) w1 -> Below wr.heap.size wr w1 /\ Zo w1 wo.heap.size g2 n c2 z /\ wr.heap.size < w1.heap.size) := by
         intro w1 h1
         have h2 := ptw (pal wr _) h1
         have hz := h1.size
         simp only [World.size_alloc] at hz
         exact ⟨h2, HZZ.out.below h2, by omega⟩
       have hcl : ∀ s : HeldIn (wr.alloc (.cells #[.int .i64 (A : Int), .int .i64 (B : Int), .int .i64 ac] 72)), Calls Seq.prog g (#[.agg #[.int .i64 (A : Int), .int .i64 (B : Int), .int .i64 ac]] ++ caps) s.w fun e w' => e = .returned (.int .i64 pa) /\ Below s.w.heap.size s.w w' := fun s => HCL.out _ (ptw HBB.out (ptw (pal wr _) s.h))
       clear hZ hb
       go_wp2_with fail
       refine wp_region_held_back _ (Below.refl _ _) (by kernel_rfl) (by simp) (by kernel_rfl) (by kernel_rfl) (by kernel_rfl) ?_
       simp only [List.pop_toArray, List.dropLast, List.back!_toArray, List.getLast!]
       repeat (go_big_quiet_step ((go_at_fn g; exact held_of (hcl _))))
       refine wpQuiet_nil ?_
       rintro _ ⟨s, rfl⟩
       refine back_last (fun K hK => ?_)
       have k0 := f0 s
       have k1 := f1 s
       have k2 := f2 s
       have k4 := f4 s
       obtain ⟨hb4, hZ4, hl4⟩ := HQ.out _ s.h
       have fz := World.ownsRow.frozenAt hZ4 B
       have hgl4 := (World.ownsRow.lt hZ4 g2 rfl).2
       clear f0 f1 f2 f3 f4 hne2 HQ hcl
       generalize s.w = w4 at *
       clear s
       go_simp
       refine hK.out _ _ ?_
       clear hK K
       have hmin := min_if sB (tA + pa)
       rw [<- hmin] at HFT
       generalize (if tA + pa < sB then tA + pa else sB) = m1 at HFT ⊢
       clear hmin
       have G5 := gby_set w4 g2 B (.int .i64 m1)
       have hne5 : some wr.heap.size ≠ some g2 := fun e => by have := Option.some.inj e; omega
       have j0 := (G5.cell_far ⟨wr.heap.size, 0, none⟩ hl4 hne5).trans k0
       have j1 := (G5.cell_far ⟨wr.heap.size, 1, none⟩ hl4 hne5).trans k1
       have j2 := (G5.cell_far ⟨wr.heap.size, 2, none⟩ hl4 hne5).trans k2
       have jB : (w4.setCell ⟨g2, B, none⟩ (.int .i64 m1)).cell? ⟨g1, B, none⟩ = some (.int .i64 tB) := by
         rw [G5.cell_far ⟨g1, B, none⟩ (Nat.lt_of_lt_of_le HG.out hb4.size) (show some g1 ≠ some g2 from fun e => by have := Option.some.inj e; omega), hb4.cell (p := ⟨g1, B, none⟩) HG.out]; exact xB
       have hZ5 := hZ4.set B m1
       have jA := hZ5.cell hA
       have hl5 : wr.heap.size < (w4.setCell ⟨g2, B, none⟩ (.int .i64 m1)).heap.size := Nat.lt_of_lt_of_le hl4 G5.size
       have HB5 : Hid (Below wo.heap.size wo (w4.setCell ⟨g2, B, none⟩ (.int .i64 m1))) := (ptw HBB.out hb4).setCell hg2 _
       have HW5 : Hid (∀ W, Below (w4.setCell ⟨g2, B, none⟩ (.int .i64 m1)).heap.size (w4.setCell ⟨g2, B, none⟩ (.int .i64 m1)) W -> Calls Seq.prog g (#[.agg #[.int .i64 (A : Int), .int .i64 (B : Int), .int .i64 ac]] ++ caps) W fun e w' => e = .returned (.int .i64 pa) /\ Below W.heap.size W w') := by
         intro W hW
         exact HCL.out W ((ptw HB5.out hW))
       clear k0 k1 k2 k4 fz hgl4 hZ4 hb4 hl4 HCL xA xB zA zB
       generalize w4.setCell ⟨g2, B, none⟩ (.int .i64 m1) = w5 at *
       simp only [if_true] at HFT
       generalize hsA : (z.set B m1).getD A 0 = sA at HFT jA
       clear hsA
       have hg5 := (World.ownsRow.lt hZ5 g2 rfl).2
       have hg15 : g1 < w5.heap.size := by have := HG.out; omega
       have hne3 : Nonempty (HeldIn w5) := ⟨⟨_, Below.refl _ _⟩⟩
       have f0 : ∀ s : HeldIn w5, s.w.cell? ⟨wr.heap.size, 0, none⟩ = some (.int .i64 A) := fun s => (s.h.cell (p := ⟨wr.heap.size, 0, none⟩) hl5).trans j0
       have f1 : ∀ s : HeldIn w5, s.w.cell? ⟨wr.heap.size, 1, none⟩ = some (.int .i64 B) := fun s => (s.h.cell (p := ⟨wr.heap.size, 1, none⟩) hl5).trans j1
       have f2 : ∀ s : HeldIn w5, s.w.cell? ⟨wr.heap.size, 2, none⟩ = some (.int .i64 ac) := fun s => (s.h.cell (p := ⟨wr.heap.size, 2, none⟩) hl5).trans j2
       have f3 : ∀ s : HeldIn w5, s.w.cell? ⟨g1, B, none⟩ = some (.int .i64 tB) := fun s => (s.h.cell (p := ⟨g1, B, none⟩) hg15).trans jB
       have f4 : ∀ s : HeldIn w5, s.w.cell? ⟨g2, A, none⟩ = some (.int .i64 sA) := fun s => (s.h.cell (p := ⟨g2, A, none⟩) hg5).trans jA
       have HQ5 : Hid (∀ w6, Below w5.heap.size w5 w6 -> Zo w6 wo.heap.size g2 n c2 (z.set B m1) /\ w5.heap.size <= w6.heap.size /\ Below wo.heap.size wo w6) := fun w6 h6 => ⟨hZ5.below h6, h6.size, ptw HB5.out h6⟩
       have hcl : ∀ s : HeldIn w5, Calls Seq.prog g (#[.agg #[.int .i64 (A : Int), .int .i64 (B : Int), .int .i64 ac]] ++ caps) s.w fun e w' => e = .returned (.int .i64 pa) /\ Below s.w.heap.size s.w w' := fun s => HW5.out _ s.h
       clear hZ5 jA j0 j1 j2 jB HW5
       go_wp2_with fail
       refine wp_region_held_back _ (Below.refl _ _) (by kernel_rfl) (by simp) (by kernel_rfl) (by kernel_rfl) (by kernel_rfl) ?_
       simp only [List.pop_toArray, List.dropLast, List.back!_toArray, List.getLast!]
       repeat (go_big_quiet_step ((go_at_fn g; exact held_of (hcl _))))
       refine wpQuiet_nil ?_
       rintro _ ⟨s, rfl⟩
       refine back_last (fun K hK => ?_)
       have k4 := f4 s
       obtain ⟨hZ6, hl6, hb6⟩ := HQ5.out _ s.h
       have fz := World.ownsRow.frozenAt hZ6 A
       have hgl6 := (World.ownsRow.lt hZ6 g2 rfl).2
       clear f0 f1 f2 f3 f4 hne3 HQ5 hcl
       generalize s.w = w6 at *
       clear s
       go_simp
       refine hK.out _ _ ?_
       clear hK K
       have hmin := min_if sA (tB + pa)
       rw [<- hmin] at HFT
       generalize (if tB + pa < sA then tB + pa else sA) = m2 at HFT ⊢
       clear hmin
       have HZ7 := hidep (hZ6.set A m2)
       have HB7 : Hid (Below wo.heap.size wo (w6.setCell ⟨g2, A, none⟩ (.int .i64 m2))) := hb6.setCell hg2 _
       clear k4 fz hgl6 hZ6 hb6 hl6
       generalize w6.setCell ⟨g2, A, none⟩ (.int .i64 m2) = w7 at *
       go_wp2
       go_roundw
       case rel => exact ⟨i + 1, _, by omega, by go_num, HFT.out.symm, HZ7.out, HB7.out⟩
       case measure => simp [intOf]; omega
     · have hil : i = arcs.length := by omega
       have HRz : Hid (z = rnd arcs p true x) := by show _ = _; rw [HZz.out, hil, List.take_length]; rfl
       have hEq := EqualI_any (some ⟨g2, 0, none⟩) (some ⟨g1, 0, none⟩) c2 c1 z x wr (zsAt_of_zo hZ) (zsAt_of_zo (HZx.out.below hb)) (by rw [hZ.len]; omega)
       rw [hZ.len, hxl] at hEq
       have HMz : Hid (Mid first (ways true arcs) p z) := by
         show Mid _ _ _ _
         rw [HRz.out]; exact HRR.out _ HM.out
       by_cases hfix : z = x
       · have HI : Hid (RoundsIs arcs p true first x k) := ⟨HX.out, by rw [<- HRz.out]; exact hfix, HOn.out⟩
         have hd : decide (z = x) = true := by simpa using hfix
         rw [hd] at hEq
         clear hfix hd hZ hb
         go_wp2_with fail
         refine hEq.mono ?_
         rintro e w6 ⟨rfl, hb6⟩
         have HZ6 : Hid (Zo w6 w.heap.size g1 n c1 x) := owns_base2 ((HZx.out.below HBB.out).below hb6) (by omega)
         have HB6 := hidep (ptw HBW.out hb6)
         clear hb6 hEq
         go_wp2
         go_ret2
         exact ⟨_, _, x, _, rfl, HI.out, HZ6.out, HB6.out⟩
       · have HLs : Hid (msum z < msum x) := by
           have := HRL.out _ HM.out (fun h => hfix (HRz.out.trans h))
           rw [<- HRz.out] at this; exact this
         have HO2 : Hid (∀ j, j < k + 1 -> ¬ rnd arcs p true (rnds arcs p true j first) = rnds arcs p true j first) := by
           intro j hj h
           by_cases e : j = k
           · subst e
             rw [<- HX.out, <- HRz.out] at h
             exact hfix h
           · exact HOn.out j (by omega) h
         have HX2 : Hid (z = rnds arcs p true (k + 1) first) := by show _ = _; rw [HRz.out, HX.out]; rfl
         have hd : decide (z = x) = false := by simpa using hfix
         rw [hd] at hEq
         clear hfix hd hZ hb
         go_wp2_with fail
         refine hEq.mono ?_
         rintro e w6 ⟨rfl, hb6⟩
         have HZ6 : Hid (Zo w6 (w.heap.size + 1) g2 n c2 z) := owns_base2 (HZZ.out.below hb6) (by omega)
         have HB6 : Hid (Below (w.heap.size + 1) (w.alloc (.cells #[.slice ao na ca, .slice bo arcs.length cb] 49)) w6) := HB.out.trans ((ptw HBB.out hb6).mono (by omega))
         clear hb6 hEq
         go_wp2
         go_roundw
         case rel => exact ⟨k + 1, g2, c2, z, rfl, by go_num, HX2.out, HO2.out, HMz.out, by have := HLs.out; have := HMx.out; omega, HZ6.out, HB6.out⟩
         case measure =>
           show msum (rdL w6 g2 n) < msum (rdL wo g1 n)
           rw [Zo.rd HZ6.out, Zo.rd HZx.out]
           exact HLs.out
def begF (prog fr : Int) (v : Int) : Int := if prog = 3 then v else fromF fr v
theorem firstL_succ (al : List Bool) (f : Int -> Int) (k : Nat) (h : k < al.length) : ((firstL al f).take (k + 1)).map (Value.int .i64) = ((firstL al f).take k).map (Value.int .i64) ++ [.int .i64 (if al[k] = true then f k else 1099511627776)] := by
 rw [firstL_take al f k h, List.map_append, List.getD_eq_getElem?_getD, List.getElem?_eq_getElem h]; rfl
set_option maxRecDepth 100000 in
set_option maxHeartbeats 4000000 in
theorem rBegun_any (ao bo : Option Addr) (ca m cb : Nat) (al : List Bool) (prog fr : Int) (w : World) (hA : BsAt w ao al) (h12 : al.length <= 12) :
   Calls Seq.prog 26 #[.agg #[.slice ao al.length ca, .slice bo m cb], .int .i64 prog, .int .i64 fr] w fun e w' => ∃ v, e = .returned v /\ w'.ownsRow w.heap.size 3 1 v al.length ((firstL al (begF prog fr)).map (Value.int .i64)) /\ (al = [] -> v = .slice none 0 0) /\ Below w.heap.size w w' := by
 obtain ⟨i0, hi, hz0, hz1, hz2⟩ := info_parts Tryz.infoInt
 have HB := hidep (pal w)
 go_enter Seq.func26, Tryz.ntmps26
 go_wp2
 go_loopw [7, 8, 9] (fun v i _ wr => ∃ k : Nat, k <= al.length /\ i = .int .i64 k /\ wr.ownsRow (w.heap.size + 1) 3 1 v k (((firstL al (begF prog fr)).take k).map (Value.int .i64)) /\ (k = 0 -> v = .slice none 0 0) /\ Below (w.heap.size + 1) (w.alloc (.cells #[.slice ao al.length ca, .slice bo m cb] 49)) wr) (fun _ i _ _ => al.length - (intOf i).toNat)
 case atStart => exact ⟨0, Nat.zero_le _, rfl, World.ownsRow_nil _ _ _ _, fun _ => rfl, Below.refl _ _⟩
 case round =>
   obtain ⟨k, hk, rfl, hown, hnil, hb⟩ := hrel
   have hbw : Below w.heap.size w wr := (HB.out _).trans (hb.mono (by omega))
   have hz := hb.size
   simp only [World.size_alloc] at hz
   have hz0' : w.heap.size < wr.heap.size := by omega
   have q0 : wr.cell? ⟨w.heap.size, 0, none⟩ = some (.slice ao al.length ca) := by rw [hb.cell (p := ⟨w.heap.size, 0, none⟩) (by simp)]; simp
   by_cases hlt : k < al.length
   · rcases hA.below hbw with h0 | ⟨b, off, rfl, hbr, hc⟩
     · subst h0; simp at hlt
     have c0 := BsAt.at1 hlt hc
     have hki : (k : Int) < (al.length : Int) := by omega
     obtain ⟨x, hx⟩ : ∃ x, x = (if al[k] = true then begF prog fr k else 1099511627776) := ⟨_, rfl⟩
     have HE := hidep (firstL_succ al (begF prog fr) k hlt)
     rw [<- hx] at HE
     generalize ((firstL al (begF prog fr)).take k).map (Value.int .i64) = xs at hown HE
     have HN : Hid (∀ v' w', w'.ownsRow (w.heap.size + 1) 3 1 v' (k + 1) (xs ++ [.int .i64 x]) -> (wr.alloc (.cells #[.int .i64 x] 3)).grownBy w' u7.ownBlock ->
         (w'.ownsRow (w.heap.size + 1) 3 1 v' (k + 1) (((firstL al (begF prog fr)).take (k + 1)).map (Value.int .i64)) /\ Below (w.heap.size + 1) (w.alloc (.cells #[.slice (some ⟨b, off, none⟩) al.length ca, .slice bo m cb] 49)) w')) := by
       intro v' w' ho hg
       exact ⟨by rw [HE.out]; exact ho, (hb.alloc (by omega) _).grown hg (by simp; omega) (fun j hj => (hown.lt j hj).1)⟩
     clear hc hA hb hbw HE hnil
     cases ea : al[k] with
     | false =>
       rw [ea] at c0 hx
       simp only [Bool.false_eq_true, if_false] at hx
       subst hx
       clear ea
       go_wp2_with (at_builtin; refine wpList_append_own _ rfl _ _ 43 rfl (w.heap.size + 1) 3 i0 _ 1 8 ((Seq.pu 43).trans Tryz.underlying43) hi hz0 hz1 hz2 rfl (by decide) _ k _ rfl (hown.alloc _) ⟨wr.heap.size, 0, none⟩ 1 1 [.int .i64 1099511627776] rfl rfl ?c1 ?c2 (by unfold maxLen; omega) (by omega) (by simp; omega) ?_)
       case c1 => exact World.news_of_block (cs := #[.int .i64 1099511627776]) (t := 3) (fr := (0, 0)) (heap_alloc_new wr _)
       case c2 => intro u hu; simp at hu; subst hu; rfl
       intro v1 w1 hown' hgrow hnil'
       have HR := hidep (HN.out _ _ hown' hgrow)
       clear hown hown' hgrow hnil'
       go_wp2
       go_roundw
       case rel => exact ⟨k + 1, by omega, by go_num, HR.out.1, fun h => by omega, HR.out.2⟩
       case measure => simp [intOf]; omega
     | true =>
       rw [ea] at c0 hx
       simp only [if_true] at hx
       clear ea
       by_cases hp3 : prog = 3
       · have hx2 : x = (k : Int) := by rw [hx]; unfold begF; rw [if_pos hp3]
         subst hx2
         have d3 : (prog == 3) = true := by simpa using hp3
         clear hx hp3
         go_wp2_with (at_builtin; refine wpList_append_own _ rfl _ _ 43 rfl (w.heap.size + 1) 3 i0 _ 1 8 ((Seq.pu 43).trans Tryz.underlying43) hi hz0 hz1 hz2 rfl (by decide) _ k _ rfl (hown.alloc _) ⟨wr.heap.size, 0, none⟩ 1 1 [.int .i64 k] rfl rfl ?c1 ?c2 (by unfold maxLen; omega) (by omega) (by simp; omega) ?_)
         case c1 => exact World.news_of_block (cs := #[.int .i64 k]) (t := 3) (fr := (0, 0)) (heap_alloc_new wr _)
         case c2 => intro u hu; simp at hu; subst hu; rfl
         intro v1 w1 hown' hgrow hnil'
         have HR := hidep (HN.out _ _ hown' hgrow)
         clear hown hown' hgrow hnil'
         go_wp2
         go_roundw
         case rel => exact ⟨k + 1, by omega, by go_num, HR.out.1, fun h => by omega, HR.out.2⟩
         case measure => simp [intOf]; omega
       · have d3 : (prog == 3) = false := by simpa using hp3
         by_cases hpf : (k : Int) = fr
         · have hx2 : x = 0 := by rw [hx]; unfold begF fromF; rw [if_neg hp3, if_pos hpf]
           subst hx2
           have d4 : ((k : Int) == fr) = true := by simpa using hpf
           clear hx hp3 hpf
           go_wp2_with (at_builtin; refine wpList_append_own _ rfl _ _ 43 rfl (w.heap.size + 1) 3 i0 _ 1 8 ((Seq.pu 43).trans Tryz.underlying43) hi hz0 hz1 hz2 rfl (by decide) _ k _ rfl (hown.alloc _) ⟨wr.heap.size, 0, none⟩ 1 1 [.int .i64 0] rfl rfl ?c1 ?c2 (by unfold maxLen; omega) (by omega) (by simp; omega) ?_)
           case c1 => exact World.news_of_block (cs := #[.int .i64 0]) (t := 3) (fr := (0, 0)) (heap_alloc_new wr _)
           case c2 => intro u hu; simp at hu; subst hu; rfl
           intro v1 w1 hown' hgrow hnil'
           have HR := hidep (HN.out _ _ hown' hgrow)
           clear hown hown' hgrow hnil'
           go_wp2
           go_roundw
           case rel => exact ⟨k + 1, by omega, by go_num, HR.out.1, fun h => by omega, HR.out.2⟩
           case measure => simp [intOf]; omega
         · have hx2 : x = 1099511627776 := by rw [hx]; unfold begF fromF; rw [if_neg hp3, if_neg hpf]
           subst hx2
           have d4 : ((k : Int) == fr) = false := by simpa using hpf
           clear hx hp3 hpf
           go_wp2_with (at_builtin; refine wpList_append_own _ rfl _ _ 43 rfl (w.heap.size + 1) 3 i0 _ 1 8 ((Seq.pu 43).trans Tryz.underlying43) hi hz0 hz1 hz2 rfl (by decide) _ k _ rfl (hown.alloc _) ⟨wr.heap.size, 0, none⟩ 1 1 [.int .i64 1099511627776] rfl rfl ?c1 ?c2 (by unfold maxLen; omega) (by omega) (by simp; omega) ?_)
           case c1 => exact World.news_of_block (cs := #[.int .i64 1099511627776]) (t := 3) (fr := (0, 0)) (heap_alloc_new wr _)
           case c2 => intro u hu; simp at hu; subst hu; rfl
           intro v1 w1 hown' hgrow hnil'
           have HR := hidep (HN.out _ _ hown' hgrow)
           clear hown hown' hgrow hnil'
           go_wp2
           go_roundw
           case rel => exact ⟨k + 1, by omega, by go_num, HR.out.1, fun h => by omega, HR.out.2⟩
           case measure => simp [intOf]; omega
   · have hkl : k = al.length := by omega
     have HO : Hid (wr.ownsRow w.heap.size 3 1 u7 al.length ((firstL al (begF prog fr)).map (Value.int .i64))) := by
       have h1 := hown
       rw [hkl, List.take_of_length_le (by rw [firstL_length]; exact Nat.le_refl _)] at h1
       exact owns_base2 h1 (by omega)
     have HN : Hid (al = [] -> u7 = .slice none 0 0) := fun h => hnil (by rw [hkl, h]; rfl)
     clear hown hnil
     go_wp2
     go_ret
     exact ⟨_, rfl, HO.out, HN.out, hbw⟩
def pricZ (prog : Nat) (a : Ac) : Int := if prog = 1 then 1 else if prog = 2 then a.2.2 else 0
set_option maxRecDepth 100000 in
theorem plain1_any (a : Ac) (prog : Nat) (h3 : prog <= 3) (b : Nat) (w : World) (hc : w.cell? ⟨b, 0, none⟩ = some (.int .i64 prog)) (hb : b < w.heap.size) :
   Calls Seq.prog 27 (#[.agg #[.int .i64 a.1, .int .i64 a.2.1, .int .i64 a.2.2]] ++ #[.pointer (some ⟨b, 0, none⟩)]) w fun e w' => e = .returned (.int .i64 (pricZ prog a)) /\ Below w.heap.size w w' := by
 have e0 : (#[.agg #[.int .i64 a.1, .int .i64 a.2.1, .int .i64 a.2.2]] ++ #[.pointer (some ⟨b, 0, none⟩)] : Array Value) = #[.agg #[.int .i64 a.1, .int .i64 a.2.1, .int .i64 a.2.2], .pointer (some ⟨b, 0, none⟩)] := rfl
 rw [e0]
 have HB : Hid (∀ o o', Below w.heap.size w ((w.alloc o).alloc o')) := fun o o' => ptw (pal w o) (pal _ o')
 have hp : prog = 0 \/ prog = 1 \/ prog = 2 \/ prog = 3 := by omega
 obtain ⟨x, y, z⟩ := a
 rcases hp with rfl | rfl | rfl | rfl
 all_goals
   simp only [pricZ] at *
   clear h3
   go_enter Seq.func27, Tryz.ntmps27
   go_wp2
   go_ret
   exact ⟨rfl, HB.out _ _⟩
set_option maxRecDepth 100000 in
set_option maxHeartbeats 4000000 in
theorem Rounds_nil (g : Nat) (caps : Array Value) (ao bo : Option Addr) (ca cb na : Nat) (back : Bool) (w : World) :
   Calls Seq.prog 25 #[.agg #[.slice ao na ca, .slice bo 0 cb], .slice none 0 0, .func (.func g) #[] caps, .bool back] w fun e w' => e = .returned (.tuple #[.slice none 0 0, .int .i64 0]) /\ Below w.heap.size w w' := by
 obtain ⟨i0, hi, hz0, hz1, hz2⟩ := info_parts Tryz.infoInt
 have HB := hidep (pal w)
 go_enter Seq.func25, Tryz.ntmps25
 go_wp2_with (at_builtin; refine wpList_append_own_none rfl _ _ 43 rfl w.heap.size 3 i0 1 ((Seq.pu 43).trans Tryz.underlying43) hi _ 0 [] rfl (World.ownsRow_nil _ _ _ _) rfl ?_)
 refine wp_loop_rounds 1 ?_
 rw [rounds_succ]
 go_wp2_with (at_builtin; refine wpList_append_own_none rfl _ _ 43 rfl w.heap.size 3 i0 1 ((Seq.pu 43).trans Tryz.underlying43) hi _ 0 [] rfl (World.ownsRow_nil _ _ _ _) rfl ?_)
 refine wp_loop_rounds 1 ?_
 rw [rounds_succ]
 go_wp2_with (go_at_call 42; refine (EqualI_any none none 0 0 [] [] _ (.inl rfl) (.inl rfl) (by decide)).mono ?_; rintro e w1 ⟨rfl, hb1⟩)
 go_ret2
 exact ⟨rfl, ptw (HB.out _) hb1⟩
theorem fine_nil {arcs : List Ac} {p : Ac -> Int} (F : Fine [] arcs p) : arcs = [] := by
 cases arcs with
 | nil => rfl
 | cons a l => have := F.en a (by simp); simp at this; omega
theorem ways_nil {back : Bool} {arcs : List Ac} (h : ways back arcs = []) : arcs = [] := by
 cases arcs with
 | nil => rfl
 | cons a l => have := (mem_ways (back := back) (arcs := a :: l) (a := a) (by simp)).1; rw [h] at this; simp at this
theorem roundsAll_any (g : Nat) (caps : Array Value) (p : Ac -> Int) (eg : ∀ args w, (callFunc g args).run Seq.prog w = .ok (.enter g args) w) (ao bo : Option Addr) (ca cb na : Nat) (first : List Int) (arcs : List Ac) (back : Bool) (base0 : Nat) (v : Value) (w : World)
   (hv : w.ownsRow base0 3 1 v first.length (first.map (Value.int .i64))) (hnil : first = [] -> v = .slice none 0 0) (hR : PcAt w bo arcs) (F : Fine first (ways back arcs) p) (he : back = true -> Even p) (h12 : first.length <= 12) (h30 : arcs.length <= 30)
   (hf : ∀ a ∈ arcs, ∀ wq, Below w.heap.size w wq -> Calls Seq.prog g (#[.agg #[.int .i64 a.1, .int .i64 a.2.1, .int .i64 a.2.2]] ++ caps) wq fun e w' => e = .returned (.int .i64 (p a)) /\ Below wq.heap.size wq w') :
   Calls Seq.prog 25 #[.agg #[.slice ao na ca, .slice bo arcs.length cb], v, .func (.func g) #[] caps, .bool back] w fun e w' => ∃ v' x k, e = .returned (.tuple #[v', .int .i64 (k : Nat)]) /\ RoundsIs arcs p back first x k /\ w'.ownsRow w.heap.size 3 1 v' first.length (x.map (Value.int .i64)) /\ Below w.heap.size w w' := by
 by_cases h0 : first = []
 · obtain rfl := hnil h0
   subst h0
   obtain rfl := ways_nil (fine_nil F)
   refine (Rounds_nil g caps ao bo ca cb na back w).mono ?_
   rintro e w' ⟨rfl, hb⟩
   exact ⟨_, [], 0, rfl, ⟨rfl, rfl, fun j h => by omega⟩, World.ownsRow_nil _ _ _ _, hb⟩
 · have hp : 0 < first.length := by cases first <;> simp_all
   rcases hv.2 with ⟨_, h1⟩ | ⟨fb, fc, cur, rfl, _⟩
   · omega
   · cases back
     · refine (Rounds_false g caps p eg ao bo ca cb fb fc na first arcs base0 w hv hR F he hp h12 h30 hf).mono ?_
       rintro e w' ⟨gb, c, x, k, rfl, hI, hZ, hb⟩
       exact ⟨_, x, k, rfl, hI, hZ, hb⟩
     · refine (Rounds_true g caps p eg ao bo ca cb fb fc na first arcs base0 w hv hR F he hp h12 h30 hf).mono ?_
       rintro e w' ⟨gb, c, x, k, rfl, hI, hZ, hb⟩
       exact ⟨_, x, k, rfl, hI, hZ, hb⟩
theorem pricZ_even : Even (pricZ 3) := fun _ => rfl
theorem fine_prog {al : List Bool} {arcs : List Ac} (S : Shot al arcs) (fr : Int) {prog : Nat} (hp : prog = 1 \/ prog = 2 \/ prog = 3) : Fine (firstL al (begF prog fr)) (ways (decide (prog = 3)) arcs) (pricZ prog) /\ (decide (prog = 3) = true -> Even (pricZ prog)) := by
 have nv := S.nv
 rcases hp with rfl | rfl | rfl
 · exact ⟨S.fine (fun v _ => fromF_bounds fr v) (fun a _ => by unfold pricZ; simp), fun h => by simp at h⟩
 · exact ⟨S.fine (fun v _ => fromF_bounds fr v) (fun a ha => by unfold pricZ; simpa using S.cost a ha), fun h => by simp at h⟩
 · exact ⟨S.bothW (fun v hv => by unfold begF; simp; omega) (fun a _ => by unfold pricZ; simp) pricZ_even, fun _ => pricZ_even⟩
set_option maxRecDepth 100000 in
set_option maxHeartbeats 8000000 in
theorem rPlain_any (ao bo : Option Addr) (ca cb : Nat) (al : List Bool) (arcs : List Ac) (fr : Int) (prog : Nat) (hp : prog = 1 \/ prog = 2 \/ prog = 3) (w : World) (hA : BsAt w ao al) (hR : PcAt w bo arcs) (S : Shot al arcs) :
   Calls Seq.prog 14 #[.agg #[.slice ao al.length ca, .slice bo arcs.length cb], .int .i64 prog, .int .i64 fr] w fun e w' => ∃ v x k, e = .returned (.tuple #[v, .int .i64 (k : Nat)]) /\ RoundsIs arcs (pricZ prog) (decide (prog = 3)) (firstL al (begF prog fr)) x k /\ w'.ownsRow w.heap.size 3 1 v al.length (x.map (Value.int .i64)) /\ Below w.heap.size w w' := by
 have eg1 : ∀ args w, (callFunc 27 args).run Seq.prog w = .ok (.enter 27 args) w := fun args w => rfl
 have HFN := hidep (fine_prog S fr hp)
 have HS := hidep S
 have HB : Hid (∀ o o', Below w.heap.size w ((w.alloc o).alloc o')) := fun o o' => ptw (pal w o) (pal _ o')
 have HBg : Hid (∀ W, Below w.heap.size w W -> Calls Seq.prog 26 #[.agg #[.slice ao al.length ca, .slice bo arcs.length cb], .int .i64 prog, .int .i64 fr] W fun e w' => ∃ v, e = .returned v /\ w'.ownsRow W.heap.size 3 1 v al.length ((firstL al (begF prog fr)).map (Value.int .i64)) /\ (al = [] -> v = .slice none 0 0) /\ Below W.heap.size W w') := fun W hW => rBegun_any ao bo ca arcs.length cb al prog fr W (hA.below hW) S.nv
 have HRd : Hid (∀ W base0 v, Below w.heap.size w W -> w.heap.size + 1 < W.heap.size -> W.cell? ⟨w.heap.size + 1, 0, none⟩ = some (.int .i64 prog) -> W.ownsRow base0 3 1 v al.length ((firstL al (begF prog fr)).map (Value.int .i64)) -> (al = [] -> v = .slice none 0 0) -> Calls Seq.prog 25 #[.agg #[.slice ao al.length ca, .slice bo arcs.length cb], v, .func (.func 27) #[] #[.pointer (some ⟨w.heap.size + 1, 0, none⟩)], .bool (decide (prog = 3))] W fun e w' => ∃ v' x k, e = .returned (.tuple #[v', .int .i64 (k : Nat)]) /\ RoundsIs arcs (pricZ prog) (decide (prog = 3)) (firstL al (begF prog fr)) x k /\ w'.ownsRow W.heap.size 3 1 v' al.length (x.map (Value.int .i64)) /\ Below W.heap.size W w') := by
   intro W base0 v hW hlt hc ho hnil
   have := roundsAll_any 27 #[.pointer (some ⟨w.heap.size + 1, 0, none⟩)] (pricZ prog) eg1 ao bo ca cb al.length (firstL al (begF prog fr)) arcs (decide (prog = 3)) base0 v W (by rw [firstL_length]; exact ho) (fun h => hnil (List.eq_nil_of_length_eq_zero (by rw [<- firstL_length al (begF prog fr), h]; rfl))) (hR.below hW) HFN.out.1 HFN.out.2 (by rw [firstL_length]; exact HS.out.nv) HS.out.na (fun a _ wq hq => plain1_any a prog (by omega) _ wq ((hq.cell (p := ⟨w.heap.size + 1, 0, none⟩) hlt).trans hc) (Nat.lt_of_lt_of_le hlt hq.size))
   rw [firstL_length] at this
   exact this
 clear S hA hR eg1 HS HFN
 have hzk : ((prog : Int) == 3) = decide (prog = 3) := by rw [Bool.eq_iff_iff]; simp; omega
 generalize decide (prog = 3) = bk at *
 generalize pricZ prog = pz at *
 generalize (prog : Int) = z at *
 clear hp
 generalize hfi : firstL al (begF z fr) = first at *
 clear hfi
 have B2 : Hid (∀ W, Below ((w.alloc (.cells #[.slice ao al.length ca, .slice bo arcs.length cb] 49)).alloc (.cells #[.int .i64 z] 3)).heap.size ((w.alloc (.cells #[.slice ao al.length ca, .slice bo arcs.length cb] 49)).alloc (.cells #[.int .i64 z] 3)) W -> W.cell? ⟨w.heap.size, 0, none⟩ = some (.slice ao al.length ca) /\ W.cell? ⟨w.heap.size, 1, none⟩ = some (.slice bo arcs.length cb) /\ W.cell? ⟨w.heap.size + 1, 0, none⟩ = some (.int .i64 z) /\ Below w.heap.size w W /\ w.heap.size + 1 < W.heap.size) := by
   intro W h
   have hz := h.size
   simp only [World.size_alloc] at hz
   refine ⟨?_, ?_, ?_, ptw (HB.out _ _) h, by omega⟩
   · rw [h.cell (p := ⟨w.heap.size, 0, none⟩) (by simp; omega), World.cell?_alloc_past _ _ _ (by simp), World.cell?_alloc_at _ _ _ _ rfl]; rfl
   · rw [h.cell (p := ⟨w.heap.size, 1, none⟩) (by simp; omega), World.cell?_alloc_past _ _ _ (by simp), World.cell?_alloc_at _ _ _ _ rfl]; rfl
   · rw [h.cell (p := ⟨w.heap.size + 1, 0, none⟩) (by simp), World.cell?_alloc_at _ _ _ _ (by simp)]; rfl
 clear HB
 obtain ⟨a0, a1, a2, _, a4⟩ := B2.out _ (Below.refl _ _)
 go_enter Seq.func14, Tryz.ntmps14
 go_wp2_with fail
 generalize (w.alloc (.cells #[.slice ao al.length ca, .slice bo arcs.length cb] 49)).alloc (.cells #[.int .i64 z] 3) = w2 at *
 go_region_held3 (fun w' => w'.cell? ⟨w.heap.size, 0, none⟩ = some (.slice ao al.length ca) /\ w'.cell? ⟨w.heap.size, 1, none⟩ = some (.slice bo arcs.length cb) /\ w'.cell? ⟨w.heap.size + 1, 0, none⟩ = some (.int .i64 z))
   (first | go_keep | (refine ⟨?_, ?_, ?_⟩ <;> assumption))
   (first
     | (go_at_call 26; refine (HBg.out _ (B2.out _ (Below.refl _ _).drew).2.2.2.1).mono ?_; rintro e w3 ⟨v, rfl, hown3, hnil3, hb3⟩; have hb3' : Below w2.heap.size w2 w3 := ptw (Below.refl _ _).drew hb3; obtain ⟨d0, d1, d2, d3, d4⟩ := B2.out _ hb3')
     | (revert hb3'; intro hb3'; go_at_call 25; refine (HRd.out _ _ _ d3 d4 d2 hown3 hnil3).mono ?_; rintro e w4 ⟨v4, x4, k4, rfl, hI4, hown4, hb4⟩; have hb4' : Below w2.heap.size w2 w4 := ptw hb3' hb4; obtain ⟨e0, e1, e2, e3, e4⟩ := B2.out _ hb4'))
 all_goals
   have HI := hidep hI4
   have HO := hidep (owns_base2 (base' := w.heap.size) hown4 (by omega))
   have HE3 := hidep e3
   clear hI4 hown4 hown3 hnil3 hb3 hb4
   go_wp2
   go_ret2
   exact ⟨_, _, _, rfl, HI.out, HO.out, HE3.out⟩
abbrev P3 := Int × Int × Int
def updF {α : Type} (f : Nat -> α) (v : Nat) (x : α) : Nat -> α := fun i => if i = v then x else f i
theorem updF_same {α : Type} (f : Nat -> α) (v : Nat) (x : α) : updF f v x v = x := by simp [updF]
theorem updF_far {α : Type} (f : Nat -> α) {v i : Nat} (x : α) (h : i ≠ v) : updF f v x i = f i := by simp [updF, h]
theorem map_updF (n v : Nat) (val : Nat -> Value) (x : Value) : ((List.range n).map val).set v x = (List.range n).map (updF val v x) := by
 apply List.ext_getElem (by simp)
 intro i h1 h2
 simp only [List.getElem_set, List.getElem_map, List.getElem_range, updF]
 by_cases e : v = i
 · simp [e]
 · have e2 : ¬ i = v := fun h => e h.symm
   simp [e, e2]
theorem owns_apart {W : World} {base e size base' e' size' n n' : Nat} {v v' : Value} {xs xs' : List Value} (h : W.ownsRow base e size v n xs) (h' : W.ownsRow base' e' size' v' n' xs') (he : e ≠ e') : v.ownBlock = none \/ v.ownBlock ≠ v'.ownBlock := by
 rcases h.2 with ⟨rfl, _⟩ | ⟨g, cap, cur, rfl, _, hh, _⟩
 · exact .inl rfl
 · right
   intro e
   rcases h'.2 with ⟨rfl, _⟩ | ⟨g', cap', cur', rfl, _, hh', _⟩
   · cases e
   · have : g = g' := Option.some.inj e
     subst this
     rw [hh] at hh'
     simp only [Option.some.injEq, Obj.cells.injEq] at hh'
     exact he hh'.2.1
structure AM (W : World) (base go n : Nat) (val : Nat -> Value) (pcs : Nat -> List P3) : Prop where
 own : W.ownsRow base 32 1 (.slice (some ⟨go, 0, none⟩) n n) n ((List.range n).map val)
 inn : ∀ v, v < n -> W.ownsRow base 35 3 (val v) (pcs v).length (enc3 (pcs v))
 ap : ∀ v v', v < n -> v' < n -> v ≠ v' -> (val v).ownBlock = none \/ (val v).ownBlock ≠ (val v').ownBlock
theorem AM.below {W W' : World} {base go n : Nat} {val : Nat -> Value} {pcs : Nat -> List P3} (A : AM W base go n val pcs) (hb : Below W.heap.size W W') : AM W' base go n val pcs :=
 ⟨ownsRow_below A.own hb, fun v hv => ownsRow_below (A.inn v hv) hb, A.ap⟩
theorem AM.out {W : World} {base go n : Nat} {val : Nat -> Value} {pcs : Nat -> List P3} (A : AM W base go n val pcs) {v : Nat} (hv : v < n) : W.cell? ⟨go, v, none⟩ = some (val v) := by
 rw [World.ownsRow.cellAt A.own v (by omega)]; simp [hv]
theorem AM.far {W : World} {base go n : Nat} {val : Nat -> Value} {pcs : Nat -> List P3} (A : AM W base go n val pcs) {v : Nat} (hv : v < n) : (val v).ownBlock ≠ some go := by
 rcases owns_apart (A.inn v hv) A.own (by decide) with e | e
 · rw [e]; intro h; cases h
 · exact e
theorem AM.put {W w5 : World} {base go n : Nat} {val : Nat -> Value} {pcs : Nat -> List P3} (A : AM W base go n val pcs) {v : Nat} (hv : v < n) (o : Obj) {v' : Value} {p : P3} (hgr : (W.alloc o).grownBy w5 (val v).ownBlock) (h5 : w5.ownsRow base 35 3 v' ((pcs v).length + 1) (enc3 (pcs v ++ [p]))) (hat : v'.ownBlock = (val v).ownBlock \/ v'.ownBlock = some (W.alloc o).heap.size) :
   AM (w5.setCell ⟨go, v, none⟩ v') base go n (updF val v v') (updF pcs v (pcs v ++ [p])) := by
 have o1 := World.ownsRow.kept (World.ownsRow.alloc (w := W) A.own o) hgr (owns_apart A.own (A.inn v hv) (by decide))
 have o2 := (World.ownsRow.stored o1 v v').1
 rw [map_updF] at o2
 have hgo : v'.ownBlock ≠ some go := by
   rcases owns_apart h5 o1 (by decide) with e | e
   · rw [e]; intro h; cases h
   · exact e
 refine ⟨o2, fun i hi => ?_, fun i i' hi hi' hne => ?_⟩
 · by_cases e : i = v
   · subst e
     rw [updF_same, updF_same, List.length_append]
     exact ownsRow_setBox h5 hgo
   · rw [updF_far _ _ e, updF_far _ _ e]
     exact ownsRow_setBox (World.ownsRow.kept (World.ownsRow.alloc (w := W) (A.inn i hi) o) hgr (A.ap i v hi hv e)) (A.far hi)
 · by_cases e : i = v
   · subst e
     rw [updF_same, updF_far _ _ (fun h => hne h.symm)]
     rcases hat with a | a
     · rw [a]; exact A.ap i i' hi hi' hne
     · right
       rw [a]
       intro h
       have h2 := ((A.inn i' hi').lt _ h.symm).2
       simp at h2
       omega
   · rw [updF_far _ _ e]
     by_cases e' : i' = v
     · subst e'
       rw [updF_same]
       rcases hat with a | a
       · rw [a]; exact A.ap i i' hi hi' hne
       · right
         rw [a]
         intro h
         have h2 := ((A.inn i hi).lt _ h).2
         simp at h2
         omega
     · rw [updF_far _ _ e']; exact A.ap i i' hi hi' hne
theorem enc3_last (l : List P3) (f t x m : Int) : (enc3 (l ++ [(f, t, x)])).set (l.length * 3 + 1) (.int .i64 m) = enc3 (l ++ [(f, m, x)]) := by
 rw [enc3_append, enc3_append, List.set_append_right _ _ (by rw [enc3_length]; omega), enc3_length, show l.length * 3 + 1 - l.length * 3 = 1 from by omega]; rfl
theorem AM.more {W : World} {base go n : Nat} {val : Nat -> Value} {pcs : Nat -> List P3} (A : AM W base go n val pcs) {v : Nat} (hv : v < n) {l : List P3} {f t x m : Int} (hl : pcs v = l ++ [(f, t, x)]) {b cap : Nat} (hb : val v = .slice (some ⟨b, 0, none⟩) (pcs v).length cap) :
   AM (W.setCell ⟨b, l.length * 3 + 1, none⟩ (.int .i64 m)) base go n val (updF pcs v (l ++ [(f, m, x)])) := by
 have hf : some go ≠ some b := fun e => A.far hv (by rw [hb]; exact e.symm)
 refine ⟨ownsRow_setBox A.own hf, fun i hi => ?_, A.ap⟩
 rw [hl] at hb
 by_cases e : i = v
 · subst e
   rw [updF_same]
   have h := A.inn i hi
   rw [hl, hb] at h
   have := (World.ownsRow.stored h (l.length * 3 + 1) (.int .i64 m)).1
   rw [enc3_last] at this
   rw [hb]
   simpa using this
 · rw [updF_far _ _ e]
   refine ownsRow_setBox (A.inn i hi) ?_
   rcases A.ap i v hi hv e with h | h
   · rw [h]; intro h; cases h
   · rw [hb] at h; exact h
theorem rounds_unique {arcs : List Ac} {p : Ac -> Int} {back : Bool} {first x x' : List Int} {k k' : Nat} (R : RoundsIs arcs p back first x k) (R' : RoundsIs arcs p back first x' k') : x = x' /\ k = k' := by
 have e : k = k' := by
   rcases Nat.lt_trichotomy k k' with h | h | h
   · exact absurd (by have := R.stop; rw [R.is] at this; exact this) (R'.on k h)
   · exact h
   · exact absurd (by have := R'.stop; rw [R'.is] at this; exact this) (R.on k' h)
 subst e
 exact ⟨R.is.trans R'.is.symm, rfl⟩
theorem shot_snap {g : Gr} (R : Right g) (t : Int) : Shot (aliveL t g.lives) (arcsL t g.lives g.edges) := by
 have key : ∀ a ∈ arcsL t g.lives g.edges, (alv (aliveL t g.lives) a.1 = true /\ alv (aliveL t g.lives) a.2.1 = true) /\ 0 <= a.2.2 /\ a.2.2 <= 1000 := by
   intro a ha
   unfold arcsL at ha
   rw [List.mem_flatMap] at ha
   obtain ⟨e, he, ha⟩ := ha
   have hend := R.ends e he
   unfold arcOf at ha
   split at ha
   · simp at ha
   · rename_i l hl
     split at ha
     · rename_i hal
       simp only [List.mem_singleton] at ha
       subst ha
       rw [Bool.and_eq_true] at hal
       have hf := (fitB_iff _ _).1 (R.legs e he l (lgFind_mem hl).1)
       refine ⟨⟨?_, ?_⟩, by show 0 <= l.2.2.2; omega, by show l.2.2.2 <= 1000; omega⟩
       · unfold alv vtx
         rw [aliveL_length]
         have := hal.1
         unfold aliveB at this
         simp only [this, Bool.and_true]
         simp; omega
       · unfold alv vtx
         rw [aliveL_length]
         have := hal.2
         unfold aliveB at this
         simp only [this, Bool.and_true]
         simp; omega
     · simp at ha
 have h1 := R.lvs
 have h2 := R.eds
 have h3 := arcs_len t g.lives g.edges
 exact ⟨by rw [aliveL_length]; omega, by omega, fun a ha => (key a ha).1, fun a ha => (key a ha).2⟩
def PlIs (g : Gr) (p : Nat) (fr : Int) (t : Nat) (x : List Int) (k : Nat) : Prop := RoundsIs (arcsL t g.lives g.edges) (pricZ p) (decide (p = 3)) (firstL (aliveL t g.lives) (begF p fr)) x k
open Classical in
noncomputable def plF (g : Gr) (p : Nat) (fr : Int) (t : Nat) : List Int × Nat := if h : ∃ q : List Int × Nat, PlIs g p fr t q.1 q.2 then Classical.choose h else ([], 0)
theorem plF_eq {g : Gr} {p : Nat} {fr : Int} {t : Nat} {x : List Int} {k : Nat} (h : PlIs g p fr t x k) : plF g p fr t = (x, k) := by
 have hx : ∃ q : List Int × Nat, PlIs g p fr t q.1 q.2 := ⟨(x, k), h⟩
 unfold plF
 rw [dif_pos hx]
 obtain ⟨e1, e2⟩ := rounds_unique (Classical.choose_spec hx) h
 exact Prod.ext e1 e2
def oneP (l : List P3) (t x : Int) : List P3 :=
 if x = 1099511627776 then l
 else
   match l.getLast? with
   | none => l ++ [(t, t + 1, x)]
   | some q => if q.2.1 = t /\ q.2.2 = x then l.dropLast ++ [(q.1, t + 1, x)] else l ++ [(t, t + 1, x)]
noncomputable def allP (g : Gr) (p : Nat) (fr : Int) (v : Nat) : Nat -> List P3
 | 0 => []
 | k + 1 => oneP (allP g p fr v k) k ((plF g p fr k).1.getD v 0)
noncomputable def allR (g : Gr) (p : Nat) (fr : Int) : Nat -> Int
 | 0 => 0
 | k + 1 => max (allR g p fr k) ((plF g p fr k).2 : Int)
theorem oneP_skip {l : List P3} {t x : Int} (h : x = 1099511627776) : oneP l t x = l := by unfold oneP; rw [if_pos h]
theorem oneP_nil {t x : Int} (h : x ≠ 1099511627776) : oneP [] t x = [] ++ [(t, t + 1, x)] := by unfold oneP; rw [if_neg h]; rfl
theorem oneP_more {l : List P3} {f t x : Int} (h : x ≠ 1099511627776) : oneP (l ++ [(f, t, x)]) t x = l ++ [(f, t + 1, x)] := by unfold oneP; rw [if_neg h]; simp
theorem oneP_new {l : List P3} {f t x t' x' : Int} (h : x ≠ 1099511627776) (hn : ¬ (t' = t /\ x' = x)) : oneP (l ++ [(f, t', x')]) t x = l ++ [(f, t', x')] ++ [(t, t + 1, x)] := by unfold oneP; rw [if_neg h]; simp [hn]
theorem oneP_len (l : List P3) (t x : Int) : (oneP l t x).length <= l.length + 1 := by
 unfold oneP
 split
 · omega
 · split
   · simp
   · split <;> simp <;> omega
theorem allP_len (g : Gr) (p : Nat) (fr : Int) (v : Nat) : ∀ k, (allP g p fr v k).length <= k
 | 0 => by simp [allP]
 | k + 1 => by
   have := oneP_len (allP g p fr v k) k ((plF g p fr k).1.getD v 0)
   have h2 := allP_len g p fr v k
   rw [allP]; omega
end Go.Proofs.YthgelfnflafoiabGreat.Q
