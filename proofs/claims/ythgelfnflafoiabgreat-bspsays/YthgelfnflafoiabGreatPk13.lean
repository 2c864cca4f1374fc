/-
  The law BspSays holds.
-/
import Derived.Test.YthgelfnflafoiabGreatPk12
namespace Go.Proofs.YthgelfnflafoiabGreat.Q
open Sim (Seq.prog)
open Go.RowKit
set_option maxRecDepth 100000 in
set_option maxHeartbeats 4000000 in
theorem pathOf_any (g : Gr) (la ea lo : Option Addr) (lc ec ln lcap p : Nat) (e : Ed) (l : Lg) (w : World) (hG : GAt w la ea g) (hA : 0 <= e.1 /\ e.1 < g.lives.length) (hB : 0 <= e.2.1 /\ e.2.1 < g.lives.length) (hp3 : p = 1 \/ p = 2 \/ p = 3) :
   Calls Seq.prog 32 #[.agg #[.int .i64 g.hor, .slice la g.lives.length lc, .slice ea g.edges.length ec], .agg #[.int .i64 e.1, .int .i64 e.2.1, .slice lo ln lcap], .agg #[.int .i64 l.1, .int .i64 l.2.1, .int .i64 l.2.2.1, .int .i64 l.2.2.2], .int .i64 p] w fun r w' => r = .returned (ptV (pthOf g p e l)) /\ Below w.heap.size w w' := by
 obtain ⟨ea1, eb1, elegs⟩ := e
 obtain ⟨l1, l2, l3, l4⟩ := l
 simp only at hA hB ⊢
 obtain ⟨A, rfl⟩ : ∃ A : Nat, ea1 = (A : Int) := ⟨ea1.toNat, by omega⟩
 obtain ⟨B, rfl⟩ : ∃ B : Nat, eb1 = (B : Int) := ⟨eb1.toNat, by omega⟩
 have hAn : A < g.lives.length := by omega
 have hBn : B < g.lives.length := by omega
 obtain ⟨lb, lof, rfl, hlb, hlc⟩ : ∃ b off, la = some ⟨b, off, none⟩ /\ b < w.heap.size /\ ∀ k (hk : k < g.lives.length), (w.cell? ⟨b, off + k * 2, none⟩ = some (.int .i64 g.lives[k].1) /\ w.cell? ⟨b, off + k * 2 + 1, none⟩ = some (.int .i64 g.lives[k].2)) := by
   rcases hG.lv with h0 | ⟨b, off, rfl, hbr, hc⟩
   · rw [h0] at hAn; simp at hAn
   exact ⟨b, off, rfl, hbr, fun k hk => IvAt.get hk hc⟩
 obtain ⟨a0, a1⟩ := hlc A hAn
 obtain ⟨b0, b1⟩ := hlc B hBn
 have eA : lifeOf g (A : Int) = (g.lives[A].1, g.lives[A].2) := by unfold lifeOf; rw [Int.toNat_natCast, List.getD_eq_getElem?_getD, List.getElem?_eq_getElem hAn]; rfl
 have eB : lifeOf g (B : Int) = (g.lives[B].1, g.lives[B].2) := by unfold lifeOf; rw [Int.toNat_natCast, List.getD_eq_getElem?_getD, List.getElem?_eq_getElem hBn]; rfl
 have HP : Hid (pthOf g p ((A : Int), (B : Int), elegs) (l1, l2, l3, l4) = ((A : Int), (B : Int), max l1 (max g.lives[A].1 g.lives[B].1), min l2 (min g.lives[A].2 g.lives[B].2), priceOf p ((A : Int), (B : Int), l4))) := by show _ = _; unfold pthOf; simp only; rw [eA, eB]
 obtain ⟨mx, hmx⟩ : ∃ m, m = (if (if l1 < g.lives[A].1 then g.lives[A].1 else l1) < g.lives[B].1 then g.lives[B].1 else (if l1 < g.lives[A].1 then g.lives[A].1 else l1)) := ⟨_, rfl⟩
 obtain ⟨mn, hmn⟩ : ∃ m, m = (if g.lives[B].2 < (if g.lives[A].2 < l2 then g.lives[A].2 else l2) then g.lives[B].2 else (if g.lives[A].2 < l2 then g.lives[A].2 else l2)) := ⟨_, rfl⟩
 have hmx2 : max l1 (max g.lives[A].1 g.lives[B].1) = mx := by rw [hmx]; split <;> split <;> omega
 have hmn2 : min l2 (min g.lives[A].2 g.lives[B].2) = mn := by rw [hmn]; split <;> split <;> omega
 rw [hmx2, hmn2] at HP
 have hmxs := hmx.symm
 have hmns := hmn.symm
 clear hmx hmn hmx2 hmn2
 generalize g.lives[A].1 = x1 at *
 generalize g.lives[A].2 = x2 at *
 generalize g.lives[B].1 = z1 at *
 generalize g.lives[B].2 = z2 at *
 clear eA eB hlc hG
 obtain ⟨w1, hw1⟩ : ∃ x, x = (((w.alloc (.cells #[.int .i64 g.hor, .slice (some ⟨lb, lof, none⟩) g.lives.length lc, .slice ea g.edges.length ec] 25)).alloc (.cells #[.int .i64 (A : Int), .int .i64 (B : Int), .slice lo ln lcap] 66)).alloc (.cells #[.int .i64 l1, .int .i64 l2, .int .i64 l3, .int .i64 l4] 68)).alloc (.cells #[.int .i64 0, .int .i64 0, .int .i64 0, .int .i64 0, .int .i64 0] 79) := ⟨_, rfl⟩
 have hb1 : Below w.heap.size w w1 := by rw [hw1]; exact ptg (ptg (ptg (gal _ _) (gal _ _)) (gal _ _)) (gal _ _)
 have hw1s := hw1.symm
 have hs1 : w1.heap.size = w.heap.size + 4 := by rw [hw1]; simp
 have k1 : w1.cell? ⟨w.heap.size, 1, none⟩ = some (.slice (some ⟨lb, lof, none⟩) g.lives.length lc) := by
   rw [hw1, (gal _ _).cell (by simp <;> omega), (gal _ _).cell (by simp <;> omega), (gal _ _).cell (by simp <;> omega)]; exact cell_newP rfl rfl
 have k2 : w1.cell? ⟨w.heap.size + 1, 0, none⟩ = some (.int .i64 (A : Int)) := by
   rw [hw1, (gal _ _).cell (by simp <;> omega), (gal _ _).cell (by simp <;> omega)]; exact cell_newP (by simp) rfl
 have k3 : w1.cell? ⟨w.heap.size + 1, 1, none⟩ = some (.int .i64 (B : Int)) := by
   rw [hw1, (gal _ _).cell (by simp <;> omega), (gal _ _).cell (by simp <;> omega)]; exact cell_newP (by simp) rfl
 have a0' := (hb1.cell (p := ⟨lb, lof + A * 2, none⟩) hlb).trans a0
 have a1' := (hb1.cell (p := ⟨lb, lof + A * 2 + 1, none⟩) hlb).trans a1
 have b0' := (hb1.cell (p := ⟨lb, lof + B * 2, none⟩) hlb).trans b0
 have b1' := (hb1.cell (p := ⟨lb, lof + B * 2 + 1, none⟩) hlb).trans b1
 have hAi : (A : Int) < (g.lives.length : Int) := by omega
 have hBi : (B : Int) < (g.lives.length : Int) := by omega
 have PB0 : PBx w w1 A B l1 l2 l4 := by
   refine ⟨?_, ?_, ?_, ?_, ?_, fun j hj => ?_, fun j => ?_, hb1, by omega⟩
   · exact k2
   · exact k3
   · rw [hw1, (gal _ _).cell (by simp <;> omega)]; exact cell_newP (by simp) rfl
   · rw [hw1, (gal _ _).cell (by simp <;> omega)]; exact cell_newP (by simp) rfl
   · rw [hw1, (gal _ _).cell (by simp <;> omega)]; exact cell_newP (by simp) rfl
   · rw [hw1]
     refine cell_newP (by simp) ?_
     match j, hj with
     | 0, _ => rfl
     | 1, _ => rfl
     | 2, _ => rfl
     | 3, _ => rfl
     | 4, _ => rfl
   · rw [hw1]; exact frozen_newP (by simp)
 clear a0 a1 b0 b1 hw1
 have u0 := fun o => ((gal w1 o).cell (p := ⟨w.heap.size, 1, none⟩) (by simp only; omega)).trans k1
 have v0 := fun o o' => ((ptg (gal w1 o) (gal _ o')).cell (p := ⟨w.heap.size, 1, none⟩) (by simp only; omega)).trans k1
 have u1 := fun o => ((gal w1 o).cell (p := ⟨w.heap.size + 1, 0, none⟩) (by simp only; omega)).trans k2
 have v1 := fun o o' => ((ptg (gal w1 o) (gal _ o')).cell (p := ⟨w.heap.size + 1, 0, none⟩) (by simp only; omega)).trans k2
 have u2 := fun o => ((gal w1 o).cell (p := ⟨w.heap.size + 1, 1, none⟩) (by simp only; omega)).trans k3
 have v2 := fun o o' => ((ptg (gal w1 o) (gal _ o')).cell (p := ⟨w.heap.size + 1, 1, none⟩) (by simp only; omega)).trans k3
 have u3 := fun o => ((gal w1 o).cell (p := ⟨lb, lof + A * 2, none⟩) (by simp only; omega)).trans a0'
 have v3 := fun o o' => ((ptg (gal w1 o) (gal _ o')).cell (p := ⟨lb, lof + A * 2, none⟩) (by simp only; omega)).trans a0'
 have u4 := fun o => ((gal w1 o).cell (p := ⟨lb, lof + A * 2 + 1, none⟩) (by simp only; omega)).trans a1'
 have v4 := fun o o' => ((ptg (gal w1 o) (gal _ o')).cell (p := ⟨lb, lof + A * 2 + 1, none⟩) (by simp only; omega)).trans a1'
 have u5 := fun o => ((gal w1 o).cell (p := ⟨lb, lof + B * 2, none⟩) (by simp only; omega)).trans b0'
 have v5 := fun o o' => ((ptg (gal w1 o) (gal _ o')).cell (p := ⟨lb, lof + B * 2, none⟩) (by simp only; omega)).trans b0'
 have u6 := fun o => ((gal w1 o).cell (p := ⟨lb, lof + B * 2 + 1, none⟩) (by simp only; omega)).trans b1'
 have v6 := fun o o' => ((ptg (gal w1 o) (gal _ o')).cell (p := ⟨lb, lof + B * 2 + 1, none⟩) (by simp only; omega)).trans b1'
 go_enter Seq.func32, Tryz.ntmps32
 go_wp2_with fail
 rename_i Q' K hK
 have TL : ∀ (pa pb : Nat) (W2 : World), PBx w W2 A B l1 l2 l4 -> W2.cell? ⟨pa, 0, none⟩ = some (.int .i64 x1) -> W2.cell? ⟨pa, 1, none⟩ = some (.int .i64 x2) -> W2.cell? ⟨pb, 0, none⟩ = some (.int .i64 z1) -> W2.cell? ⟨pb, 1, none⟩ = some (.int .i64 z2) -> W2.heap.size = w.heap.size + 6 -> K { tmps := #[.agg #[.int .i64 g.hor, .slice (some ⟨lb, lof, none⟩) g.lives.length lc, .slice ea g.edges.length ec], .agg #[.int .i64 (A : Int), .int .i64 (B : Int), .slice lo ln lcap], .agg #[.int .i64 l1, .int .i64 l2, .int .i64 l3, .int .i64 l4], .int .i64 (p : Int), .pointer (some ⟨w.heap.size, 0, none⟩), .pointer (some ⟨w.heap.size + 1, 0, none⟩), .pointer (some ⟨w.heap.size + 1 + 1, 0, none⟩), undef, .pointer (some ⟨w.heap.size + 1 + 1 + 1, 0, none⟩), .pointer (some ⟨pa, 0, none⟩), .pointer (some ⟨pb, 0, none⟩), undef, .pointer (some ⟨w.heap.size, 1, none⟩), .slice (some ⟨lb, lof, none⟩) g.lives.length lc, .pointer (some ⟨w.heap.size + 1, 0, none⟩), .int .i64 (A : Int), .pointer (some ⟨lb, lof + A * 2, none⟩), .agg #[.int .i64 x1, .int .i64 x2], .pointer (some ⟨w.heap.size, 1, none⟩), .slice (some ⟨lb, lof, none⟩) g.lives.length lc, .pointer (some ⟨w.heap.size + 1, 1, none⟩), .int .i64 (B : Int), .pointer (some ⟨lb, lof + B * 2, none⟩), .agg #[.int .i64 z1, .int .i64 z2], undef, undef, undef, undef, undef, undef, undef, undef, undef, undef, undef, undef, undef, undef, undef, undef, undef, undef, undef, undef, undef, undef, undef, undef, undef, undef, undef, undef, undef], defers := [] } W2 := by
   intro pa pb W2 F q0 q1 q2 q3 hs2
   refine hK _ _ ?_
   have e0 := F.e0
   have e1 := F.e1
   have l0 := F.l0
   have l1' := F.l1
   have l3' := F.l3
   have r0 := F.r 0 (by omega)
   have r1 := F.r 1 (by omega)
   have r2 := F.r 2 (by omega)
   have r3 := F.r 3 (by omega)
   have r4 := F.r 4 (by omega)
   have fz := F.fz
   have HBW := hideg F.bel
   clear hK F PB0 u0 u1 u2 u3 u4 u5 u6 v0 v1 v2 v3 v4 v5 v6 k1 k2 k3 a0' a1' b0' b1' hw1s hs1 hb1
   rcases hp3 with rfl | rfl | rfl
   · have HV : Hid (pthOf g 1 ((A : Int), (B : Int), elegs) (l1, l2, l3, l4) = ((A : Int), (B : Int), mx, mn, 1)) := by show _ = _; rw [HP.out]; rfl
     go_wp2
     obtain ⟨t0, t1, t2, t3, t4⟩ := got5P (.int .i64 (A : Int)) (.int .i64 (B : Int)) (.int .i64 mx) (.int .i64 mn) (.int .i64 1) (.cells #[.int .i64 (A : Int), .int .i64 (B : Int), .int .i64 mx, .int .i64 mn, .int .i64 1] 79) r0 r4
     refine bodyPost_ret (v := ptV ((A : Int), (B : Int), mx, mn, 1)) (by simp [results, Tryz.results32, go_sem, ptV, t0, t1, t2, t3, t4]) rfl ⟨by rw [HV.out], ?_⟩
     exact set5P HBW.out (by omega) _ _ _ _ _ _
   · have HV : Hid (pthOf g 2 ((A : Int), (B : Int), elegs) (l1, l2, l3, l4) = ((A : Int), (B : Int), mx, mn, l4)) := by show _ = _; rw [HP.out]; rfl
     go_wp2
     obtain ⟨t0, t1, t2, t3, t4⟩ := got5P (.int .i64 (A : Int)) (.int .i64 (B : Int)) (.int .i64 mx) (.int .i64 mn) (.int .i64 l4) (.cells #[.int .i64 (A : Int), .int .i64 (B : Int), .int .i64 mx, .int .i64 mn, .int .i64 l4] 79) r0 r4
     refine bodyPost_ret (v := ptV ((A : Int), (B : Int), mx, mn, l4)) (by simp [results, Tryz.results32, go_sem, ptV, t0, t1, t2, t3, t4]) rfl ⟨by rw [HV.out], ?_⟩
     exact set5P HBW.out (by omega) _ _ _ _ _ _
   · have HV : Hid (pthOf g 3 ((A : Int), (B : Int), elegs) (l1, l2, l3, l4) = ((A : Int), (B : Int), mx, mn, 0)) := by show _ = _; rw [HP.out]; rfl
     go_wp2
     obtain ⟨t0, t1, t2, t3, t4⟩ := got5P (.int .i64 (A : Int)) (.int .i64 (B : Int)) (.int .i64 mx) (.int .i64 mn) (.int .i64 0) (.cells #[.int .i64 (A : Int), .int .i64 (B : Int), .int .i64 mx, .int .i64 mn, .int .i64 0] 79) r0 r4
     refine bodyPost_ret (v := ptV ((A : Int), (B : Int), mx, mn, 0)) (by simp [results, Tryz.results32, go_sem, ptV, t0, t1, t2, t3, t4]) rfl ⟨by rw [HV.out], ?_⟩
     exact set5P HBW.out (by omega) _ _ _ _ _ _
 go_region
 · obtain ⟨W2, hW2⟩ : ∃ x, x = ((w1.alloc (.cells #[.int .i64 x1, .int .i64 x2] 63)).alloc (.cells #[.int .i64 z1, .int .i64 z2] 63)).drew := ⟨_, rfl⟩
   have hB2 : Below w1.heap.size w1 W2 := by rw [hW2]; exact (ptg (gal w1 _) (gal _ _)).drew
   have q0 : W2.cell? ⟨w.heap.size + 4, 0, none⟩ = some (.int .i64 x1) := by rw [hW2]; exact (((gal _ _).cell (by simp <;> omega)).trans (cell_newP (by omega) rfl))
   have q1 : W2.cell? ⟨w.heap.size + 4, 1, none⟩ = some (.int .i64 x2) := by rw [hW2]; exact (((gal _ _).cell (by simp <;> omega)).trans (cell_newP (by omega) rfl))
   have q2 : W2.cell? ⟨w.heap.size + 4 + 1, 0, none⟩ = some (.int .i64 z1) := by rw [hW2]; exact (cell_newP (by simp; omega) rfl)
   have q3 : W2.cell? ⟨w.heap.size + 4 + 1, 1, none⟩ = some (.int .i64 z2) := by rw [hW2]; exact (cell_newP (by simp; omega) rfl)
   have hs2 : W2.heap.size = w.heap.size + 6 := by rw [hW2]; simp [World.drew, hs1]
   rw [<- hW2]
   exact TL _ _ W2 (PB0.below hB2) q0 q1 q2 q3 hs2
 · obtain ⟨W2, hW2⟩ : ∃ x, x = ((w1.alloc (.cells #[.int .i64 z1, .int .i64 z2] 63)).alloc (.cells #[.int .i64 x1, .int .i64 x2] 63)).drew := ⟨_, rfl⟩
   have hB2 : Below w1.heap.size w1 W2 := by rw [hW2]; exact (ptg (gal w1 _) (gal _ _)).drew
   have q0 : W2.cell? ⟨w.heap.size + 4 + 1, 0, none⟩ = some (.int .i64 x1) := by rw [hW2]; exact (cell_newP (by simp; omega) rfl)
   have q1 : W2.cell? ⟨w.heap.size + 4 + 1, 1, none⟩ = some (.int .i64 x2) := by rw [hW2]; exact (cell_newP (by simp; omega) rfl)
   have q2 : W2.cell? ⟨w.heap.size + 4, 0, none⟩ = some (.int .i64 z1) := by rw [hW2]; exact (((gal _ _).cell (by simp <;> omega)).trans (cell_newP (by omega) rfl))
   have q3 : W2.cell? ⟨w.heap.size + 4, 1, none⟩ = some (.int .i64 z2) := by rw [hW2]; exact (((gal _ _).cell (by simp <;> omega)).trans (cell_newP (by omega) rfl))
   have hs2 : W2.heap.size = w.heap.size + 6 := by rw [hW2]; simp [World.drew, hs1]
   rw [<- hW2]
   exact TL _ _ W2 (PB0.below hB2) q0 q1 q2 q3 hs2
theorem Tryz.infoPath : (Seq.prog.info? 79).map (fun i => (i.zero, i.size, i.bytes)) = some (some (.agg #[.int .i64 0, .int .i64 0, .int .i64 0, .int .i64 0, .int .i64 0]), 5, 40) := by kernel_rfl
def pthE (g : Gr) (p : Nat) (e : Ed) (j : Nat) : List Pt := (e.2.2.take j).flatMap fun l => pthsL g p e l
def pthG (g : Gr) (p : Nat) (k : Nat) : List Pt := (g.edges.take k).flatMap fun e => e.2.2.flatMap fun l => pthsL g p e l
theorem pthE_succ (g : Gr) (p : Nat) (e : Ed) {j : Nat} (hj : j < e.2.2.length) : pthE g p e (j + 1) = pthE g p e j ++ pthsL g p e e.2.2[j] := by
 unfold pthE; rw [List.take_succ_eq_append_getElem hj, List.flatMap_append, List.flatMap_singleton]
theorem pthE_all (g : Gr) (p : Nat) (e : Ed) : pthE g p e e.2.2.length = e.2.2.flatMap fun l => pthsL g p e l := by unfold pthE; rw [List.take_length]
theorem pthG_succ (g : Gr) (p : Nat) {k : Nat} (hk : k < g.edges.length) : pthG g p (k + 1) = pthG g p k ++ pthE g p g.edges[k] g.edges[k].2.2.length := by
 rw [pthE_all]; unfold pthG; rw [List.take_succ_eq_append_getElem hk, List.flatMap_append, List.flatMap_singleton]
theorem pthG_all (g : Gr) (p : Nat) : pthG g p g.edges.length = pathsF g p := by unfold pthG pathsF; rw [List.take_length]
theorem pthG_len {g : Gr} (h0 : gChk g = 0) (p k : Nat) : (pthG g p k).length <= 360 := by
 have R := gChk_right h0
 have h1 := flat_len (fun e : Ed => e.2.2.flatMap fun l => pthsL g p e l) 12 (g.edges.take k) (fun e he => by
   have h2 := flat_len (fun l => pthsL g p e l) 2 e.2.2 (fun l _ => pthsL_len g p e l)
   have h3 := (R.ends e (List.mem_of_mem_take he)).2.2
   omega)
 have h4 := R.eds
 have h5 : (g.edges.take k).length <= g.edges.length := by rw [List.length_take]; omega
 unfold pthG
 omega
theorem pthE_len {g : Gr} (p : Nat) {e : Ed} (he : e.2.2.length <= 6) (j : Nat) : (pthE g p e j).length <= 12 := by
 have h2 := flat_len (fun l => pthsL g p e l) 2 (e.2.2.take j) (fun l _ => pthsL_len g p e l)
 have h5 : (e.2.2.take j).length <= e.2.2.length := by rw [List.length_take]; omega
 unfold pthE
 omega
set_option maxRecDepth 100000 in
set_option maxHeartbeats 4000000 in
theorem bsPaths_any (g : Gr) (la ea : Option Addr) (lc ec p : Nat) (h0 : gChk g = 0) (hp3 : p = 1 \/ p = 2 \/ p = 3) : PathsOk g la ea lc ec p := by
 intro w hG
 obtain ⟨i0, hi, hz0, hz1, hz2⟩ := info_parts Tryz.infoPath
 obtain ⟨w1, hw1⟩ : ∃ x, x = w.alloc (.cells #[.int .i64 g.hor, .slice la g.lives.length lc, .slice ea g.edges.length ec] 25) := ⟨_, rfl⟩
 have B0 : GBox w w1 w.heap.size g la ea lc ec := by rw [hw1]; exact gbox_start w g la ea lc ec 25
 have R := gChk_right h0
 have hed := R.eds
 have HRt := hideg R
 have HG := hideg hG
 have H0 := hideg h0
 have HB1 := hideg B0
 have g0 := B0.c0
 have g2 := B0.c2
 have hw1s := hw1.symm
 clear hG B0 hw1 R h0
 go_enter Seq.func18, Tryz.ntmps18
 go_wp2_with fail
 clear hw1s
 go_loopw [5, 14] (fun u d wr => ∃ k : Nat, k <= g.edges.length /\ d = .int .i64 (k : Int) /\ wr.ownsRow w1.heap.size 79 5 u (pthG g p k).length (encPs (pthG g p k)) /\ Below w1.heap.size w1 wr) (fun _ d _ => g.edges.length - (intOf d).toNat)
 case atStart => exact ⟨0, by omega, by simp, World.ownsRow_nil _ _ _ _, Below.refl _ _⟩
 case round =>
   clear g0 g2
   obtain ⟨k, hk, rfl, hown, hb⟩ := hrel
   have BR := HB1.out.below hb
   have hol := pthG_len H0.out p k
   by_cases hkl : k < g.edges.length
   · obtain ⟨b, off, lo, lcap, rfl, hbr, c0, c1, c2, hL⟩ : ∃ b off lo lcap, ea = some ⟨b, off, none⟩ /\ b < w.heap.size /\ w.cell? ⟨b, off + k * 3, none⟩ = some (.int .i64 g.edges[k].1) /\ w.cell? ⟨b, off + k * 3 + 1, none⟩ = some (.int .i64 g.edges[k].2.1) /\ w.cell? ⟨b, off + k * 3 + 2, none⟩ = some (.slice lo g.edges[k].2.2.length lcap) /\ LgAt w lo g.edges[k].2.2 := by
       rcases HG.out.ed with h0 | ⟨b, off, rfl, hbr, hc⟩
       · rw [h0] at hkl; simp at hkl
       obtain ⟨c0, c1, lo, lcap, c2, hL, _, _⟩ := hc k hkl
       exact ⟨b, off, lo, lcap, rfl, hbr, c0, c1, c2, hL⟩
     have e0 := (BR.bel.cell (p := ⟨b, off + k * 3, none⟩) hbr).trans c0
     have e1 := (BR.bel.cell (p := ⟨b, off + k * 3 + 1, none⟩) hbr).trans c1
     have e2 := (BR.bel.cell (p := ⟨b, off + k * 3 + 2, none⟩) hbr).trans c2
     have HL := hideg hL
     obtain ⟨hA, hBe, hlen⟩ := HRt.out.ends _ (List.getElem_mem hkl)
     have HS := hideg (pthG_succ g p hkl)
     generalize g.edges[k] = ed at *
     obtain ⟨wb, hwb⟩ : ∃ x, x = wr.alloc (.cells #[.int .i64 ed.1, .int .i64 ed.2.1, .slice lo ed.2.2.length lcap] 66) := ⟨_, rfl⟩
     have hbw : Below wr.heap.size wr wb := by rw [hwb]; exact gal _ _
     obtain ⟨Eb, hEb⟩ : ∃ x, x = wr.heap.size := ⟨_, rfl⟩
     have hE0 : wb.heap[Eb]? = some (.cells #[.int .i64 ed.1, .int .i64 ed.2.1, .slice lo ed.2.2.length lcap] 66) := by rw [hwb, hEb]; show (wr.heap.push _)[_]? = _; simp
     have f2 : wb.cell? ⟨Eb, 2, none⟩ = some (.slice lo ed.2.2.length lcap) := by simp [World.cell?, hE0]
     have hown0 := ownsRow_below hown hbw
     have hne0 : u5.ownBlock ≠ some Eb := fun e => by have := (hown.lt _ e).2; omega
     have hb0 : Below w1.heap.size w1 wb := hb.trans (hbw.mono hb.size)
     have hwbs := hwb.symm
     have hEbs := hEb.symm
     obtain ⟨out, hout⟩ : ∃ o, o = pthG g p k := ⟨_, rfl⟩
     rw [<- hout] at hown0 hol HS
     have g2 := BR.c2
     clear hown hwb hEb c0 c1 c2 hL BR hb hbw
     go_wp2_with fail
     clear hwbs e0 e1 e2 g2
     go_loopw [5, 21] (fun u i ws => ∃ j : Nat, j <= ed.2.2.length /\ i = .int .i64 (j : Int) /\ ws.ownsRow w1.heap.size 79 5 u (out ++ pthE g p ed j).length (encPs (out ++ pthE g p ed j)) /\ Below w1.heap.size w1 ws /\ ws.heap[Eb]? = some (.cells #[.int .i64 ed.1, .int .i64 ed.2.1, .slice lo ed.2.2.length lcap] 66) /\ u.ownBlock ≠ some Eb) (fun _ i _ => ed.2.2.length - (intOf i).toNat)
     case atStart => exact ⟨0, Nat.zero_le _, rfl, by simpa [pthE] using hown0, hb0, hE0, hne0⟩
     case round =>
       clear hown0 hb0 hE0 hne0 f2
       obtain ⟨j, hj, rfl, hown, hb, hEd, hne⟩ := hrel
       have BR := HB1.out.below hb
       have hoe := pthE_len (g := g) p hlen j
       by_cases hjl : j < ed.2.2.length
       · obtain ⟨b2, off2, rfl, hb2, l0, l1, l2, l3⟩ : ∃ b2 off2, lo = some ⟨b2, off2, none⟩ /\ b2 < w.heap.size /\ w.cell? ⟨b2, off2 + j * 4, none⟩ = some (.int .i64 ed.2.2[j].1) /\ w.cell? ⟨b2, off2 + j * 4 + 1, none⟩ = some (.int .i64 ed.2.2[j].2.1) /\ w.cell? ⟨b2, off2 + j * 4 + 2, none⟩ = some (.int .i64 ed.2.2[j].2.2.1) /\ w.cell? ⟨b2, off2 + j * 4 + 3, none⟩ = some (.int .i64 ed.2.2[j].2.2.2) := by
           rcases HL.out with h0 | ⟨b2, off2, rfl, hlt, hc⟩
           · rw [h0] at hjl; simp at hjl
           · have h1 := hc j hjl
             have e : ed.2.2.getD j (0, 0, 0, 0) = ed.2.2[j] := by rw [List.getD_eq_getElem?_getD, List.getElem?_eq_getElem hjl]; rfl
             rw [e] at h1
             exact ⟨b2, off2, rfl, hlt, h1⟩
         have m0 := (BR.bel.cell (p := ⟨b2, off2 + j * 4, none⟩) hb2).trans l0
         have m1 := (BR.bel.cell (p := ⟨b2, off2 + j * 4 + 1, none⟩) hb2).trans l1
         have m2 := (BR.bel.cell (p := ⟨b2, off2 + j * 4 + 2, none⟩) hb2).trans l2
         have m3 := (BR.bel.cell (p := ⟨b2, off2 + j * 4 + 3, none⟩) hb2).trans l3
         have HES := hideg (pthE_succ g p ed hjl)
         generalize ed.2.2[j] = l at *
         obtain ⟨wl, hwl⟩ : ∃ x, x = wr.alloc (.cells #[.int .i64 l.1, .int .i64 l.2.1, .int .i64 l.2.2.1, .int .i64 l.2.2.2] 68) := ⟨_, rfl⟩
         have hbl : Below wr.heap.size wr wl := by rw [hwl]; exact gal _ _
         have BL := BR.below hbl
         have hEl : Eb < wr.heap.size := (Array.getElem?_eq_some_iff.1 hEd).1
         have hEd1 := (hbl.block Eb hEl).trans hEd
         have ga0 := BL.c0
         have ga1 := BL.c1
         have ga2 := BL.c2
         have ge0 : wl.cell? ⟨Eb, 0, none⟩ = some (.int .i64 ed.1) := by simp [World.cell?, hEd1]
         have ge1 : wl.cell? ⟨Eb, 1, none⟩ = some (.int .i64 ed.2.1) := by simp [World.cell?, hEd1]
         have ge2 : wl.cell? ⟨Eb, 2, none⟩ = some (.slice (some ⟨b2, off2, none⟩) ed.2.2.length lcap) := by simp [World.cell?, hEd1]
         have gl0 : wl.cell? ⟨wr.heap.size, 0, none⟩ = some (.int .i64 l.1) := by rw [hwl]; exact cell_newP rfl rfl
         have gl1 : wl.cell? ⟨wr.heap.size, 1, none⟩ = some (.int .i64 l.2.1) := by rw [hwl]; exact cell_newP rfl rfl
         have gl2 : wl.cell? ⟨wr.heap.size, 2, none⟩ = some (.int .i64 l.2.2.1) := by rw [hwl]; exact cell_newP rfl rfl
         have gl3 : wl.cell? ⟨wr.heap.size, 3, none⟩ = some (.int .i64 l.2.2.2) := by rw [hwl]; exact cell_newP rfl rfl
         have hcl := pathOf_any g la (some ⟨b, off, none⟩) (some ⟨b2, off2, none⟩) lc ec ed.2.2.length lcap p ed l wl (HG.out.below BL.bel) hA hBe hp3
         have hwls := hwl.symm
         have HEd := hideg hEd
         have HEl := hideg hEl
         have HNe := hideg hne
         have HBl := hideg hbl
         have HBb := hideg hb
         have HBR := hideg BR
         clear hEd hEl hne hEd1 hbl hb BL BR hwl
         go_wp2_with fail
         refine hcl.mono ?_
         rintro e w3 ⟨rfl, hb3⟩
         have hEd := HEd.out
         have hEl := HEl.out
         have hne := HNe.out
         have hbl := HBl.out
         have hb := HBb.out
         have HPT : Hid (pthsL g p ed l = if (pthOf g p ed l).2.2.2.1 <= (pthOf g p ed l).2.2.1 then [] else if p = 3 then [pthOf g p ed l, ((pthOf g p ed l).2.1, (pthOf g p ed l).1, (pthOf g p ed l).2.2)] else [pthOf g p ed l]) := rfl
         generalize pthOf g p ed l = π at *
         generalize pthsL g p ed l = nx at *
         obtain ⟨w4, hw4⟩ : ∃ x, x = w3.alloc (.cells #[.int .i64 π.1, .int .i64 π.2.1, .int .i64 π.2.2.1, .int .i64 π.2.2.2.1, .int .i64 π.2.2.2.2] 79) := ⟨_, rfl⟩
         have hb4 : Below wr.heap.size wr w4 := by rw [hw4]; exact ptg (ptg hbl hb3) (gal w3 _)
         have hP4 : w4.heap[w3.heap.size]? = some (.cells #[.int .i64 π.1, .int .i64 π.2.1, .int .i64 π.2.2.1, .int .i64 π.2.2.2.1, .int .i64 π.2.2.2.2] 79) := by rw [hw4]; show (w3.heap.push _)[_]? = _; simp
         have x0 : w4.cell? ⟨w3.heap.size, 0, none⟩ = some (.int .i64 π.1) := by simp [World.cell?, hP4]
         have x1 : w4.cell? ⟨w3.heap.size, 1, none⟩ = some (.int .i64 π.2.1) := by simp [World.cell?, hP4]
         have x2 : w4.cell? ⟨w3.heap.size, 2, none⟩ = some (.int .i64 π.2.2.1) := by simp [World.cell?, hP4]
         have x3 : w4.cell? ⟨w3.heap.size, 3, none⟩ = some (.int .i64 π.2.2.2.1) := by simp [World.cell?, hP4]
         have x4 : w4.cell? ⟨w3.heap.size, 4, none⟩ = some (.int .i64 π.2.2.2.2) := by simp [World.cell?, hP4]
         have hs3 : wr.heap.size <= w3.heap.size := (ptg hbl hb3).size
         have hs4 : w4.heap.size = w3.heap.size + 1 := by rw [hw4]; simp
         have o1 := ownsRow_below hown hb4
         have o2 : Below w1.heap.size w1 w4 := hb.trans (hb4.mono hb.size)
         have hE4 := (hb4.block Eb hEl).trans hEd
         have hul := fun z (e : u5.ownBlock = some z) => (hown.lt z e).2
         have hw4s := hw4.symm
         clear hcl hwls ga0 ga1 ga2 ge0 ge1 ge2 gl0 gl1 gl2 gl3 m0 m1 m2 m3 l0 l1 l2 l3 hw4 hown hb hEd hbl hb3 hb4
         by_cases hle : π.2.2.2.1 <= π.2.2.1
         · have hnx : nx = [] := by rw [HPT.out, if_pos hle]
           have hd : decide (π.2.2.2.1 <= π.2.2.1) = true := by simpa using hle
           have HO := hideg o1
           have HO2 := hideg o2
           have HE4 := hideg hE4
           have HHS := hideg HES.out
           clear o1 o2 hE4
           unfold ptV
           go_wp2_with fail
           exact ⟨⟨j + 1, by omega, by go_num, by rw [HES.out, hnx, List.append_nil]; exact HO.out, HO2.out, HE4.out, HNe.out⟩, by simp [intOf]; omega⟩
         · have hd : decide (π.2.2.2.1 <= π.2.2.1) = false := by simpa using hle
           have hs5 := o2.size
           have hll : (out ++ pthE g p ed j).length <= 400 := by rw [List.length_append]; omega
           have HBg : Hid (∀ (o : Obj) (w5 : World), (w4.alloc o).grownBy w5 u5.ownBlock -> Below w1.heap.size w1 w5) := fun o w5 hgr => (o2.alloc o2.size o).grown hgr (by have := o2.size; simp at this ⊢; omega) (fun k hk => (o1.lt k hk).1)
           have HGe : Hid (∀ (o : Obj) (w5 : World), (w4.alloc o).grownBy w5 u5.ownBlock -> ∀ q, q < w4.heap.size -> u5.ownBlock ≠ some q -> w5.heap[q]? = w4.heap[q]?) := fun o w5 hgr q hq hn => (hgr.block q (by simp; omega) (Ne.symm hn)).trans ((gal w4 o).block q hq)
           have HEn : Hid (Eb < w4.heap.size) := by show _ < _; omega
           have HPb : Hid (u5.ownBlock ≠ some w3.heap.size) := fun e => by have := hul _ e; omega
           have HO := hideg o1
           have HE4 := hideg hE4
           have HP4 := hideg hP4
           clear o1 o2 hE4 hP4 hul hEl hne
           by_cases p3 : p = 3
           · have p3i : ((p : Int) == 3) = true := by simp; omega
             have hnx : nx = [π, (π.2.1, π.1, π.2.2)] := by rw [HPT.out, if_neg hle, if_pos p3]
             clear p3
             have hs43 : w3.heap.size < w4.heap.size := by omega
             have hs1r := HBb.out.size
             unfold ptV
             go_wp2_with (at_builtin; refine stopHereB ?_)
             refine hideg ?_
             refine wpList_append_own_at _ rfl _ _ 53 rfl w1.heap.size 79 i0 _ 5 40 ((Seq.pu 53).trans Tryz.underlying53) hi hz0 hz1 hz2 rfl (by decide) _ _ _ rfl (World.ownsRow.alloc (w := w4) HO.out _) ⟨w3.heap.size + 1, 0, none⟩ 1 1 [.int .i64 π.1, .int .i64 π.2.1, .int .i64 π.2.2.1, .int .i64 π.2.2.2.1, .int .i64 π.2.2.2.2] rfl rfl (cells_five_new _ _ _ _ _ _ _ _ hs4.symm) (by intro u hu; simp at hu; rcases hu with rfl | rfl | rfl | rfl | rfl <;> rfl) (by unfold maxLen; omega) (by omega) (by simp; omega) ?_
             intro v' w5 hown5 hgrow _ hat
             have hb5 := HBg.out _ _ hgrow
             have hE5 := (HGe.out _ _ hgrow Eb HEn.out HNe.out).trans HE4.out
             have hP5 := (HGe.out _ _ hgrow w3.heap.size hs43 HPb.out).trans HP4.out
             have hn5 : v'.ownBlock ≠ some Eb := fun e => by
               rcases hat with h | h
               · exact HNe.out (h.symm.trans e)
               · rw [h] at e; simp at e; have := HEn.out; omega
             have hq5 : v'.ownBlock ≠ some w3.heap.size := fun e => by
               rcases hat with h | h
               · exact HPb.out (h.symm.trans e)
               · rw [h] at e; simp at e; omega
             have hEP : w3.heap.size ≠ Eb := fun e => by rw [e] at hP5; rw [hP5] at hE5; simp at hE5
             have hs35 : w3.heap.size < w5.heap.size := (Array.getElem?_eq_some_iff.1 hP5).1
             have y0 : w5.cell? ⟨w3.heap.size, 0, none⟩ = some (.int .i64 π.1) := by simp [World.cell?, hP5]
             have y1 : w5.cell? ⟨w3.heap.size, 1, none⟩ = some (.int .i64 π.2.1) := by simp [World.cell?, hP5]
             have yf : ∀ q, w5.frozen? ⟨w3.heap.size, q, none⟩ = false := fun q => by simp [World.frozen?, hP5]
             obtain ⟨w6, hw6⟩ : ∃ x, x = (w5.setCell ⟨w3.heap.size, 0, none⟩ (.int .i64 π.2.1)).setCell ⟨w3.heap.size, 1, none⟩ (.int .i64 π.1) := ⟨_, rfl⟩
             have hP6 : w6.heap[w3.heap.size]? = some (.cells #[.int .i64 π.2.1, .int .i64 π.1, .int .i64 π.2.2.1, .int .i64 π.2.2.2.1, .int .i64 π.2.2.2.2] 79) := by rw [hw6]; exact Sim.setCell_this (Sim.setCell_this hP5)
             have hs6 : w6.heap.size = w5.heap.size := by rw [hw6]; simp [World.setCell]
             have R6 := ownsRow_setBox (j := 1) (u := .int .i64 π.1) (ownsRow_setBox (j := 0) (u := .int .i64 π.2.1) hown5 hq5) hq5
             rw [<- hw6] at R6
             have hb6 : Below w1.heap.size w1 w6 := by rw [hw6]; exact (hb5.setCell (p := ⟨w3.heap.size, 0, none⟩) (by simp only; omega) _).setCell (p := ⟨w3.heap.size, 1, none⟩) (by simp only; omega) _
             have hE6 : w6.heap[Eb]? = some (.cells #[.int .i64 ed.1, .int .i64 ed.2.1, .slice (some ⟨b2, off2, none⟩) ed.2.2.length lcap] 66) := by rw [hw6, Sim.setCell_other (by exact hEP), Sim.setCell_other (by exact hEP)]; exact hE5
             have z0 : w6.cell? ⟨w3.heap.size, 0, none⟩ = some (.int .i64 π.2.1) := by simp [World.cell?, hP6]
             have z1 : w6.cell? ⟨w3.heap.size, 1, none⟩ = some (.int .i64 π.1) := by simp [World.cell?, hP6]
             have z2 : w6.cell? ⟨w3.heap.size, 2, none⟩ = some (.int .i64 π.2.2.1) := by simp [World.cell?, hP6]
             have z3 : w6.cell? ⟨w3.heap.size, 3, none⟩ = some (.int .i64 π.2.2.2.1) := by simp [World.cell?, hP6]
             have z4 : w6.cell? ⟨w3.heap.size, 4, none⟩ = some (.int .i64 π.2.2.2.2) := by simp [World.cell?, hP6]
             have hs7 := hb6.size
             have hw6s := hw6.symm
             have HR6 := hideg R6
             have HB6 := hideg hb6
             have HE6 := hideg hE6
             have HN5 := hideg hn5
             have HE6l : Hid (Eb < w6.heap.size) := (Array.getElem?_eq_some_iff.1 hE6).1
             clear hgrow hat hown5 hb5 hE5 hP5 hn5 hq5 hEP x0 x1 x2 x3 x4 hw4s hw6 hP6 R6 hb6 hE6
             go_wp2_with (at_builtin; refine stopHereB ?_)
             refine hideg ?_
             refine wpList_append_own_at _ rfl _ _ 53 rfl w1.heap.size 79 i0 _ 5 40 ((Seq.pu 53).trans Tryz.underlying53) hi hz0 hz1 hz2 rfl (by decide) _ _ _ rfl (World.ownsRow.alloc (w := w6) HR6.out _) ⟨w5.heap.size, 0, none⟩ 1 1 [.int .i64 π.2.1, .int .i64 π.1, .int .i64 π.2.2.1, .int .i64 π.2.2.2.1, .int .i64 π.2.2.2.2] rfl rfl (cells_five_new _ _ _ _ _ _ _ _ hs6.symm) (by intro u hu; simp at hu; rcases hu with rfl | rfl | rfl | rfl | rfl <;> rfl) (by unfold maxLen; omega) (by omega) (by simp; omega) ?_
             intro v7 w7 hown7 hgrow7 _ hat7
             have hb7 : Below w1.heap.size w1 w7 := (HB6.out.alloc HB6.out.size _).grown hgrow7 (by have := HB6.out.size; simp at this ⊢; omega) (fun k hk => (HR6.out.lt k hk).1)
             have hE7 := ((hgrow7.block Eb (by simp; have := HE6l.out; omega) (Ne.symm HN5.out)).trans ((gal w6 _).block Eb HE6l.out)).trans HE6.out
             have hn7 : v7.ownBlock ≠ some Eb := fun e => by
               rcases hat7 with h | h
               · exact HN5.out (h.symm.trans e)
               · rw [h] at e; simp at e; have := HE6l.out; omega
             have R7 : w7.ownsRow w1.heap.size 79 5 v7 (out ++ pthE g p ed (j + 1)).length (encPs (out ++ pthE g p ed (j + 1))) := by
               rw [HES.out, hnx, <- List.append_assoc, show ([π, (π.2.1, π.1, π.2.2)] : List Pt) = [π] ++ [(π.2.1, π.1, π.2.2)] from rfl, <- List.append_assoc, encPs_append, encPs_append, List.length_append, List.length_append]; exact hown7
             have HF := hideg (And.intro R7 (And.intro hb7 (And.intro hE7 hn7)))
             clear hgrow7 hat7 hown7 R7 hb7 hE7 hn7 z0 z1 z2 z3 z4 hw6s hs4 hs6 hs7
             go_wp2_with fail
             exact ⟨⟨j + 1, by omega, by go_num, HF.out.1, HF.out.2.1, HF.out.2.2.1, HF.out.2.2.2⟩, by simp [intOf]; omega⟩
           · have p3i : ((p : Int) == 3) = false := by simp; omega
             have hnx : nx = [π] := by rw [HPT.out, if_neg hle, if_neg p3]
             unfold ptV
             go_wp2_with (at_builtin; refine stopHereB ?_)
             refine hideg ?_
             refine wpList_append_own_at _ rfl _ _ 53 rfl w1.heap.size 79 i0 _ 5 40 ((Seq.pu 53).trans Tryz.underlying53) hi hz0 hz1 hz2 rfl (by decide) _ _ _ rfl (World.ownsRow.alloc (w := w4) HO.out _) ⟨w3.heap.size + 1, 0, none⟩ 1 1 [.int .i64 π.1, .int .i64 π.2.1, .int .i64 π.2.2.1, .int .i64 π.2.2.2.1, .int .i64 π.2.2.2.2] rfl rfl (cells_five_new _ _ _ _ _ _ _ _ hs4.symm) (by intro u hu; simp at hu; rcases hu with rfl | rfl | rfl | rfl | rfl <;> rfl) (by unfold maxLen; omega) (by omega) (by simp; omega) ?_
             intro v' w5 hown5 hgrow _ hat
             have hb5 := HBg.out _ _ hgrow
             have R5 : w5.ownsRow w1.heap.size 79 5 v' (out ++ pthE g p ed (j + 1)).length (encPs (out ++ pthE g p ed (j + 1))) := by rw [HES.out, hnx, <- List.append_assoc, encPs_append, List.length_append]; exact hown5
             have hE5 := (HGe.out _ _ hgrow Eb HEn.out HNe.out).trans HE4.out
             have hn5 : v'.ownBlock ≠ some Eb := fun e => by
               rcases hat with h | h
               · exact HNe.out (h.symm.trans e)
               · rw [h] at e; simp at e; have := HEn.out; omega
             have HF := hideg (And.intro R5 (And.intro hb5 (And.intro hE5 hn5)))
             clear hgrow hat hown5 R5 hb5 hE5 hn5 x0 x1 x2 x3 x4 hw4s
             go_wp2_with fail
             exact ⟨⟨j + 1, by omega, by go_num, HF.out.1, HF.out.2.1, HF.out.2.2.1, HF.out.2.2.2⟩, by simp [intOf]; omega⟩
       · have hjn : j = ed.2.2.length := by omega
         subst hjn
         rw [<- HS.out] at hown
         clear BR
         go_wp2
         go_roundw
         case rel => exact ⟨k + 1, by omega, by go_num, hown, hb⟩
         case measure => simp [intOf]; omega
   · have hke : k = g.edges.length := by omega
     subst hke
     rw [pthG_all] at hown
     have R := owns_base2 hown HB1.out.bel.size
     have hbF := BR.bel
     clear hown BR
     go_wp2
     go_ret
     exact ⟨_, rfl, R, hbF⟩
open Crw (Ready DeadAt zqs)
open Sim (Zt)
theorem bsAsk_zero {g : Gr} {p v : Int} (h : askE g p v = 0) : gChk g = 0 /\ ∃ q : Nat, p = q /\ (q = 1 \/ q = 2 \/ q = 3) := by
 unfold askE at h
 by_cases e : gChk g = 0
 · rw [if_pos e] at h
   by_cases i : inR p 1 3 = true
   · rw [inR_iff] at i
     exact ⟨e, p.toNat, by omega, by omega⟩
   · rw [if_neg i] at h; omega
 · rw [if_neg e] at h; exact absurd h e
set_option maxRecDepth 100000 in
theorem same1_any (ao bo : Option Addr) (ca cb : Nat) (a b : List P3) (W : World) (hA : PcAt W ao a) (hB : PcAt W bo b) (hl : a.length <= 9223372036854775807) :
   Calls Seq.prog 8 #[.slice ao a.length ca, .slice bo b.length cb] W fun e w' => e = .returned (.bool (decide (a = b))) /\ Below W.heap.size W w' := by
 have h1 := Equal3_any ao bo ca cb a b W hA hB hl
 generalize decide (a = b) = x at *
 clear hA hB hl
 go_enter Seq.func8, Tryz.ntmps8
 go_wp2_with fail
 refine h1.mono ?_
 rintro e w2 ⟨rfl, hb2⟩
 have HB := hideg hb2
 clear h1 hb2
 go_wp2
 go_ret
 exact ⟨rfl, HB.out⟩
set_option maxRecDepth 100000 in
theorem same_rows {b1 b2 go go2 n bx : Nat} {val val2 : Nat -> Value} {T T2 : Nat -> List P3} (w : World) (A : AM w b1 go n val T) (A2 : AM w b2 go2 n val2 T2) (hT : ∀ v, v < n -> T v = T2 v) (hc : w.cell? ⟨bx, 0, none⟩ = some (.slice (some ⟨go2, 0, none⟩) n n)) :
   Calls Seq.prog 6 #[.slice (some ⟨go, 0, none⟩) n n, .pointer (some ⟨bx, 0, none⟩)] w fun e w' => e = .returned (.bool true) /\ Below w.heap.size w w' := by
 have h1 := eqRows_any 8 (fun args w => by simp) (fun ao bo ca cb a b W hA hB hl => same1_any ao bo ca cb a b W hA hB hl) w A A2 hT
 clear A A2 hT
 go_enter Seq.func6, Tryz.ntmps6
 go_wp2_with fail
 refine h1.mono ?_
 rintro e w2 ⟨rfl, hb2⟩
 have HB := hideg hb2
 clear h1 hb2 hc
 go_wp2
 go_ret
 exact ⟨rfl, HB.out⟩
set_option maxRecDepth 100000 in
theorem same_none {bx : Nat} (w : World) (hc : w.cell? ⟨bx, 0, none⟩ = some (.slice none 0 0)) :
   Calls Seq.prog 6 #[.slice none 0 0, .pointer (some ⟨bx, 0, none⟩)] w fun e w' => e = .returned (.bool true) /\ w' = w := by
 have h1 := eqRows_nil 8 w
 go_enter Seq.func6, Tryz.ntmps6
 go_wp2_with fail
 refine h1.mono ?_
 rintro e w2 ⟨rfl, rfl⟩
 clear h1 hc
 go_wp2
 go_ret
 exact ⟨rfl, rfl⟩
set_option maxRecDepth 100000 in
set_option maxHeartbeats 2000000 in
theorem bspSays_err (g : Gr) (la ea : Option Addr) (lc ec : Nat) (p fr W : Int) (w : World) (hG : GAt w la ea g) (hE : askE g p fr ≠ 0) :
   Calls Seq.prog 3 #[.agg #[.int .i64 g.hor, .slice la g.lives.length lc, .slice ea g.edges.length ec], .int .i64 p, .int .i64 fr, .int .i64 W] w fun e _ => e = .returned (.bool true) := by
 have B0 := gbox_start w g la ea lc ec 25
 have h1 := Asked_any g la ea lc ec p fr _ (hG.below B0.bel)
 have HR := hideg (fun X (hb : Below w.heap.size w X) => bsRun_err g la ea lc ec p fr X (hG.below hb) hE)
 have HC := hideg (fun X (hb : Below w.heap.size w X) => bsCombined_err g la ea lc ec p fr W X (hG.below hb) hE)
 generalize askE g p fr = x at *
 have e1 : (x == 0) = false := by simpa using hE
 have e2 : (x != x) = false := by simp
 have e3 : (x == x) = true := by simp
 clear hG
 go_enter Seq.func3, Tryz.ntmps3
 go_wp2_with fail
 refine h1.mono ?_
 rintro e w2 ⟨rfl, hb2⟩
 have B2 := B0.below hb2
 clear h1 hb2 B0
 obtain ⟨w3, hw3⟩ : ∃ y, y = w2.alloc (.cells #[.slice none 0 0] 28) := ⟨_, rfl⟩
 have B3 : GBox w w3 w.heap.size g la ea lc ec := by rw [hw3]; exact B2.below (gal _ _)
 have c3 : w3.cell? ⟨w2.heap.size, 0, none⟩ = some (.slice none 0 0) := by rw [hw3]; simp
 have l3 : w2.heap.size < w3.heap.size := by rw [hw3]; simp
 have h4 := HR.out w3 B3.bel
 have g0 := B3.c0
 have g1 := B3.c1
 have g2 := B3.c2
 have HL := hideg l3
 have hw3s := hw3.symm
 clear hw3 l3 B2
 go_wp2_with fail
 refine h4.mono ?_
 rintro e w4 ⟨rfl, hb4⟩
 have B4 := B3.below hb4
 have c4 : w4.cell? ⟨w2.heap.size, 0, none⟩ = some (.slice none 0 0) := (hb4.cell (p := ⟨w2.heap.size, 0, none⟩) HL.out).trans c3
 have h5 := same_none w4 c4
 clear h4 B3 g0 g1 g2 c3 hw3s HR
 go_wp2_with fail
 refine h5.mono ?_
 rintro e w5 ⟨rfl, rfl⟩
 have h6 := HC.out w5 B4.bel
 have g0 := B4.c0
 have g1 := B4.c1
 have g2 := B4.c2
 have HL5 := hideg (Nat.lt_of_lt_of_le HL.out hb4.size)
 clear h5 hb4 HC HL
 go_wp2_with fail
 refine h6.mono ?_
 rintro e w6 ⟨rfl, hb6⟩
 have c6 : w6.cell? ⟨w2.heap.size, 0, none⟩ = some (.slice none 0 0) := (hb6.cell (p := ⟨w2.heap.size, 0, none⟩) HL5.out).trans c4
 have h7 := same_none w6 c6
 clear h6 B4 g0 g1 g2 c4 hb6
 go_wp2_with fail
 refine h7.mono ?_
 rintro e w7 ⟨rfl, rfl⟩
 clear h7 c6
 go_wp2
 go_ret
 rfl
set_option maxRecDepth 100000 in
set_option maxHeartbeats 4000000 in
theorem bspSays_ok (g : Gr) (la ea : Option Addr) (lc ec p : Nat) (fr W : Int) (w : World) (hG : GAt w la ea g) (hE : askE g p fr = 0) (h0 : gChk g = 0) (hp : p = 1 \/ p = 2 \/ p = 3) :
   Calls Seq.prog 3 #[.agg #[.int .i64 g.hor, .slice la g.lives.length lc, .slice ea g.edges.length ec], .int .i64 p, .int .i64 fr, .int .i64 W] w fun e w' => e = .returned (.bool true) \/ (¬ Zt zqs w.tape /\ ∃ ch, e = .panicked ch /\ DeadAt w') := by
 have B0 := gbox_start w g la ea lc ec 25
 have h1 := Asked_any g la ea lc ec p fr _ (hG.below B0.bel)
 rw [hE] at h1
 have hPath := bsPaths_any g la ea lc ec p h0 hp
 have HA := hideg (fun X (hb : Below w.heap.size w X) => All_any g la ea lc ec p fr X (hG.below hb) (gChk_right h0) hp)
 have HR := hideg (fun X (hb : Below w.heap.size w X) => bsRun_ok g la ea lc ec p fr X (hG.below hb) hE h0 hPath)
 have HC := hideg (fun X (hb : Below w.heap.size w X) (K : Nat) (hK : 1 <= K /\ K <= 64) => bsCombined_ok g la ea lc ec p K fr X (hG.below hb) hE h0 hK hPath)
 have HD := hideg (fun X (hb : Below w.heap.size w X) (hK : W < 1 \/ 64 < W) => bsCombined_arg g la ea lc ec p fr W X (hG.below hb) hE hK)
 have i1 := fun X => In_any W 1 64 X
 generalize allR g p fr g.hor.toNat = R at *
 have e2 : (R != R) = false := by simp
 have e3 : (R == R) = true := by simp
 clear hG hE h0 hp hPath
 go_enter Seq.func3, Tryz.ntmps3
 go_wp2_with fail
 refine h1.mono ?_
 rintro e w2 ⟨rfl, hb2⟩
 have B2 := B0.below hb2
 clear h1 hb2 B0
 obtain ⟨w3, hw3⟩ : ∃ y, y = w2.alloc (.cells #[.slice none 0 0] 28) := ⟨_, rfl⟩
 have B3 : GBox w w3 w.heap.size g la ea lc ec := by rw [hw3]; exact B2.below (gal _ _)
 have hP3 : w3.heap[w2.heap.size]? = some (.cells #[.slice none 0 0] 28) := by rw [hw3]; show (w2.heap.push _)[w2.heap.size]? = _; exact Array.getElem?_push_size
 have h4 := HA.out w3 B3.bel
 have g0 := B3.c0
 have g1 := B3.c1
 have g2 := B3.c2
 have HP := hideg hP3
 have HL : Hid (w.heap.size < w2.heap.size /\ w2.heap.size < w3.heap.size) := ⟨B2.lt, by rw [hw3]; simp⟩
 have hw3s := hw3.symm
 clear hw3 B2 hP3
 go_wp2_with fail
 refine h4.mono ?_
 rintro e w4 ⟨go, val, rfl, A4, hb4⟩
 have hP4 := (hb4.block _ HL.out.2).trans HP.out
 have B4 := B3.below hb4
 have x0 : w4.cell? ⟨w2.heap.size, 0, none⟩ = some (.slice none 0 0) := by simp [World.cell?, hP4]
 have xf : ∀ q, w4.frozen? ⟨w2.heap.size, q, none⟩ = false := fun q => by simp [World.frozen?, hP4]
 have hx4 : w2.heap.size < w4.heap.size := Nat.lt_of_lt_of_le HL.out.2 hb4.size
 obtain ⟨w5, hw5⟩ : ∃ x, x = w4.setCell ⟨w2.heap.size, 0, none⟩ (.slice (some ⟨go, 0, none⟩) g.lives.length g.lives.length) := ⟨_, rfl⟩
 have hP5 : w5.heap[w2.heap.size]? = some (.cells #[.slice (some ⟨go, 0, none⟩) g.lives.length g.lives.length] 28) := by rw [hw5]; exact Sim.setCell_this hP4
 have hne : ¬ w2.heap.size = w.heap.size := fun e => by have := HL.out.1; omega
 have B5 : GBox w w5 w.heap.size g la ea lc ec := by
   rw [hw5]
   refine ⟨?_, ?_, ?_, B4.bel.setCell (p := ⟨w2.heap.size, 0, none⟩) (by have := HL.out.1; simp only; omega) _, by simpa using B4.lt⟩
   · rw [World.cell?_setCell_far _ _ _ _ hne]; exact B4.c0
   · rw [World.cell?_setCell_far _ _ _ _ hne]; exact B4.c1
   · rw [World.cell?_setCell_far _ _ _ _ hne]; exact B4.c2
 have A5 : AM w5 w3.heap.size go g.lives.length val (fun v => allP g p fr v g.hor.toNat) := by
   rw [hw5]
   refine ⟨ownsRow_setBox A4.own (fun e => ?_), fun v hv => ownsRow_setBox (A4.inn v hv) (fun e => ?_), A4.ap⟩
   · have := (A4.own.lt _ e).1; have := HL.out.2; omega
   · have := ((A4.inn v hv).lt _ e).1; have := HL.out.2; omega
 have c5 : w5.cell? ⟨w2.heap.size, 0, none⟩ = some (.slice (some ⟨go, 0, none⟩) g.lives.length g.lives.length) := by simp [World.cell?, hP5]
 have HL5 : Hid (w2.heap.size < w5.heap.size) := (Array.getElem?_eq_some_iff.1 hP5).1
 have h6 := HR.out w5 B5.bel
 have HA5 := hideg A5
 have HC5 := hideg c5
 have HB5 := hideg B5
 have hw5s := hw5.symm
 clear h4 g0 g1 g2 hw3s HP A4 hb4 hP4 B4 B3 HA hw5 hP5 A5 c5
 have g0 := B5.c0
 have g1 := B5.c1
 have g2 := B5.c2
 clear B5
 go_wp2_with fail
 refine h6.mono ?_
 clear h6 g0 g1 g2 hw5s x0 xf hx4
 rintro e w6 (⟨go6, val6, T6, r6, rfl, A6, hT6, rfl, hb6⟩ | ⟨hz, ch, rfl, hd⟩)
 · have c6 := (hb6.cell (p := ⟨w2.heap.size, 0, none⟩) HL5.out).trans HC5.out
   have h7 := same_rows w6 A6 (HA5.out.below hb6) hT6 c6
   have HB6 := hideg (HB5.out.below hb6)
   have HA6 := hideg (HA5.out.below hb6)
   have HL6 : Hid (w2.heap.size < w6.heap.size) := Nat.lt_of_lt_of_le HL5.out hb6.size
   have HC6 := hideg c6
   clear c6 A6 hT6 hb6 HA5 HB5 HC5 HL5 HR
   go_wp2_with fail
   refine h7.mono ?_
   rintro e w7 ⟨rfl, hb7⟩
   have B7 := HB6.out.below hb7
   have HA7 := hideg (HA6.out.below hb7)
   have HC7 := hideg ((hb7.cell (p := ⟨w2.heap.size, 0, none⟩) HL6.out).trans HC6.out)
   have HL7 : Hid (w2.heap.size < w7.heap.size) := Nat.lt_of_lt_of_le HL6.out hb7.size
   have HB7 := hideg B7
   have g0 := B7.c0
   have g1 := B7.c1
   have g2 := B7.c2
   clear h7 B7 hb7 HB6 HA6 HC6 HL6
   by_cases hW : 1 <= W /\ W <= 64
   · obtain ⟨K, rfl⟩ : ∃ K : Nat, W = K := ⟨W.toNat, by omega⟩
     have iT : inR (K : Int) 1 64 = true := (inR_iff _ _ _).2 hW
     rw [iT] at i1
     have h8 := HC.out w7 HB7.out.bel K ⟨by omega, by omega⟩
     clear HC HD iT
     go_wp2_with fail
     refine h8.mono ?_
     clear h8 g0 g1 g2
     rintro e w8 (⟨go8, val8, T8, r8, rfl, A8, hT8, rfl, hb8⟩ | ⟨hz, ch, rfl, hd⟩)
     · have c8 := (hb8.cell (p := ⟨w2.heap.size, 0, none⟩) HL7.out).trans HC7.out
       have h9 := same_rows w8 A8 (HA7.out.below hb8) hT8 c8
       clear A8 hT8 c8 hb8 HA7 HC7 HL7 HB7
       go_wp2_with (go_at_call 12; refine (i1 _).mono ?_; rintro e w' ⟨rfl, rfl⟩)
       refine h9.mono ?_
       rintro e w9 ⟨rfl, hb9⟩
       clear h9 hb9 i1
       go_wp2
       go_ret
       exact .inl rfl
     · exact ⟨rfl, .inr ⟨fun h => hz (by rw [HB7.out.bel.tape]; exact h), ch, rfl, hd⟩⟩
   · have iT : inR W 1 64 = false := by cases h : inR W 1 64 with
       | false => rfl
       | true => exact absurd ((inR_iff _ _ _).1 h) hW
     rw [iT] at i1
     have h8 := HD.out w7 HB7.out.bel (by omega)
     clear HC HD iT
     go_wp2_with fail
     refine h8.mono ?_
     rintro e w8 ⟨rfl, hb8⟩
     clear h8 g0 g1 g2 hb8 HA7 HC7 HL7 HB7
     go_wp2_with (go_at_call 12; refine (i1 _).mono ?_; rintro e w' ⟨rfl, rfl⟩)
     go_ret
     exact .inl rfl
 · exact ⟨rfl, .inr ⟨fun h => hz (by rw [HB5.out.bel.tape]; exact h), ch, rfl, hd⟩⟩
theorem bspSays_walk (g : Gr) (la ea : Option Addr) (lc ec : Nat) (p fr W : Int) (w : World) (hG : GAt w la ea g) :
   Calls Seq.prog 3 #[.agg #[.int .i64 g.hor, .slice la g.lives.length lc, .slice ea g.edges.length ec], .int .i64 p, .int .i64 fr, .int .i64 W] w fun e w' => e = .returned (.bool true) \/ (¬ Zt zqs w.tape /\ ∃ ch, e = .panicked ch /\ DeadAt w') := by
 by_cases hE : askE g p fr = 0
 · obtain ⟨h0, q, rfl, hq⟩ := bsAsk_zero hE
   exact bspSays_ok g la ea lc ec q fr W w hG hE h0 hq
 · exact (bspSays_err g la ea lc ec p fr W w hG hE).mono fun e w' h => .inl h
end Go.Proofs.YthgelfnflafoiabGreat.Q
namespace Go.Proofs.YthgelfnflafoiabGreat
open Sim Crw
theorem bspSays_holds : Rows.BspSaysSaid :=
 bspSays_of fun g0 la ea lc0 ec0 t1 t2 t3 s h => Q.bspSays_walk ⟨g0.hor, g0.lives, g0.edges⟩ la ea lc0 ec0 t1 t2 t3 s ⟨h.lv, h.ed, h.nl, h.ne⟩
end Go.Proofs.YthgelfnflafoiabGreat
