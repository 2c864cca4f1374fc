/-
  The law BspWorkers holds.
-/
import Derived.Laws.StructEq
import Derived.Test.YthgelfnflafoiaeGreatPk10
namespace Go.Proofs.YthgelfnflafoiaeGreat.Q
open Sim (Seq.prog)
open Go.RowKit
theorem cell_newP {W : World} {cs : Array Value} {T : TypeId} {b j : Nat} {x : Value} (hb : b = W.heap.size) (hx : cs[j]? = some x) : (W.alloc (.cells cs T)).cell? ⟨b, j, none⟩ = some x := by subst hb; simp [hx]
theorem frozen_newP {W : World} {cs : Array Value} {T : TypeId} {b j : Nat} (hb : b = W.heap.size) : (W.alloc (.cells cs T)).frozen? ⟨b, j, none⟩ = false := by subst hb; simp
theorem set5P {w W : World} (h : Below w.heap.size w W) {b : Nat} (hb : w.heap.size <= b) (x0 x1 x2 x3 x4 : Value) (o : Obj) : Below w.heap.size w ((((((W.setCell ⟨b, 0, none⟩ x0).setCell ⟨b, 1, none⟩ x1).setCell ⟨b, 2, none⟩ x2).setCell ⟨b, 3, none⟩ x3).setCell ⟨b, 4, none⟩ x4).alloc o) := by
 have h5 := ((((h.setCell (p := ⟨b, 0, none⟩) hb x0).setCell (p := ⟨b, 1, none⟩) hb x1).setCell (p := ⟨b, 2, none⟩) hb x2).setCell (p := ⟨b, 3, none⟩) hb x3).setCell (p := ⟨b, 4, none⟩) hb x4
 exact h5.alloc h5.size o
structure PBx (w W : World) (A B : Nat) (l1 l2 l4 : Int) : Prop where
 e0 : W.cell? ⟨w.heap.size + 1, 0, none⟩ = some (.int .i64 (A : Int))
 e1 : W.cell? ⟨w.heap.size + 1, 1, none⟩ = some (.int .i64 (B : Int))
 l0 : W.cell? ⟨w.heap.size + 1 + 1, 0, none⟩ = some (.int .i64 l1)
 l1 : W.cell? ⟨w.heap.size + 1 + 1, 1, none⟩ = some (.int .i64 l2)
 l3 : W.cell? ⟨w.heap.size + 1 + 1, 3, none⟩ = some (.int .i64 l4)
 r : ∀ j, j < 5 -> W.cell? ⟨w.heap.size + 1 + 1 + 1, j, none⟩ = some (.int .i64 0)
 fz : ∀ j, W.frozen? ⟨w.heap.size + 1 + 1 + 1, j, none⟩ = false
 bel : Below w.heap.size w W
 lt : w.heap.size + 1 + 1 + 1 < W.heap.size
theorem PBx.below {w W W' : World} {A B : Nat} {l1 l2 l4 : Int} (h : PBx w W A B l1 l2 l4) (hb : Below W.heap.size W W') : PBx w W' A B l1 l2 l4 := by
 have hl := h.lt
 have hs := hb.size
 have q : ∀ b j x, b < W.heap.size -> W.cell? ⟨b, j, none⟩ = some x -> W'.cell? ⟨b, j, none⟩ = some x := fun b j x hlt hx => (hb.cell (p := ⟨b, j, none⟩) hlt).trans hx
 exact ⟨q _ _ _ (by omega) h.e0, q _ _ _ (by omega) h.e1, q _ _ _ (by omega) h.l0, q _ _ _ (by omega) h.l1, q _ _ _ (by omega) h.l3, fun j hj => q _ _ _ (by omega) (h.r j hj), fun j => (hb.frozen (p := ⟨w.heap.size + 1 + 1 + 1, j, none⟩) (by simp only; omega)).trans (h.fz j), ptg h.bel hb, by omega⟩
theorem got5P {W : World} {b : Nat} {y0 y4 : Value} (x0 x1 x2 x3 x4 : Value) (o : Obj) (h0 : W.cell? ⟨b, 0, none⟩ = some y0) (h4 : W.cell? ⟨b, 4, none⟩ = some y4) :
   ((((((W.setCell ⟨b, 0, none⟩ x0).setCell ⟨b, 1, none⟩ x1).setCell ⟨b, 2, none⟩ x2).setCell ⟨b, 3, none⟩ x3).setCell ⟨b, 4, none⟩ x4).alloc o).cell? ⟨b, 0, none⟩ = some x0 /\
   ((((((W.setCell ⟨b, 0, none⟩ x0).setCell ⟨b, 1, none⟩ x1).setCell ⟨b, 2, none⟩ x2).setCell ⟨b, 3, none⟩ x3).setCell ⟨b, 4, none⟩ x4).alloc o).cell? ⟨b, 1, none⟩ = some x1 /\
   ((((((W.setCell ⟨b, 0, none⟩ x0).setCell ⟨b, 1, none⟩ x1).setCell ⟨b, 2, none⟩ x2).setCell ⟨b, 3, none⟩ x3).setCell ⟨b, 4, none⟩ x4).alloc o).cell? ⟨b, 2, none⟩ = some x2 /\
   ((((((W.setCell ⟨b, 0, none⟩ x0).setCell ⟨b, 1, none⟩ x1).setCell ⟨b, 2, none⟩ x2).setCell ⟨b, 3, none⟩ x3).setCell ⟨b, 4, none⟩ x4).alloc o).cell? ⟨b, 3, none⟩ = some x3 /\
   ((((((W.setCell ⟨b, 0, none⟩ x0).setCell ⟨b, 1, none⟩ x1).setCell ⟨b, 2, none⟩ x2).setCell ⟨b, 3, none⟩ x3).setCell ⟨b, 4, none⟩ x4).alloc o).cell? ⟨b, 4, none⟩ = some x4 := by
 have hc : ∃ c t f, W.heap[b]? = some (.cells c t f) := by
   unfold World.cell? at h0
   split at h0
   · rename_i c t f hh; exact ⟨c, t, f, hh⟩
   · cases h0
 obtain ⟨c, t, f, hh⟩ := hc
 have s4 : 4 < c.size := by
   simp only [World.cell?, hh] at h4
   simp at h4
   exact (Array.getElem?_eq_some_iff.1 h4).1
 have hz : (((((W.setCell ⟨b, 0, none⟩ x0).setCell ⟨b, 1, none⟩ x1).setCell ⟨b, 2, none⟩ x2).setCell ⟨b, 3, none⟩ x3).setCell ⟨b, 4, none⟩ x4).heap[b]? = some (.cells (((((c.setIfInBounds 0 x0).setIfInBounds 1 x1).setIfInBounds 2 x2).setIfInBounds 3 x3).setIfInBounds 4 x4) t f) := by
   simp [World.setCell, Array.getElem?_modify, hh]
 have hlt := (Array.getElem?_eq_some_iff.1 hz).1
 generalize ((((W.setCell ⟨b, 0, none⟩ x0).setCell ⟨b, 1, none⟩ x1).setCell ⟨b, 2, none⟩ x2).setCell ⟨b, 3, none⟩ x3).setCell ⟨b, 4, none⟩ x4 = Z at *
 have s0 : 0 < c.size := by omega
 have s1 : 1 < c.size := by omega
 have s2 : 2 < c.size := by omega
 have s3 : 3 < c.size := by omega
 refine ⟨?_, ?_, ?_, ?_, ?_⟩
 · rw [(gal Z o).cell (by exact hlt)]; simp only [World.cell?, hz]; simp [s0]
 · rw [(gal Z o).cell (by exact hlt)]; simp only [World.cell?, hz]; simp [s1]
 · rw [(gal Z o).cell (by exact hlt)]; simp only [World.cell?, hz]; simp [s2]
 · rw [(gal Z o).cell (by exact hlt)]; simp only [World.cell?, hz]; simp [s3]
 · rw [(gal Z o).cell (by exact hlt)]; simp only [World.cell?, hz]; simp [s4]
set_option maxRecDepth 100000 in
set_option maxHeartbeats 4000000 in
theorem pathOf_any (g : Gr) (la ea lo : Option Addr) (lc ec ln lcap p : Nat) (e : Ed) (l : Lg) (w : World) (hG : GAt w la ea g) (hA : 0 <= e.1 /\ e.1 < g.lives.length) (hB : 0 <= e.2.1 /\ e.2.1 < g.lives.length) (hp3 : p = 1 \/ p = 2 \/ p = 3) :
   Calls Seq.prog 52 #[.agg #[.int .i64 g.hor, .slice la g.lives.length lc, .slice ea g.edges.length ec], .agg #[.int .i64 e.1, .int .i64 e.2.1, .slice lo ln lcap], .agg #[.int .i64 l.1, .int .i64 l.2.1, .int .i64 l.2.2.1, .int .i64 l.2.2.2], .int .i64 p] w fun r w' => r = .returned (ptV (pthOf g p e l)) /\ Below w.heap.size w w' := by
 obtain ⟨ea1, eb1, elegs⟩ := e
 obtain ⟨l1, l2, l3, l4⟩ := l
 simp only at hA hB ⊢
 obtain ⟨A, rfl⟩ : ∃ A : Nat, ea1 = (A : Int) := ⟨ea1.toNat, by omega⟩
 obtain ⟨B, rfl⟩ : ∃ B : Nat, eb1 = (B : Int) := ⟨eb1.toNat, by omega⟩
 have hAn : A < g.lives.length := by omega
 have hBn : B < g.lives.length := by omega
 obtain ⟨lb, lof, rfl, hlb, hlc⟩ : ∃ b off, la = some ⟨b, off, none⟩ /\ b < w.heap.size /\ ∀ k (hk : k < g.lives.length), (w.cell? ⟨b, off + k * 2, none⟩ = some (.int .i64 g.lives[k].1) /\ w.cell? ⟨b, off + k * 2 + 1, none⟩ = some (.int .i64 g.lives[k].2)) := by
   rcases hG.lv with h0 | ⟨b, off, rfl, hbr, hc⟩
   · rw [h0] at hAn; simp at hAn
   exact ⟨b, off, rfl, hbr, fun k hk => IvAt.get hk hc⟩
 obtain ⟨a0, a1⟩ := hlc A hAn
 obtain ⟨b0, b1⟩ := hlc B hBn
 have eA : lifeOf g (A : Int) = (g.lives[A].1, g.lives[A].2) := by unfold lifeOf; rw [Int.toNat_natCast, List.getD_eq_getElem?_getD, List.getElem?_eq_getElem hAn]; rfl
 have eB : lifeOf g (B : Int) = (g.lives[B].1, g.lives[B].2) := by unfold lifeOf; rw [Int.toNat_natCast, List.getD_eq_getElem?_getD, List.getElem?_eq_getElem hBn]; rfl
 have HP : Hid (pthOf g p ((A : Int), (B : Int), elegs) (l1, l2, l3, l4) = ((A : Int), (B : Int), max l1 (max g.lives[A].1 g.lives[B].1), min l2 (min g.lives[A].2 g.lives[B].2), priceOf p ((A : Int), (B : Int), l4))) := by show _ = _; unfold pthOf; simp only; rw [eA, eB]
 obtain ⟨mx, hmx⟩ : ∃ m, m = (if (if l1 < g.lives[A].1 then g.lives[A].1 else l1) < g.lives[B].1 then g.lives[B].1 else (if l1 < g.lives[A].1 then g.lives[A].1 else l1)) := ⟨_, rfl⟩
 obtain ⟨mn, hmn⟩ : ∃ m, m = (if g.lives[B].2 < (if g.lives[A].2 < l2 then g.lives[A].2 else l2) then g.lives[B].2 else (if g.lives[A].2 < l2 then g.lives[A].2 else l2)) := ⟨_, rfl⟩
 have hmx2 : max l1 (max g.lives[A].1 g.lives[B].1) = mx := by rw [hmx]; split <;> split <;> omega
 have hmn2 : min l2 (min g.lives[A].2 g.lives[B].2) = mn := by rw [hmn]; split <;> split <;> omega
 rw [hmx2, hmn2] at HP
 have hmxs := hmx.symm
 have hmns := hmn.symm
 clear hmx hmn hmx2 hmn2
 generalize g.lives[A].1 = x1 at *
 generalize g.lives[A].2 = x2 at *
 generalize g.lives[B].1 = z1 at *
 generalize g.lives[B].2 = z2 at *
 clear eA eB hlc hG
 obtain ⟨w1, hw1⟩ : ∃ x, x = (((w.alloc (.cells #[.int .i64 g.hor, .slice (some ⟨lb, lof, none⟩) g.lives.length lc, .slice ea g.edges.length ec] 25)).alloc (.cells #[.int .i64 (A : Int), .int .i64 (B : Int), .slice lo ln lcap] 59)).alloc (.cells #[.int .i64 l1, .int .i64 l2, .int .i64 l3, .int .i64 l4] 61)).alloc (.cells #[.int .i64 0, .int .i64 0, .int .i64 0, .int .i64 0, .int .i64 0] 94) := ⟨_, rfl⟩
 have hb1 : Below w.heap.size w w1 := by rw [hw1]; exact ptg (ptg (ptg (gal _ _) (gal _ _)) (gal _ _)) (gal _ _)
 have hw1s := hw1.symm
 have hs1 : w1.heap.size = w.heap.size + 4 := by rw [hw1]; simp
 have k1 : w1.cell? ⟨w.heap.size, 1, none⟩ = some (.slice (some ⟨lb, lof, none⟩) g.lives.length lc) := by
   rw [hw1, (gal _ _).cell (by simp <;> omega), (gal _ _).cell (by simp <;> omega), (gal _ _).cell (by simp <;> omega)]; exact cell_newP rfl rfl
 have k2 : w1.cell? ⟨w.heap.size + 1, 0, none⟩ = some (.int .i64 (A : Int)) := by
   rw [hw1, (gal _ _).cell (by simp <;> omega), (gal _ _).cell (by simp <;> omega)]; exact cell_newP (by simp) rfl
 have k3 : w1.cell? ⟨w.heap.size + 1, 1, none⟩ = some (.int .i64 (B : Int)) := by
   rw [hw1, (gal _ _).cell (by simp <;> omega), (gal _ _).cell (by simp <;> omega)]; exact cell_newP (by simp) rfl
 have a0' := (hb1.cell (p := ⟨lb, lof + A * 2, none⟩) hlb).trans a0
 have a1' := (hb1.cell (p := ⟨lb, lof + A * 2 + 1, none⟩) hlb).trans a1
 have b0' := (hb1.cell (p := ⟨lb, lof + B * 2, none⟩) hlb).trans b0
 have b1' := (hb1.cell (p := ⟨lb, lof + B * 2 + 1, none⟩) hlb).trans b1
 have hAi : (A : Int) < (g.lives.length : Int) := by omega
 have hBi : (B : Int) < (g.lives.length : Int) := by omega
 have PB0 : PBx w w1 A B l1 l2 l4 := by
   refine ⟨?_, ?_, ?_, ?_, ?_, fun j hj => ?_, fun j => ?_, hb1, by omega⟩
   · exact k2
   · exact k3
   · rw [hw1, (gal _ _).cell (by simp <;> omega)]; exact cell_newP (by simp) rfl
   · rw [hw1, (gal _ _).cell (by simp <;> omega)]; exact cell_newP (by simp) rfl
   · rw [hw1, (gal _ _).cell (by simp <;> omega)]; exact cell_newP (by simp) rfl
   · rw [hw1]
     refine cell_newP (by simp) ?_
     match j, hj with
     | 0, _ => rfl
     | 1, _ => rfl
     | 2, _ => rfl
     | 3, _ => rfl
     | 4, _ => rfl
   · rw [hw1]; exact frozen_newP (by simp)
 clear a0 a1 b0 b1 hw1
 have u0 := fun o => ((gal w1 o).cell (p := ⟨w.heap.size, 1, none⟩) (by simp only; omega)).trans k1
 have v0 := fun o o' => ((ptg (gal w1 o) (gal _ o')).cell (p := ⟨w.heap.size, 1, none⟩) (by simp only; omega)).trans k1
 have u1 := fun o => ((gal w1 o).cell (p := ⟨w.heap.size + 1, 0, none⟩) (by simp only; omega)).trans k2
 have v1 := fun o o' => ((ptg (gal w1 o) (gal _ o')).cell (p := ⟨w.heap.size + 1, 0, none⟩) (by simp only; omega)).trans k2
 have u2 := fun o => ((gal w1 o).cell (p := ⟨w.heap.size + 1, 1, none⟩) (by simp only; omega)).trans k3
 have v2 := fun o o' => ((ptg (gal w1 o) (gal _ o')).cell (p := ⟨w.heap.size + 1, 1, none⟩) (by simp only; omega)).trans k3
 have u3 := fun o => ((gal w1 o).cell (p := ⟨lb, lof + A * 2, none⟩) (by simp only; omega)).trans a0'
 have v3 := fun o o' => ((ptg (gal w1 o) (gal _ o')).cell (p := ⟨lb, lof + A * 2, none⟩) (by simp only; omega)).trans a0'
 have u4 := fun o => ((gal w1 o).cell (p := ⟨lb, lof + A * 2 + 1, none⟩) (by simp only; omega)).trans a1'
 have v4 := fun o o' => ((ptg (gal w1 o) (gal _ o')).cell (p := ⟨lb, lof + A * 2 + 1, none⟩) (by simp only; omega)).trans a1'
 have u5 := fun o => ((gal w1 o).cell (p := ⟨lb, lof + B * 2, none⟩) (by simp only; omega)).trans b0'
 have v5 := fun o o' => ((ptg (gal w1 o) (gal _ o')).cell (p := ⟨lb, lof + B * 2, none⟩) (by simp only; omega)).trans b0'
 have u6 := fun o => ((gal w1 o).cell (p := ⟨lb, lof + B * 2 + 1, none⟩) (by simp only; omega)).trans b1'
 have v6 := fun o o' => ((ptg (gal w1 o) (gal _ o')).cell (p := ⟨lb, lof + B * 2 + 1, none⟩) (by simp only; omega)).trans b1'
 go_enter Seq.func52, Tryz.ntmps52
 go_wp2_with fail
 rename_i Q' K hK
 have TL : ∀ (pa pb : Nat) (W2 : World), PBx w W2 A B l1 l2 l4 -> W2.cell? ⟨pa, 0, none⟩ = some (.int .i64 x1) -> W2.cell? ⟨pa, 1, none⟩ = some (.int .i64 x2) -> W2.cell? ⟨pb, 0, none⟩ = some (.int .i64 z1) -> W2.cell? ⟨pb, 1, none⟩ = some (.int .i64 z2) -> W2.heap.size = w.heap.size + 6 -> K { tmps := #[.agg #[.int .i64 g.hor, .slice (some ⟨lb, lof, none⟩) g.lives.length lc, .slice ea g.edges.length ec], .agg #[.int .i64 (A : Int), .int .i64 (B : Int), .slice lo ln lcap], .agg #[.int .i64 l1, .int .i64 l2, .int .i64 l3, .int .i64 l4], .int .i64 (p : Int), .pointer (some ⟨w.heap.size, 0, none⟩), .pointer (some ⟨w.heap.size + 1, 0, none⟩), .pointer (some ⟨w.heap.size + 1 + 1, 0, none⟩), undef, .pointer (some ⟨w.heap.size + 1 + 1 + 1, 0, none⟩), .pointer (some ⟨pa, 0, none⟩), .pointer (some ⟨pb, 0, none⟩), undef, .pointer (some ⟨w.heap.size, 1, none⟩), .slice (some ⟨lb, lof, none⟩) g.lives.length lc, .pointer (some ⟨w.heap.size + 1, 0, none⟩), .int .i64 (A : Int), .pointer (some ⟨lb, lof + A * 2, none⟩), .agg #[.int .i64 x1, .int .i64 x2], .pointer (some ⟨w.heap.size, 1, none⟩), .slice (some ⟨lb, lof, none⟩) g.lives.length lc, .pointer (some ⟨w.heap.size + 1, 1, none⟩), .int .i64 (B : Int), .pointer (some ⟨lb, lof + B * 2, none⟩), .agg #[.int .i64 z1, .int .i64 z2], undef, undef, undef, undef, undef, undef, undef, undef, undef, undef, undef, undef, undef, undef, undef, undef, undef, undef, undef, undef, undef, undef, undef, undef, undef, undef, undef, undef, undef], defers := [] } W2 := by
   intro pa pb W2 F q0 q1 q2 q3 hs2
   refine hK _ _ ?_
   have e0 := F.e0
   have e1 := F.e1
   have l0 := F.l0
   have l1' := F.l1
   have l3' := F.l3
   have r0 := F.r 0 (by omega)
   have r1 := F.r 1 (by omega)
   have r2 := F.r 2 (by omega)
   have r3 := F.r 3 (by omega)
   have r4 := F.r 4 (by omega)
   have fz := F.fz
   have HBW := hideg F.bel
   clear hK F PB0 u0 u1 u2 u3 u4 u5 u6 v0 v1 v2 v3 v4 v5 v6 k1 k2 k3 a0' a1' b0' b1' hw1s hs1 hb1
   rcases hp3 with rfl | rfl | rfl
   · have HV : Hid (pthOf g 1 ((A : Int), (B : Int), elegs) (l1, l2, l3, l4) = ((A : Int), (B : Int), mx, mn, 1)) := by show _ = _; rw [HP.out]; rfl
     go_wp2
     obtain ⟨t0, t1, t2, t3, t4⟩ := got5P (.int .i64 (A : Int)) (.int .i64 (B : Int)) (.int .i64 mx) (.int .i64 mn) (.int .i64 1) (.cells #[.int .i64 (A : Int), .int .i64 (B : Int), .int .i64 mx, .int .i64 mn, .int .i64 1] 94) r0 r4
     refine bodyPost_ret (v := ptV ((A : Int), (B : Int), mx, mn, 1)) (by simp [results, Tryz.results52, go_sem, ptV, t0, t1, t2, t3, t4]) rfl ⟨by rw [HV.out], ?_⟩
     exact set5P HBW.out (by omega) _ _ _ _ _ _
   · have HV : Hid (pthOf g 2 ((A : Int), (B : Int), elegs) (l1, l2, l3, l4) = ((A : Int), (B : Int), mx, mn, l4)) := by show _ = _; rw [HP.out]; rfl
     go_wp2
     obtain ⟨t0, t1, t2, t3, t4⟩ := got5P (.int .i64 (A : Int)) (.int .i64 (B : Int)) (.int .i64 mx) (.int .i64 mn) (.int .i64 l4) (.cells #[.int .i64 (A : Int), .int .i64 (B : Int), .int .i64 mx, .int .i64 mn, .int .i64 l4] 94) r0 r4
     refine bodyPost_ret (v := ptV ((A : Int), (B : Int), mx, mn, l4)) (by simp [results, Tryz.results52, go_sem, ptV, t0, t1, t2, t3, t4]) rfl ⟨by rw [HV.out], ?_⟩
     exact set5P HBW.out (by omega) _ _ _ _ _ _
   · have HV : Hid (pthOf g 3 ((A : Int), (B : Int), elegs) (l1, l2, l3, l4) = ((A : Int), (B : Int), mx, mn, 0)) := by show _ = _; rw [HP.out]; rfl
     go_wp2
     obtain ⟨t0, t1, t2, t3, t4⟩ := got5P (.int .i64 (A : Int)) (.int .i64 (B : Int)) (.int .i64 mx) (.int .i64 mn) (.int .i64 0) (.cells #[.int .i64 (A : Int), .int .i64 (B : Int), .int .i64 mx, .int .i64 mn, .int .i64 0] 94) r0 r4
     refine bodyPost_ret (v := ptV ((A : Int), (B : Int), mx, mn, 0)) (by simp [results, Tryz.results52, go_sem, ptV, t0, t1, t2, t3, t4]) rfl ⟨by rw [HV.out], ?_⟩
     exact set5P HBW.out (by omega) _ _ _ _ _ _
 go_region
 · obtain ⟨W2, hW2⟩ : ∃ x, x = ((w1.alloc (.cells #[.int .i64 x1, .int .i64 x2] 88)).alloc (.cells #[.int .i64 z1, .int .i64 z2] 88)).drew := ⟨_, rfl⟩
   have hB2 : Below w1.heap.size w1 W2 := by rw [hW2]; exact (ptg (gal w1 _) (gal _ _)).drew
   have q0 : W2.cell? ⟨w.heap.size + 4, 0, none⟩ = some (.int .i64 x1) := by rw [hW2]; exact (((gal _ _).cell (by simp <;> omega)).trans (cell_newP (by omega) rfl))
   have q1 : W2.cell? ⟨w.heap.size + 4, 1, none⟩ = some (.int .i64 x2) := by rw [hW2]; exact (((gal _ _).cell (by simp <;> omega)).trans (cell_newP (by omega) rfl))
   have q2 : W2.cell? ⟨w.heap.size + 4 + 1, 0, none⟩ = some (.int .i64 z1) := by rw [hW2]; exact (cell_newP (by simp; omega) rfl)
   have q3 : W2.cell? ⟨w.heap.size + 4 + 1, 1, none⟩ = some (.int .i64 z2) := by rw [hW2]; exact (cell_newP (by simp; omega) rfl)
   have hs2 : W2.heap.size = w.heap.size + 6 := by rw [hW2]; simp [World.drew, hs1]
   rw [<- hW2]
   exact TL _ _ W2 (PB0.below hB2) q0 q1 q2 q3 hs2
 · obtain ⟨W2, hW2⟩ : ∃ x, x = ((w1.alloc (.cells #[.int .i64 z1, .int .i64 z2] 88)).alloc (.cells #[.int .i64 x1, .int .i64 x2] 88)).drew := ⟨_, rfl⟩
   have hB2 : Below w1.heap.size w1 W2 := by rw [hW2]; exact (ptg (gal w1 _) (gal _ _)).drew
   have q0 : W2.cell? ⟨w.heap.size + 4 + 1, 0, none⟩ = some (.int .i64 x1) := by rw [hW2]; exact (cell_newP (by simp; omega) rfl)
   have q1 : W2.cell? ⟨w.heap.size + 4 + 1, 1, none⟩ = some (.int .i64 x2) := by rw [hW2]; exact (cell_newP (by simp; omega) rfl)
   have q2 : W2.cell? ⟨w.heap.size + 4, 0, none⟩ = some (.int .i64 z1) := by rw [hW2]; exact (((gal _ _).cell (by simp <;> omega)).trans (cell_newP (by omega) rfl))
   have q3 : W2.cell? ⟨w.heap.size + 4, 1, none⟩ = some (.int .i64 z2) := by rw [hW2]; exact (((gal _ _).cell (by simp <;> omega)).trans (cell_newP (by omega) rfl))
   have hs2 : W2.heap.size = w.heap.size + 6 := by rw [hW2]; simp [World.drew, hs1]
   rw [<- hW2]
   exact TL _ _ W2 (PB0.below hB2) q0 q1 q2 q3 hs2
theorem Tryz.infoPath : (Seq.prog.info? 94).map (fun i => (i.zero, i.size, i.bytes)) = some (some (.agg #[.int .i64 0, .int .i64 0, .int .i64 0, .int .i64 0, .int .i64 0]), 5, 40) := by kernel_rfl
def pthE (g : Gr) (p : Nat) (e : Ed) (j : Nat) : List Pt := (e.2.2.take j).flatMap fun l => pthsL g p e l
def pthG (g : Gr) (p : Nat) (k : Nat) : List Pt := (g.edges.take k).flatMap fun e => e.2.2.flatMap fun l => pthsL g p e l
theorem pthE_succ (g : Gr) (p : Nat) (e : Ed) {j : Nat} (hj : j < e.2.2.length) : pthE g p e (j + 1) = pthE g p e j ++ pthsL g p e e.2.2[j] := by
 unfold pthE; rw [List.take_succ_eq_append_getElem hj, List.flatMap_append, List.flatMap_singleton]
theorem pthE_all (g : Gr) (p : Nat) (e : Ed) : pthE g p e e.2.2.length = e.2.2.flatMap fun l => pthsL g p e l := by unfold pthE; rw [List.take_length]
theorem pthG_succ (g : Gr) (p : Nat) {k : Nat} (hk : k < g.edges.length) : pthG g p (k + 1) = pthG g p k ++ pthE g p g.edges[k] g.edges[k].2.2.length := by
 rw [pthE_all]; unfold pthG; rw [List.take_succ_eq_append_getElem hk, List.flatMap_append, List.flatMap_singleton]
theorem pthG_all (g : Gr) (p : Nat) : pthG g p g.edges.length = pathsF g p := by unfold pthG pathsF; rw [List.take_length]
theorem pthG_len {g : Gr} (h0 : gChk g = 0) (p k : Nat) : (pthG g p k).length <= 360 := by
 have R := gChk_right h0
 have h1 := flat_len (fun e : Ed => e.2.2.flatMap fun l => pthsL g p e l) 12 (g.edges.take k) (fun e he => by
   have h2 := flat_len (fun l => pthsL g p e l) 2 e.2.2 (fun l _ => pthsL_len g p e l)
   have h3 := (R.ends e (List.mem_of_mem_take he)).2.2
   omega)
 have h4 := R.eds
 have h5 : (g.edges.take k).length <= g.edges.length := by rw [List.length_take]; omega
 unfold pthG
 omega
theorem pthE_len {g : Gr} (p : Nat) {e : Ed} (he : e.2.2.length <= 6) (j : Nat) : (pthE g p e j).length <= 12 := by
 have h2 := flat_len (fun l => pthsL g p e l) 2 (e.2.2.take j) (fun l _ => pthsL_len g p e l)
 have h5 : (e.2.2.take j).length <= e.2.2.length := by rw [List.length_take]; omega
 unfold pthE
 omega
set_option maxRecDepth 100000 in
set_option maxHeartbeats 4000000 in
theorem bsPaths_any (g : Gr) (la ea : Option Addr) (lc ec p : Nat) (h0 : gChk g = 0) (hp3 : p = 1 \/ p = 2 \/ p = 3) : PathsOk g la ea lc ec p := by
 intro w hG
 obtain ⟨i0, hi, hz0, hz1, hz2⟩ := info_parts Tryz.infoPath
 obtain ⟨w1, hw1⟩ : ∃ x, x = w.alloc (.cells #[.int .i64 g.hor, .slice la g.lives.length lc, .slice ea g.edges.length ec] 25) := ⟨_, rfl⟩
 have B0 : GBox w w1 w.heap.size g la ea lc ec := by rw [hw1]; exact gbox_start w g la ea lc ec 25
 have R := gChk_right h0
 have hed := R.eds
 have HRt := hideg R
 have HG := hideg hG
 have H0 := hideg h0
 have HB1 := hideg B0
 have g0 := B0.c0
 have g2 := B0.c2
 have hw1s := hw1.symm
 clear hG B0 hw1 R h0
 go_enter Seq.func37, Tryz.ntmps37
 go_wp2_with fail
 clear hw1s
 go_loopw [5, 14] (fun u d wr => ∃ k : Nat, k <= g.edges.length /\ d = .int .i64 (k : Int) /\ wr.ownsRow w1.heap.size 94 5 u (pthG g p k).length (encPs (pthG g p k)) /\ Below w1.heap.size w1 wr) (fun _ d _ => g.edges.length - (intOf d).toNat)
 case atStart => exact ⟨0, by omega, by simp, World.ownsRow_nil _ _ _ _, Below.refl _ _⟩
 case round =>
   clear g0 g2
   obtain ⟨k, hk, rfl, hown, hb⟩ := hrel
   have BR := HB1.out.below hb
   have hol := pthG_len H0.out p k
   by_cases hkl : k < g.edges.length
   · obtain ⟨b, off, lo, lcap, rfl, hbr, c0, c1, c2, hL⟩ : ∃ b off lo lcap, ea = some ⟨b, off, none⟩ /\ b < w.heap.size /\ w.cell? ⟨b, off + k * 3, none⟩ = some (.int .i64 g.edges[k].1) /\ w.cell? ⟨b, off + k * 3 + 1, none⟩ = some (.int .i64 g.edges[k].2.1) /\ w.cell? ⟨b, off + k * 3 + 2, none⟩ = some (.slice lo g.edges[k].2.2.length lcap) /\ LgAt w lo g.edges[k].2.2 := by
       rcases HG.out.ed with h0 | ⟨b, off, rfl, hbr, hc⟩
       · rw [h0] at hkl; simp at hkl
       obtain ⟨c0, c1, lo, lcap, c2, hL, _, _⟩ := hc k hkl
       exact ⟨b, off, lo, lcap, rfl, hbr, c0, c1, c2, hL⟩
     have e0 := (BR.bel.cell (p := ⟨b, off + k * 3, none⟩) hbr).trans c0
     have e1 := (BR.bel.cell (p := ⟨b, off + k * 3 + 1, none⟩) hbr).trans c1
     have e2 := (BR.bel.cell (p := ⟨b, off + k * 3 + 2, none⟩) hbr).trans c2
     have HL := hideg hL
     obtain ⟨hA, hBe, hlen⟩ := HRt.out.ends _ (List.getElem_mem hkl)
     have HS := hideg (pthG_succ g p hkl)
     generalize g.edges[k] = ed at *
     obtain ⟨wb, hwb⟩ : ∃ x, x = wr.alloc (.cells #[.int .i64 ed.1, .int .i64 ed.2.1, .slice lo ed.2.2.length lcap] 59) := ⟨_, rfl⟩
     have hbw : Below wr.heap.size wr wb := by rw [hwb]; exact gal _ _
     obtain ⟨Eb, hEb⟩ : ∃ x, x = wr.heap.size := ⟨_, rfl⟩
     have hE0 : wb.heap[Eb]? = some (.cells #[.int .i64 ed.1, .int .i64 ed.2.1, .slice lo ed.2.2.length lcap] 59) := by rw [hwb, hEb]; show (wr.heap.push _)[_]? = _; simp
     have f2 : wb.cell? ⟨Eb, 2, none⟩ = some (.slice lo ed.2.2.length lcap) := by simp [World.cell?, hE0]
     have hown0 := ownsRow_below hown hbw
     have hne0 : u5.ownBlock ≠ some Eb := fun e => by have := (hown.lt _ e).2; omega
     have hb0 : Below w1.heap.size w1 wb := hb.trans (hbw.mono hb.size)
     have hwbs := hwb.symm
     have hEbs := hEb.symm
     obtain ⟨out, hout⟩ : ∃ o, o = pthG g p k := ⟨_, rfl⟩
     rw [<- hout] at hown0 hol HS
     have g2 := BR.c2
     clear hown hwb hEb c0 c1 c2 hL BR hb hbw
     go_wp2_with fail
     clear hwbs e0 e1 e2 g2
     go_loopw [5, 21] (fun u i ws => ∃ j : Nat, j <= ed.2.2.length /\ i = .int .i64 (j : Int) /\ ws.ownsRow w1.heap.size 94 5 u (out ++ pthE g p ed j).length (encPs (out ++ pthE g p ed j)) /\ Below w1.heap.size w1 ws /\ ws.heap[Eb]? = some (.cells #[.int .i64 ed.1, .int .i64 ed.2.1, .slice lo ed.2.2.length lcap] 59) /\ u.ownBlock ≠ some Eb) (fun _ i _ => ed.2.2.length - (intOf i).toNat)
     case atStart => exact ⟨0, Nat.zero_le _, rfl, by simpa [pthE] using hown0, hb0, hE0, hne0⟩
     case round =>
       clear hown0 hb0 hE0 hne0 f2
       obtain ⟨j, hj, rfl, hown, hb, hEd, hne⟩ := hrel
       have BR := HB1.out.below hb
       have hoe := pthE_len (g := g) p hlen j
       by_cases hjl : j < ed.2.2.length
       · obtain ⟨b2, off2, rfl, hb2, l0, l1, l2, l3⟩ : ∃ b2 off2, lo = some ⟨b2, off2, none⟩ /\ b2 < w.heap.size /\ w.cell? ⟨b2, off2 + j * 4, none⟩ = some (.int .i64 ed.2.2[j].1) /\ w.cell? ⟨b2, off2 + j * 4 + 1, none⟩ = some (.int .i64 ed.2.2[j].2.1) /\ w.cell? ⟨b2, off2 + j * 4 + 2, none⟩ = some (.int .i64 ed.2.2[j].2.2.1) /\ w.cell? ⟨b2, off2 + j * 4 + 3, none⟩ = some (.int .i64 ed.2.2[j].2.2.2) := by
           rcases HL.out with h0 | ⟨b2, off2, rfl, hlt, hc⟩
           · rw [h0] at hjl; simp at hjl
           · have h1 := hc j hjl
             have e : ed.2.2.getD j (0, 0, 0, 0) = ed.2.2[j] := by rw [List.getD_eq_getElem?_getD, List.getElem?_eq_getElem hjl]; rfl
             rw [e] at h1
             exact ⟨b2, off2, rfl, hlt, h1⟩
         have m0 := (BR.bel.cell (p := ⟨b2, off2 + j * 4, none⟩) hb2).trans l0
         have m1 := (BR.bel.cell (p := ⟨b2, off2 + j * 4 + 1, none⟩) hb2).trans l1
         have m2 := (BR.bel.cell (p := ⟨b2, off2 + j * 4 + 2, none⟩) hb2).trans l2
         have m3 := (BR.bel.cell (p := ⟨b2, off2 + j * 4 + 3, none⟩) hb2).trans l3
         have HES := hideg (pthE_succ g p ed hjl)
         generalize ed.2.2[j] = l at *
         obtain ⟨wl, hwl⟩ : ∃ x, x = wr.alloc (.cells #[.int .i64 l.1, .int .i64 l.2.1, .int .i64 l.2.2.1, .int .i64 l.2.2.2] 61) := ⟨_, rfl⟩
         have hbl : Below wr.heap.size wr wl := by rw [hwl]; exact gal _ _
         have BL := BR.below hbl
         have hEl : Eb < wr.heap.size := (Array.getElem?_eq_some_iff.1 hEd).1
         have hEd1 := (hbl.block Eb hEl).trans hEd
         have ga0 := BL.c0
         have ga1 := BL.c1
         have ga2 := BL.c2
         have ge0 : wl.cell? ⟨Eb, 0, none⟩ = some (.int .i64 ed.1) := by simp [World.cell?, hEd1]
         have ge1 : wl.cell? ⟨Eb, 1, none⟩ = some (.int .i64 ed.2.1) := by simp [World.cell?, hEd1]
         have ge2 : wl.cell? ⟨Eb, 2, none⟩ = some (.slice (some ⟨b2, off2, none⟩) ed.2.2.length lcap) := by simp [World.cell?, hEd1]
         have gl0 : wl.cell? ⟨wr.heap.size, 0, none⟩ = some (.int .i64 l.1) := by rw [hwl]; exact cell_newP rfl rfl
         have gl1 : wl.cell? ⟨wr.heap.size, 1, none⟩ = some (.int .i64 l.2.1) := by rw [hwl]; exact cell_newP rfl rfl
         have gl2 : wl.cell? ⟨wr.heap.size, 2, none⟩ = some (.int .i64 l.2.2.1) := by rw [hwl]; exact cell_newP rfl rfl
         have gl3 : wl.cell? ⟨wr.heap.size, 3, none⟩ = some (.int .i64 l.2.2.2) := by rw [hwl]; exact cell_newP rfl rfl
         have hcl := pathOf_any g la (some ⟨b, off, none⟩) (some ⟨b2, off2, none⟩) lc ec ed.2.2.length lcap p ed l wl (HG.out.below BL.bel) hA hBe hp3
         have hwls := hwl.symm
         have HEd := hideg hEd
         have HEl := hideg hEl
         have HNe := hideg hne
         have HBl := hideg hbl
         have HBb := hideg hb
         have HBR := hideg BR
         clear hEd hEl hne hEd1 hbl hb BL BR hwl
         go_wp2_with fail
         refine hcl.mono ?_
         rintro e w3 ⟨rfl, hb3⟩
         have hEd := HEd.out
         have hEl := HEl.out
         have hne := HNe.out
         have hbl := HBl.out
         have hb := HBb.out
         have HPT : Hid (pthsL g p ed l = if (pthOf g p ed l).2.2.2.1 <= (pthOf g p ed l).2.2.1 then [] else if p = 3 then [pthOf g p ed l, ((pthOf g p ed l).2.1, (pthOf g p ed l).1, (pthOf g p ed l).2.2)] else [pthOf g p ed l]) := rfl
         generalize pthOf g p ed l = π at *
         generalize pthsL g p ed l = nx at *
         obtain ⟨w4, hw4⟩ : ∃ x, x = w3.alloc (.cells #[.int .i64 π.1, .int .i64 π.2.1, .int .i64 π.2.2.1, .int .i64 π.2.2.2.1, .int .i64 π.2.2.2.2] 94) := ⟨_, rfl⟩
         have hb4 : Below wr.heap.size wr w4 := by rw [hw4]; exact ptg (ptg hbl hb3) (gal w3 _)
         have hP4 : w4.heap[w3.heap.size]? = some (.cells #[.int .i64 π.1, .int .i64 π.2.1, .int .i64 π.2.2.1, .int .i64 π.2.2.2.1, .int .i64 π.2.2.2.2] 94) := by rw [hw4]; show (w3.heap.push _)[_]? = _; simp
         have x0 : w4.cell? ⟨w3.heap.size, 0, none⟩ = some (.int .i64 π.1) := by simp [World.cell?, hP4]
         have x1 : w4.cell? ⟨w3.heap.size, 1, none⟩ = some (.int .i64 π.2.1) := by simp [World.cell?, hP4]
         have x2 : w4.cell? ⟨w3.heap.size, 2, none⟩ = some (.int .i64 π.2.2.1) := by simp [World.cell?, hP4]
         have x3 : w4.cell? ⟨w3.heap.size, 3, none⟩ = some (.int .i64 π.2.2.2.1) := by simp [World.cell?, hP4]
         have x4 : w4.cell? ⟨w3.heap.size, 4, none⟩ = some (.int .i64 π.2.2.2.2) := by simp [World.cell?, hP4]
         have hs3 : wr.heap.size <= w3.heap.size := (ptg hbl hb3).size
         have hs4 : w4.heap.size = w3.heap.size + 1 := by rw [hw4]; simp
         have o1 := ownsRow_below hown hb4
         have o2 : Below w1.heap.size w1 w4 := hb.trans (hb4.mono hb.size)
         have hE4 := (hb4.block Eb hEl).trans hEd
         have hul := fun z (e : u5.ownBlock = some z) => (hown.lt z e).2
         have hw4s := hw4.symm
         clear hcl hwls ga0 ga1 ga2 ge0 ge1 ge2 gl0 gl1 gl2 gl3 m0 m1 m2 m3 l0 l1 l2 l3 hw4 hown hb hEd hbl hb3 hb4
         by_cases hle : π.2.2.2.1 <= π.2.2.1
         · have hnx : nx = [] := by rw [HPT.out, if_pos hle]
           have hd : decide (π.2.2.2.1 <= π.2.2.1) = true := by simpa using hle
           have HO := hideg o1
           have HO2 := hideg o2
           have HE4 := hideg hE4
           have HHS := hideg HES.out
           clear o1 o2 hE4
           unfold ptV
           go_wp2_with fail
           exact ⟨⟨j + 1, by omega, by go_num, by rw [HES.out, hnx, List.append_nil]; exact HO.out, HO2.out, HE4.out, HNe.out⟩, by simp [intOf]; omega⟩
         · have hd : decide (π.2.2.2.1 <= π.2.2.1) = false := by simpa using hle
           have hs5 := o2.size
           have hll : (out ++ pthE g p ed j).length <= 400 := by rw [List.length_append]; omega
           have HBg : Hid (∀ (o : Obj) (w5 : World), (w4.alloc o).grownBy w5 u5.ownBlock -> Below w1.heap.size w1 w5) := fun o w5 hgr => (o2.alloc o2.size o).grown hgr (by have := o2.size; simp at this ⊢; omega) (fun k hk => (o1.lt k hk).1)
           have HGe : Hid (∀ (o : Obj) (w5 : World), (w4.alloc o).grownBy w5 u5.ownBlock -> ∀ q, q < w4.heap.size -> u5.ownBlock ≠ some q -> w5.heap[q]? = w4.heap[q]?) := fun o w5 hgr q hq hn => (hgr.block q (by simp; omega) (Ne.symm hn)).trans ((gal w4 o).block q hq)
           have HEn : Hid (Eb < w4.heap.size) := by show _ < _; omega
           have HPb : Hid (u5.ownBlock ≠ some w3.heap.size) := fun e => by have := hul _ e; omega
           have HO := hideg o1
           have HE4 := hideg hE4
           have HP4 := hideg hP4
           clear o1 o2 hE4 hP4 hul hEl hne
           by_cases p3 : p = 3
           · have p3i : ((p : Int) == 3) = true := by simp; omega
             have hnx : nx = [π, (π.2.1, π.1, π.2.2)] := by rw [HPT.out, if_neg hle, if_pos p3]
             clear p3
             have hs43 : w3.heap.size < w4.heap.size := by omega
             have hs1r := HBb.out.size
             unfold ptV
             go_wp2_with (at_builtin; refine stopHereB ?_)
             refine hideg ?_
             refine wpList_append_own_at _ rfl _ _ 79 rfl w1.heap.size 94 i0 _ 5 40 ((Seq.pu 79).trans Tryz.underlying79) hi hz0 hz1 hz2 rfl (by decide) _ _ _ rfl (World.ownsRow.alloc (w := w4) HO.out _) ⟨w3.heap.size + 1, 0, none⟩ 1 1 [.int .i64 π.1, .int .i64 π.2.1, .int .i64 π.2.2.1, .int .i64 π.2.2.2.1, .int .i64 π.2.2.2.2] rfl rfl (cells_five_new _ _ _ _ _ _ _ _ hs4.symm) (by intro u hu; simp at hu; rcases hu with rfl | rfl | rfl | rfl | rfl <;> rfl) (by unfold maxLen; omega) (by omega) (by simp; omega) ?_
             intro v' w5 hown5 hgrow _ hat
             have hb5 := HBg.out _ _ hgrow
             have hE5 := (HGe.out _ _ hgrow Eb HEn.out HNe.out).trans HE4.out
             have hP5 := (HGe.out _ _ hgrow w3.heap.size hs43 HPb.out).trans HP4.out
             have hn5 : v'.ownBlock ≠ some Eb := fun e => by
               rcases hat with h | h
               · exact HNe.out (h.symm.trans e)
               · rw [h] at e; simp at e; have := HEn.out; omega
             have hq5 : v'.ownBlock ≠ some w3.heap.size := fun e => by
               rcases hat with h | h
               · exact HPb.out (h.symm.trans e)
               · rw [h] at e; simp at e; omega
             have hEP : w3.heap.size ≠ Eb := fun e => by rw [e] at hP5; rw [hP5] at hE5; simp at hE5
             have hs35 : w3.heap.size < w5.heap.size := (Array.getElem?_eq_some_iff.1 hP5).1
             have y0 : w5.cell? ⟨w3.heap.size, 0, none⟩ = some (.int .i64 π.1) := by simp [World.cell?, hP5]
             have y1 : w5.cell? ⟨w3.heap.size, 1, none⟩ = some (.int .i64 π.2.1) := by simp [World.cell?, hP5]
             have yf : ∀ q, w5.frozen? ⟨w3.heap.size, q, none⟩ = false := fun q => by simp [World.frozen?, hP5]
             obtain ⟨w6, hw6⟩ : ∃ x, x = (w5.setCell ⟨w3.heap.size, 0, none⟩ (.int .i64 π.2.1)).setCell ⟨w3.heap.size, 1, none⟩ (.int .i64 π.1) := ⟨_, rfl⟩
             have hP6 : w6.heap[w3.heap.size]? = some (.cells #[.int .i64 π.2.1, .int .i64 π.1, .int .i64 π.2.2.1, .int .i64 π.2.2.2.1, .int .i64 π.2.2.2.2] 94) := by rw [hw6]; exact Sim.setCell_this (Sim.setCell_this hP5)
             have hs6 : w6.heap.size = w5.heap.size := by rw [hw6]; simp [World.setCell]
             have R6 := ownsRow_setBox (j := 1) (u := .int .i64 π.1) (ownsRow_setBox (j := 0) (u := .int .i64 π.2.1) hown5 hq5) hq5
             rw [<- hw6] at R6
             have hb6 : Below w1.heap.size w1 w6 := by rw [hw6]; exact (hb5.setCell (p := ⟨w3.heap.size, 0, none⟩) (by simp only; omega) _).setCell (p := ⟨w3.heap.size, 1, none⟩) (by simp only; omega) _
             have hE6 : w6.heap[Eb]? = some (.cells #[.int .i64 ed.1, .int .i64 ed.2.1, .slice (some ⟨b2, off2, none⟩) ed.2.2.length lcap] 59) := by rw [hw6, Sim.setCell_other (by exact hEP), Sim.setCell_other (by exact hEP)]; exact hE5
             have z0 : w6.cell? ⟨w3.heap.size, 0, none⟩ = some (.int .i64 π.2.1) := by simp [World.cell?, hP6]
             have z1 : w6.cell? ⟨w3.heap.size, 1, none⟩ = some (.int .i64 π.1) := by simp [World.cell?, hP6]
             have z2 : w6.cell? ⟨w3.heap.size, 2, none⟩ = some (.int .i64 π.2.2.1) := by simp [World.cell?, hP6]
             have z3 : w6.cell? ⟨w3.heap.size, 3, none⟩ = some (.int .i64 π.2.2.2.1) := by simp [World.cell?, hP6]
             have z4 : w6.cell? ⟨w3.heap.size, 4, none⟩ = some (.int .i64 π.2.2.2.2) := by simp [World.cell?, hP6]
             have hs7 := hb6.size
             have hw6s := hw6.symm
             have HR6 := hideg R6
             have HB6 := hideg hb6
             have HE6 := hideg hE6
             have HN5 := hideg hn5
             have HE6l : Hid (Eb < w6.heap.size) := (Array.getElem?_eq_some_iff.1 hE6).1
             clear hgrow hat hown5 hb5 hE5 hP5 hn5 hq5 hEP x0 x1 x2 x3 x4 hw4s hw6 hP6 R6 hb6 hE6
             go_wp2_with (at_builtin; refine stopHereB ?_)
             refine hideg ?_
             refine wpList_append_own_at _ rfl _ _ 79 rfl w1.heap.size 94 i0 _ 5 40 ((Seq.pu 79).trans Tryz.underlying79) hi hz0 hz1 hz2 rfl (by decide) _ _ _ rfl (World.ownsRow.alloc (w := w6) HR6.out _) ⟨w5.heap.size, 0, none⟩ 1 1 [.int .i64 π.2.1, .int .i64 π.1, .int .i64 π.2.2.1, .int .i64 π.2.2.2.1, .int .i64 π.2.2.2.2] rfl rfl (cells_five_new _ _ _ _ _ _ _ _ hs6.symm) (by intro u hu; simp at hu; rcases hu with rfl | rfl | rfl | rfl | rfl <;> rfl) (by unfold maxLen; omega) (by omega) (by simp; omega) ?_
             intro v7 w7 hown7 hgrow7 _ hat7
             have hb7 : Below w1.heap.size w1 w7 := (HB6.out.alloc HB6.out.size _).grown hgrow7 (by have := HB6.out.size; simp at this ⊢; omega) (fun k hk => (HR6.out.lt k hk).1)
             have hE7 := ((hgrow7.block Eb (by simp; have := HE6l.out; omega) (Ne.symm HN5.out)).trans ((gal w6 _).block Eb HE6l.out)).trans HE6.out
             have hn7 : v7.ownBlock ≠ some Eb := fun e => by
               rcases hat7 with h | h
               · exact HN5.out (h.symm.trans e)
               · rw [h] at e; simp at e; have := HE6l.out; omega
             have R7 : w7.ownsRow w1.heap.size 94 5 v7 (out ++ pthE g p ed (j + 1)).length (encPs (out ++ pthE g p ed (j + 1))) := by
               rw [HES.out, hnx, <- List.append_assoc, show ([π, (π.2.1, π.1, π.2.2)] : List Pt) = [π] ++ [(π.2.1, π.1, π.2.2)] from rfl, <- List.append_assoc, encPs_append, encPs_append, List.length_append, List.length_append]; exact hown7
             have HF := hideg (And.intro R7 (And.intro hb7 (And.intro hE7 hn7)))
             clear hgrow7 hat7 hown7 R7 hb7 hE7 hn7 z0 z1 z2 z3 z4 hw6s hs4 hs6 hs7
             go_wp2_with fail
             exact ⟨⟨j + 1, by omega, by go_num, HF.out.1, HF.out.2.1, HF.out.2.2.1, HF.out.2.2.2⟩, by simp [intOf]; omega⟩
           · have p3i : ((p : Int) == 3) = false := by simp; omega
             have hnx : nx = [π] := by rw [HPT.out, if_neg hle, if_neg p3]
             unfold ptV
             go_wp2_with (at_builtin; refine stopHereB ?_)
             refine hideg ?_
             refine wpList_append_own_at _ rfl _ _ 79 rfl w1.heap.size 94 i0 _ 5 40 ((Seq.pu 79).trans Tryz.underlying79) hi hz0 hz1 hz2 rfl (by decide) _ _ _ rfl (World.ownsRow.alloc (w := w4) HO.out _) ⟨w3.heap.size + 1, 0, none⟩ 1 1 [.int .i64 π.1, .int .i64 π.2.1, .int .i64 π.2.2.1, .int .i64 π.2.2.2.1, .int .i64 π.2.2.2.2] rfl rfl (cells_five_new _ _ _ _ _ _ _ _ hs4.symm) (by intro u hu; simp at hu; rcases hu with rfl | rfl | rfl | rfl | rfl <;> rfl) (by unfold maxLen; omega) (by omega) (by simp; omega) ?_
             intro v' w5 hown5 hgrow _ hat
             have hb5 := HBg.out _ _ hgrow
             have R5 : w5.ownsRow w1.heap.size 94 5 v' (out ++ pthE g p ed (j + 1)).length (encPs (out ++ pthE g p ed (j + 1))) := by rw [HES.out, hnx, <- List.append_assoc, encPs_append, List.length_append]; exact hown5
             have hE5 := (HGe.out _ _ hgrow Eb HEn.out HNe.out).trans HE4.out
             have hn5 : v'.ownBlock ≠ some Eb := fun e => by
               rcases hat with h | h
               · exact HNe.out (h.symm.trans e)
               · rw [h] at e; simp at e; have := HEn.out; omega
             have HF := hideg (And.intro R5 (And.intro hb5 (And.intro hE5 hn5)))
             clear hgrow hat hown5 R5 hb5 hE5 hn5 x0 x1 x2 x3 x4 hw4s
             go_wp2_with fail
             exact ⟨⟨j + 1, by omega, by go_num, HF.out.1, HF.out.2.1, HF.out.2.2.1, HF.out.2.2.2⟩, by simp [intOf]; omega⟩
       · have hjn : j = ed.2.2.length := by omega
         subst hjn
         rw [<- HS.out] at hown
         clear BR
         go_wp2
         go_roundw
         case rel => exact ⟨k + 1, by omega, by go_num, hown, hb⟩
         case measure => simp [intOf]; omega
   · have hke : k = g.edges.length := by omega
     subst hke
     rw [pthG_all] at hown
     have R := owns_base2 hown HB1.out.bel.size
     have hbF := BR.bel
     clear hown BR
     go_wp2
     go_ret
     exact ⟨_, rfl, R, hbF⟩
theorem neq_pc (x y : Int × Int × Int) (w : World) : (binOp .neq 51 (.agg #[.int .i64 x.1, .int .i64 x.2.1, .int .i64 x.2.2]) (.agg #[.int .i64 y.1, .int .i64 y.2.1, .int .i64 y.2.2])).run Seq.prog w = .ok (.bool (!(x.1 == y.1 && (x.2.1 == y.2.1 && x.2.2 == y.2.2)))) w := by
 have u3 := ((Seq.pu 3).trans Tryz.underlying3)
 have a3 := (fun w => (Seq.ag 3 w).trans (Tryz.isAgg3 w))
 have z3 := (fun w => (Seq.so 3 w).trans (Tryz.sizeOf3 w))
 have hS : Seq.prog.underlying 51 = some (.struct (Seq.prog.fieldsOf 51)) := by kernel_rfl
 have hp : Seq.prog.stoodInHeld 51 = false := by kernel_rfl
 rw [run_neq_struct, show (10000 : Nat) = 9999 + 1 from rfl, run_equalIn_agg w 9999 51 _ _ hS hp]
 simp only [Program.fieldsOf, ((Seq.pu 51).trans Tryz.underlying51)]
 go_simp
 by_cases h1 : x.fst = y.fst <;> by_cases h2 : x.snd.fst = y.snd.fst <;> by_cases h3 : x.snd.snd = y.snd.snd <;> simp [h1, h2, h3]
set_option maxHeartbeats 2000000 in
theorem Equal3_any (ao bo : Option Addr) (ca cb : Nat) (a b : List (Int × Int × Int)) (w : World) (hA : PcAt w ao a) (hB : PcAt w bo b) (hl : a.length <= 9223372036854775807) :
   Calls Seq.prog 17 #[.slice ao a.length ca, .slice bo b.length cb] w fun e w' => e = .returned (.bool (decide (a = b))) /\ Below w.heap.size w w' := by
 by_cases hlen : a.length = b.length
 · have hm : Seq.prog.eqGuardType Seq.prog.depth 51 = false := by kernel_rfl
   have HLN : Hid (a.length = b.length) := hlen
   rw [<- hlen]
   have hne : ((a.length : Int) != (a.length : Int)) = false := by simp
   clear hlen
   go_enter Seq.func17, Tryz.ntmps17
   go_wp2
   go_loopw [5, 13] (fun _ i wr => ∃ k : Nat, k <= a.length /\ i = .int .i64 k /\ a.take k = b.take k /\ Below w.heap.size w wr) (fun _ i _ => a.length - (intOf i).toNat)
   case atStart => exact ⟨0, Nat.zero_le _, rfl, rfl, Below.refl _ _⟩
   case round =>
     obtain ⟨k, hk, rfl, hh, hb⟩ := hrel
     have HH : Hid (a.take k = b.take k) := hh
     clear hh
     by_cases hlt : k < a.length
     · have hlt' : k < b.length := by have := HLN.out; omega
       rcases hA.below hb with h0 | ⟨b1, o1, rfl, hb1, hc1⟩
       · subst h0; simp at hlt
       rcases hB.below hb with h0 | ⟨b2, o2, rfl, hb2, hc2⟩
       · subst h0; simp at hlt'
       obtain ⟨c0, c1, c2⟩ := PcAt.get hlt hc1
       obtain ⟨d0, d1, d2⟩ := PcAt.get hlt' hc2
       have nq := neq_pc a[k] b[k]
       clear hc1 hc2 hA hB
       by_cases g : a[k] = b[k]
       · have e1 : (a[k].1 == b[k].1) = true := by rw [g]; simp
         have e2 : (a[k].2.1 == b[k].2.1) = true := by rw [g]; simp
         have e3 : (a[k].2.2 == b[k].2.2) = true := by rw [g]; simp
         have HC : Hid (a.take (k + 1) = b.take (k + 1)) := by show _ = _; rw [take_succ_get a k hlt, take_succ_get b k hlt', HH.out, g]
         rw [e1, e2, e3] at nq
         clear g e1 e2 e3
         go_wp2
         go_quiet (fail)
         go_wp2
         go_roundw
         case rel => exact ⟨k + 1, by omega, by go_num, HC.out, below_drewN hb _⟩
         case measure => simp [intOf]; omega
       · have e1 : (a[k].1 == b[k].1 && (a[k].2.1 == b[k].2.1 && a[k].2.2 == b[k].2.2)) = false := by
           rw [<- Bool.not_eq_true, Bool.and_eq_true, Bool.and_eq_true, beq_iff_eq, beq_iff_eq, beq_iff_eq]
           exact fun ⟨h, h', h''⟩ => g (Prod.ext h (Prod.ext h' h''))
         have HC : Hid (decide (a = b) = false) := by
           show _ = _
           rw [decide_eq_false_iff_not]
           intro h; subst h; exact g rfl
         rw [e1] at nq
         clear g e1
         go_wp2
         go_quiet (fail)
         go_wp2
         go_ret
         exact ⟨ret_bool HC.out.symm, below_drewN hb _⟩
     · have hkl : k = a.length := by omega
       have HC : Hid (decide (a = b) = true) := by
         show _ = _
         have := HH.out
         rw [hkl, List.take_length, HLN.out, List.take_length] at this
         rw [this]; simp
       go_wp2
       go_ret
       exact ⟨ret_bool HC.out.symm, hb⟩
 · have hne : ((a.length : Int) != (b.length : Int)) = true := by simp; omega
   have HC : Hid (decide (a = b) = false) := by
     show _ = _
     rw [decide_eq_false_iff_not]
     intro h; subst h; exact hlen rfl
   clear hlen
   go_enter Seq.func17, Tryz.ntmps17
   go_wp2
   go_ret
   exact ⟨ret_bool HC.out.symm, Below.refl _ _⟩
open Crw (Ready DeadAt zqs)
open Sim (Zt)
theorem pair_asked : askE gPair (2 : Nat) 0 = 0 := by decide
theorem pair_chk : gChk gPair = 0 := by decide
theorem one_pcAt (w : World) (T : TypeId) (a b c : Int) : PcAt (w.alloc (.cells #[.int .i64 a, .int .i64 b, .int .i64 c] T)) (some ⟨w.heap.size, 0, none⟩) [(a, b, c)] := by
 refine .inr ⟨_, _, rfl, by simp, fun j hj => ?_⟩
 have hj' : j = 0 := by simp at hj; omega
 subst hj'
 exact ⟨new_cell0 rfl rfl, new_cell0 rfl rfl, new_cell0 rfl rfl⟩
set_option maxRecDepth 100000 in
set_option maxHeartbeats 2000000 in
theorem runs_any (w : World) : Calls Seq.prog 5 #[] w fun e w' => (e = .returned (.bool true) /\ Below w.heap.size w w') \/ (¬ Zt zqs w.tape /\ ∃ ch, e = .panicked ch /\ DeadAt w') := by
 have H1 := hideg (fun la ea W (hG : GAt W la ea gPair) => bsRun_ok gPair la ea 2 1 2 0 W hG pair_asked pair_chk (bsPaths_any gPair la ea 2 1 2 pair_chk (by omega)))
 have HP := hideg (fun W => pair_any W)
 have HT : Hid (∀ T : Nat -> List P3, (∀ v, v < gPair.lives.length -> T v = allP gPair 2 0 v gPair.hor.toNat) -> T 0 = [(0, 10, 0)] /\ T 1 = [(2, 4, 7)]) := fun T h => ⟨(h 0 (by decide)).trans pair_one, (h 1 (by decide)).trans pair_two⟩
 have HN : Hid (gPair.lives.length = 2 /\ allR gPair 2 0 gPair.hor.toNat = 1) := ⟨rfl, pair_rounds⟩
 generalize gPair = gp at *
 go_enter Seq.func5, Tryz.ntmps5
 go_wp2_with fail
 refine (HP.out _).mono ?_
 rintro r w1 ⟨la, ea, rfl, hG1, hb1⟩
 have h1 := H1.out la ea w1 hG1
 clear HP H1 hG1
 go_wp2_with fail
 refine h1.mono ?_
 clear h1
 rintro e w2 (⟨go, val, T, r, rfl, A2, hT, hr, hb2⟩ | ⟨hz, ch, rfl, hd⟩)
 · rw [HN.out.2] at hr
   subst hr
   obtain ⟨e0, e1⟩ := HT.out T hT
   rw [HN.out.1] at A2 ⊢
   have c0 := A2.out (v := 0) (by omega)
   have c1 := A2.out (v := 1) (by omega)
   have o0 := A2.inn 0 (by omega)
   have o1 := A2.inn 1 (by omega)
   rw [e0] at o0
   rw [e1] at o1
   obtain ⟨a0, n0, q0, p0⟩ := pcAt_of_owns o0
   obtain ⟨a1, n1, q1, p1⟩ := pcAt_of_owns o1
   rw [q0] at c0
   rw [q1] at c1
   have hE1 := Equal3_any a0 (some ⟨w2.heap.size, 0, none⟩) n0 1 [(0, 10, 0)] [(0, 10, 0)] (w2.alloc (.cells #[.int .i64 0, .int .i64 10, .int .i64 0] 51)) (p0.below (gal _ _)) (one_pcAt _ _ _ _ _) (by simp)
   have HE2 := hideg (fun W (hb : Below w2.heap.size w2 W) => Equal3_any a1 (some ⟨W.heap.size, 0, none⟩) n1 1 [(2, 4, 7)] [(2, 4, 7)] (W.alloc (.cells #[.int .i64 2, .int .i64 4, .int .i64 7] 51)) (p1.below (ptg hb (gal _ _))) (one_pcAt _ _ _ _ _) (by simp))
   have HC1 : Hid (∀ W, Below w2.heap.size w2 W -> W.cell? ⟨go, 1, none⟩ = some (.slice a1 [((2 : Int), (4 : Int), (7 : Int))].length n1)) := fun W hb => (hb.cell (p := ⟨go, 1, none⟩) (World.ownsRow.lt A2.own go rfl).2).trans c1
   rw [show decide (([(0, 10, 0)] : List P3) = [(0, 10, 0)]) = true from by decide] at hE1
   rw [show decide (([(2, 4, 7)] : List P3) = [(2, 4, 7)]) = true from by decide] at HE2
   simp only [List.length_cons, List.length_nil, Nat.zero_add] at hE1 HE2 c0 c1 HC1
   have HB2 := hideg (ptg hb1 hb2)
   have c0' := ((gal w2 (.cells #[.int .i64 0, .int .i64 10, .int .i64 0] 51)).cell (p := ⟨go, 1, none⟩) (World.ownsRow.lt A2.own go rfl).2).trans c1
   clear A2 hT HT o0 o1 q0 q1 p0 p1 e0 e1 hb1 hb2 HN c0'
   go_wp2_with fail
   refine hE1.mono ?_
   rintro e w3 ⟨rfl, hb3⟩
   have hb23 := ptg (gal w2 _) hb3
   have d1 := HC1.out w3 hb23
   have hE2 := HE2.out w3 hb23
   clear hE1 HE2 HC1 c0 c1 hb3
   go_wp2_with fail
   refine hE2.mono ?_
   rintro e w4 ⟨rfl, hb4⟩
   have HF := hideg (ptg HB2.out (ptg hb23 (ptg (gal w3 _) hb4)))
   clear hE2 d1 hb23 hb4 HB2
   go_wp2
   go_ret
   exact .inl ⟨rfl, HF.out⟩
 · exact ⟨rfl, .inr ⟨fun h => hz (by rw [hb1.tape]; exact h), ch, rfl, hd⟩⟩
theorem owns_len {w : World} {base e size : Nat} {v : Value} {n : Nat} {xs : List Value} (h : w.ownsRow base e size v n xs) : n <= 9223372036854775807 := by
 rcases h.2 with ⟨_, h0⟩ | ⟨g, cap, cur, _, _, _, h3, h4, _⟩
 · omega
 · unfold maxLen at h4; omega
set_option maxRecDepth 100000 in
set_option maxHeartbeats 1000000 in
theorem eqRows_any (c : FuncId) (eg : ∀ args w, (callFunc c args).run Seq.prog w = .ok (.enter c args) w)
   (hc : ∀ ao bo ca cb (a b : List P3) W, PcAt W ao a -> PcAt W bo b -> a.length <= 9223372036854775807 -> Calls Seq.prog c #[.slice ao a.length ca, .slice bo b.length cb] W fun e w' => e = .returned (.bool (decide (a = b))) /\ Below W.heap.size W w')
   {b1 b2 go go2 n : Nat} {val val2 : Nat -> Value} {T T2 : Nat -> List P3} (w : World) (A : AM w b1 go n val T) (A2 : AM w b2 go2 n val2 T2) (hT : ∀ v, v < n -> T v = T2 v) :
   Calls Seq.prog 15 #[.slice (some ⟨go, 0, none⟩) n n, .slice (some ⟨go2, 0, none⟩) n n, .func (.func c) #[] #[]] w fun e w' => e = .returned (.bool true) /\ Below w.heap.size w w' := by
 have hn := owns_len A.own
 have HA := hideg A
 have HA2 := hideg A2
 have HT := hideg hT
 have HC := hideg hc
 have dn : ((n : Int) != (n : Int)) = false := by simp
 clear A A2 hT hc
 go_enter Seq.func15, Tryz.ntmps15
 go_wp2_with fail
 go_loopw [17] (fun i wr => ∃ k : Nat, k <= n /\ i = .int .i64 k /\ Below w.heap.size w wr) (fun i _ => n - (intOf i).toNat)
 case atStart => exact ⟨0, Nat.zero_le _, rfl, Below.refl _ _⟩
 case round =>
   obtain ⟨k, hk, rfl, hb⟩ := hrel
   by_cases hkl : k < n
   · have hki : (k : Int) < (n : Int) := by omega
     have hkw : IntKind.i64.wrap ((k : Int) + 1) = (k : Int) + 1 := wrap_nr _ (by omega) (by omega)
     have R1 := HA.out.below hb
     have R2 := HA2.out.below hb
     have c1 := R1.out hkl
     have c2 := R2.out hkl
     obtain ⟨ao, ca, e1, p1⟩ := pcAt_of_owns (R1.inn k hkl)
     obtain ⟨bo, cb, e2, p2⟩ := pcAt_of_owns (R2.inn k hkl)
     rw [e1] at c1
     rw [e2] at c2
     have hl := owns_len (R1.inn k hkl)
     have hcl := HC.out ao bo ca cb (T k) (T2 k) wr p1 p2 hl
     rw [show decide (T k = T2 k) = true from decide_eq_true (HT.out k hkl)] at hcl
     generalize T k = x at *
     generalize T2 k = y at *
     have HB := hideg hb
     clear R1 R2 e1 e2 p1 p2 hb
     go_wp2_with fail
     refine hcl.mono ?_
     rintro e w3 ⟨rfl, hb3⟩
     have HB3 := hideg (ptg HB.out hb3)
     clear hcl hb3 c1 c2
     go_wp2
     go_roundw
     case rel => exact ⟨k + 1, by omega, by go_num, HB3.out⟩
     case measure => simp [intOf]; omega
   · have HB := hideg hb
     clear hb
     go_wp2
     go_ret
     exact ⟨rfl, HB.out⟩
set_option maxRecDepth 100000 in
theorem eqRows_nil (c : FuncId) (w : World) : Calls Seq.prog 15 #[.slice none 0 0, .slice none 0 0, .func (.func c) #[] #[]] w fun e w' => e = .returned (.bool true) /\ w' = w := by
 go_enter Seq.func15, Tryz.ntmps15
 go_wp2_with fail
 go_loopw [17] (fun i wr => i = .int .i64 0 /\ wr = w) (fun _ _ => 0)
 case atStart => exact ⟨rfl, rfl⟩
 case round =>
   obtain ⟨rfl, rfl⟩ := hrel
   go_wp2
   go_ret
   exact ⟨rfl, rfl⟩
def restF (n m : Int) : Int := if n.tmod m < 0 then n.tmod m + m else n.tmod m
theorem restF_in (n m : Int) (hm : 0 < m) : 0 <= restF n m /\ restF n m < m := by
 have h1 := Int.tmod_lt_of_pos n hm
 have h2 := Int.lt_tmod_of_pos n hm
 unfold restF
 split <;> omega
theorem restF_any (n m : Int) (hm : 0 < m) (hM : m < 4611686018427387904) (w : World) :
   Calls Seq.prog 8 #[.int .i64 n, .int .i64 m] w fun e w' => e = .returned (.int .i64 (restF n m)) /\ w' = w := by
 have h1 := Int.tmod_lt_of_pos n hm
 have h2 := Int.lt_tmod_of_pos n hm
 have hz : ¬ m = 0 := by omega
 have hz' : (m == 0) = false := by simpa using hz
 have hw0 : IntKind.i64.wrap (n.tmod m) = n.tmod m := wrap_nr _ (by omega) (by omega)
 by_cases h0 : n.tmod m < 0
 · have d : decide (n.tmod m < 0) = true := by simpa using h0
   have hw : IntKind.i64.wrap (n.tmod m + m) = n.tmod m + m := wrap_nr _ (by omega) (by omega)
   have HQ : Hid (restF n m = n.tmod m + m) := by show _ = _; unfold restF; rw [if_pos h0]
   go_enter Seq.func8, Tryz.ntmps8
   go_wp2
   go_ret
   exact ⟨by rw [HQ.out]; rfl, rfl⟩
 · have d : decide (n.tmod m < 0) = false := by simpa using h0
   have HQ : Hid (restF n m = n.tmod m) := by show _ = _; unfold restF; rw [if_neg h0]
   go_enter Seq.func8, Tryz.ntmps8
   go_wp2
   go_ret
   exact ⟨by rw [HQ.out]; rfl, rfl⟩
theorem restN_any (n m : Int) (hm : 0 < m) (hM : m < 4611686018427387904) (w : World) :
   Calls Seq.prog 8 #[.int .i64 n, .int .i64 m] w fun e w' => (∃ k : Int, 0 <= k /\ k < m /\ e = .returned (.int .i64 k)) /\ w' = w :=
 (restF_any n m hm hM w).mono fun _ _ h => ⟨⟨_, (restF_in n m hm).1, (restF_in n m hm).2, h.1⟩, h.2⟩
theorem bsAsk_zero {g : Gr} {p v : Int} (h : askE g p v = 0) : gChk g = 0 /\ ∃ q : Nat, p = q /\ (q = 1 \/ q = 2 \/ q = 3) := by
 unfold askE at h
 by_cases e : gChk g = 0
 · rw [if_pos e] at h
   by_cases i : inR p 1 3 = true
   · rw [inR_iff] at i
     exact ⟨e, p.toNat, by omega, by omega⟩
   · rw [if_neg i] at h; omega
 · rw [if_neg e] at h; exact absurd h e
def RowsAt (W : World) (base : Nat) (g : Gr) (p fr : Int) (v : Value) : Prop :=
 (askE g p fr ≠ 0 /\ v = .slice none 0 0) \/ (askE g p fr = 0 /\ ∃ go val T, v = .slice (some ⟨go, 0, none⟩) g.lives.length g.lives.length /\ AM W base go g.lives.length val T /\ ∀ u, u < g.lives.length -> T u = allP g p.toNat fr u g.hor.toNat)
theorem RowsAt.below {W W' : World} {base : Nat} {g : Gr} {p fr : Int} {v : Value} (h : RowsAt W base g p fr v) (hb : Below W.heap.size W W') : RowsAt W' base g p fr v := by
 rcases h with h | ⟨e, go, val, T, rfl, A, hT⟩
 · exact .inl h
 · exact .inr ⟨e, go, val, T, rfl, A.below hb, hT⟩
theorem combined_rows (g : Gr) (la ea : Option Addr) (lc ec : Nat) (p fr : Int) : ∃ R : Int, ∀ (K : Int) (w : World), GAt w la ea g -> 1 <= K /\ K <= 64 ->
   Calls Seq.prog 14 #[.agg #[.int .i64 g.hor, .slice la g.lives.length lc, .slice ea g.edges.length ec], .int .i64 p, .int .i64 fr, .int .i64 K] w fun e w' => (∃ v, e = .returned (.tuple #[v, .int .i64 R, .int .i64 (askE g p fr)]) /\ RowsAt w' w.heap.size g p fr v /\ Below w.heap.size w w') \/ (¬ Zt zqs w.tape /\ ∃ ch, e = .panicked ch /\ DeadAt w') := by
 by_cases hE : askE g p fr = 0
 · obtain ⟨h0, q, rfl, hq⟩ := bsAsk_zero hE
   refine ⟨allR g q fr g.hor.toNat, fun K w hG hK => ?_⟩
   obtain ⟨k, rfl⟩ : ∃ k : Nat, K = k := ⟨K.toNat, by omega⟩
   refine (bsCombined_ok g la ea lc ec q k fr w hG hE h0 ⟨by omega, by omega⟩ (bsPaths_any g la ea lc ec q h0 hq)).mono ?_
   rintro e w' (⟨go, val, T, r, rfl, A, hT, rfl, hb⟩ | h)
   · exact .inl ⟨_, by rw [hE], .inr ⟨hE, go, val, T, rfl, A, hT⟩, hb⟩
   · exact .inr h
 · refine ⟨0, fun K w hG hK => ?_⟩
   refine (bsCombined_err g la ea lc ec p fr K w hG hE).mono ?_
   rintro e w' ⟨rfl, hb⟩
   exact .inl ⟨_, rfl, .inl ⟨hE, rfl⟩, hb⟩
set_option maxRecDepth 100000 in
theorem samew_any (ao bo : Option Addr) (ca cb : Nat) (a b : List P3) (W : World) (hA : PcAt W ao a) (hB : PcAt W bo b) (hl : a.length <= 9223372036854775807) :
   Calls Seq.prog 16 #[.slice ao a.length ca, .slice bo b.length cb] W fun e w' => e = .returned (.bool (decide (a = b))) /\ Below W.heap.size W w' := by
 have h1 := Equal3_any ao bo ca cb a b W hA hB hl
 generalize decide (a = b) = x at *
 clear hA hB hl
 go_enter Seq.func16, Tryz.ntmps16
 go_wp2_with fail
 refine h1.mono ?_
 rintro e w2 ⟨rfl, hb2⟩
 have HB := hideg hb2
 clear h1 hb2
 go_wp2
 go_ret
 exact ⟨rfl, HB.out⟩
theorem eqRows_two {g : Gr} {p fr : Int} {b1 b2 : Nat} {v1 v2 : Value} {w : World} (h1 : RowsAt w b1 g p fr v1) (h2 : RowsAt w b2 g p fr v2) :
   Calls Seq.prog 15 #[v1, v2, .func (.func 16) #[] #[]] w fun e _ => e = .returned (.bool true) := by
 rcases h1 with ⟨n1, rfl⟩ | ⟨z1, go, val, T, rfl, A, hT⟩
 · rcases h2 with ⟨_, rfl⟩ | ⟨z2, _⟩
   · exact (eqRows_nil _ w).mono fun e w' h => h.1
   · exact absurd z2 n1
 · rcases h2 with ⟨n2, _⟩ | ⟨_, go2, val2, T2, rfl, A2, hT2⟩
   · exact absurd z1 n2
   · exact (eqRows_any 16 (fun args w => by simp) (fun ao bo ca cb a b W hA hB hl => samew_any ao bo ca cb a b W hA hB hl) w A A2 (fun v hv => (hT v hv).trans (hT2 v hv).symm)).mono fun e w' h => h.1
set_option maxRecDepth 100000 in
set_option maxHeartbeats 4000000 in
theorem bspWorkers_walk (g : Gr) (la ea : Option Addr) (lc ec : Nat) (p fr a b : Int) (w : World) (hG : GAt w la ea g) :
   Calls Seq.prog 4 #[.agg #[.int .i64 g.hor, .slice la g.lives.length lc, .slice ea g.edges.length ec], .int .i64 p, .int .i64 fr, .int .i64 a, .int .i64 b] w fun e w' => e = .returned (.bool true) \/ (¬ Zt zqs w.tape /\ ∃ ch, e = .panicked ch /\ DeadAt w') := by
 obtain ⟨R, hR⟩ := combined_rows g la ea lc ec p fr
 have B0 := gbox_start w g la ea lc ec 25
 have HC := hideg (fun K X (hb : Below w.heap.size w X) (hK : 1 <= K /\ K <= 64) => hR K X (hG.below hb) hK)
 have HE : Hid (∀ (W : World) b1 b2 v1 v2, RowsAt W b1 g p fr v1 -> RowsAt W b2 g p fr v2 -> _) := fun W b1 b2 v1 v2 h1 h2 => eqRows_two (w := W) h1 h2
 have r1 := fun n W => restN_any n 64 (by omega) (by omega) W
 have hrun := runs_any (w.alloc (.cells #[.int .i64 g.hor, .slice la g.lives.length lc, .slice ea g.edges.length ec] 25))
 generalize askE g p fr = x at HC
 have e3 : (R == R) = true := by simp
 have e4 : (x == x) = true := by simp
 have HB0 := hideg B0
 clear hG hR B0
 go_enter Seq.func4, Tryz.ntmps4
 go_wp2_with fail
 refine hrun.mono ?_
 clear hrun
 rintro e w1 (⟨rfl, hb1⟩ | ⟨hz, ch, rfl, hd⟩)
 · have HB1 := hideg (HB0.out.below hb1)
   clear hb1
   have g0 := HB1.out.c0
   have g1 := HB1.out.c1
   have g2 := HB1.out.c2
   go_wp2_with fail
   refine Go.wp_region_held (S := fun w3 => w3.cell? ⟨w.heap.size, 0, none⟩ = some (.int .i64 g.hor) /\ w3.cell? ⟨w.heap.size, 1, none⟩ = some (.slice la g.lives.length lc) /\ w3.cell? ⟨w.heap.size, 2, none⟩ = some (.slice ea g.edges.length ec)) (by kernel_rfl) ?_
   generalize hw8 : ({ w1 with drawn := w1.drawn + 1 } : World) = w2
   have B2 : GBox w w2 w.heap.size g la ea lc ec := by rw [<- hw8]; exact HB1.out.drewN 1
   have hS2 : w2.cell? ⟨w.heap.size, 0, none⟩ = some (.int .i64 g.hor) /\ w2.cell? ⟨w.heap.size, 1, none⟩ = some (.slice la g.lives.length lc) /\ w2.cell? ⟨w.heap.size, 2, none⟩ = some (.slice ea g.edges.length ec) := ⟨B2.c0, B2.c1, B2.c2⟩
   clear hw8 HB1 g0 g1 g2
   refine take_lit (i := 0) (v := ?_) rfl (by kernel_rfl) (by kernel_rfl) (by kernel_rfl) (fun _ _ _ h => h) (Or.inl ⟨by rfl, ?hy0⟩) (by assumption) ?_
   case hy0 => (intro w hSw; (try dsimp only at hSw); go_simp; try with_reducible rfl)
   try simp only [Act.put, List.setIfInBounds_toArray, List.set_cons_zero, List.set_cons_succ]
   refine take_lit (i := 1) (v := ?_) rfl (by kernel_rfl) (by kernel_rfl) (by kernel_rfl) (fun _ _ _ h => h) (Or.inl ⟨by rfl, ?hy1⟩) (by assumption) ?_
   case hy1 => (intro w hSw; (try dsimp only at hSw); go_simp; try with_reducible rfl)
   try simp only [Act.put, List.setIfInBounds_toArray, List.set_cons_zero, List.set_cons_succ]
   refine take_lit (i := 2) (v := ?_) rfl (by kernel_rfl) (by kernel_rfl) (by kernel_rfl) (fun _ _ _ h => h) (Or.inl ⟨by rfl, ?hy2⟩) (by assumption) ?_
   case hy2 => (intro w hSw; (try dsimp only at hSw); go_simp; try with_reducible rfl)
   try simp only [Act.put, List.setIfInBounds_toArray, List.set_cons_zero, List.set_cons_succ]
   refine take_lit (i := 3) (v := ?_) rfl (by kernel_rfl) (by kernel_rfl) (by kernel_rfl) (fun _ _ _ h => h) (Or.inl ⟨by rfl, ?hy3⟩) (by assumption) ?_
   case hy3 => (intro w hSw; (try dsimp only at hSw); go_simp; try with_reducible rfl)
   try simp only [Act.put, List.setIfInBounds_toArray, List.set_cons_zero, List.set_cons_succ]
   refine next_lit (i := 4) rfl (by kernel_rfl) (fun K hK => ?_)
   go_simp
   refine (r1 a w2).mono ?_
   rintro e w' ⟨⟨k, hk0, hk1, rfl⟩, hw'⟩
   rw [hw']
   clear hw' w'
   refine hK.out _ _ hS2 (fun _ => ?_)
   clear hK K
   try simp only [Act.put, List.setIfInBounds_toArray, List.set_cons_zero, List.set_cons_succ]
   have hkw : IntKind.i64.wrap (1 + k) = 1 + k := wrap_nr _ (by omega) (by omega)
   refine take_lit (i := 5) (v := ?_) rfl (by kernel_rfl) (by kernel_rfl) (by kernel_rfl) (fun _ _ _ h => h) (Or.inl ⟨by rfl, ?hy5⟩) (by assumption) ?_
   case hy5 => (intro w hSw; (try dsimp only at hSw); go_simp; try with_reducible rfl)
   try simp only [Act.put, List.setIfInBounds_toArray, List.set_cons_zero, List.set_cons_succ]
   refine next_lit (i := 6) rfl (by kernel_rfl) (fun K hK => ?_)
   go_simp
   refine (HC.out (1 + k) w2 B2.bel ⟨by omega, by omega⟩).mono ?_
   rintro e w3 (⟨v3, rfl, hv3, hb3⟩ | ⟨hz, ch, rfl, hd⟩)
   · have B3 := B2.below hb3
     have hS3 : w3.cell? ⟨w.heap.size, 0, none⟩ = some (.int .i64 g.hor) /\ w3.cell? ⟨w.heap.size, 1, none⟩ = some (.slice la g.lives.length lc) /\ w3.cell? ⟨w.heap.size, 2, none⟩ = some (.slice ea g.edges.length ec) := ⟨B3.c0, B3.c1, B3.c2⟩
     refine hK.out _ _ hS3 (fun _ => ?_)
     try simp only [Act.put, List.setIfInBounds_toArray, List.set_cons_zero, List.set_cons_succ]
     refine take_lit (i := 7) (v := ?_) rfl (by kernel_rfl) (by kernel_rfl) (by kernel_rfl) (fun _ _ _ h => h) (Or.inl ⟨by rfl, ?hy7⟩) (by assumption) ?_
     case hy7 => (intro w hSw; (try dsimp only at hSw); go_simp; try with_reducible rfl)
     try simp only [Act.put, List.setIfInBounds_toArray, List.set_cons_zero, List.set_cons_succ]
     refine take_lit (i := 8) (v := ?_) rfl (by kernel_rfl) (by kernel_rfl) (by kernel_rfl) (fun _ _ _ h => h) (Or.inl ⟨by rfl, ?hy8⟩) (by assumption) ?_
     case hy8 => (intro w hSw; (try dsimp only at hSw); go_simp; try with_reducible rfl)
     try simp only [Act.put, List.setIfInBounds_toArray, List.set_cons_zero, List.set_cons_succ]
     refine take_lit (i := 9) (v := ?_) rfl (by kernel_rfl) (by kernel_rfl) (by kernel_rfl) (fun _ _ _ h => h) (Or.inl ⟨by rfl, ?hy9⟩) (by assumption) ?_
     case hy9 => (intro w hSw; (try dsimp only at hSw); go_simp; try with_reducible rfl)
     try simp only [Act.put, List.setIfInBounds_toArray, List.set_cons_zero, List.set_cons_succ]
     refine take_lit (i := 10) (v := ?_) rfl (by kernel_rfl) (by kernel_rfl) (by kernel_rfl) (fun _ _ _ h => h) (Or.inl ⟨by rfl, ?hy10⟩) (by assumption) ?_
     case hy10 => (intro w hSw; (try dsimp only at hSw); go_simp; try with_reducible rfl)
     try simp only [Act.put, List.setIfInBounds_toArray, List.set_cons_zero, List.set_cons_succ]
     refine take_lit (i := 11) (v := ?_) rfl (by kernel_rfl) (by kernel_rfl) (by kernel_rfl) (fun _ _ _ h => h) (Or.inl ⟨by rfl, ?hy11⟩) (by assumption) ?_
     case hy11 => (intro w hSw; (try dsimp only at hSw); go_simp; try with_reducible rfl)
     try simp only [Act.put, List.setIfInBounds_toArray, List.set_cons_zero, List.set_cons_succ]
     refine take_lit (i := 12) (v := ?_) rfl (by kernel_rfl) (by kernel_rfl) (by kernel_rfl) (fun _ _ _ h => h) (Or.inl ⟨by rfl, ?hy12⟩) (by assumption) ?_
     case hy12 => (intro w hSw; (try dsimp only at hSw); go_simp; try with_reducible rfl)
     try simp only [Act.put, List.setIfInBounds_toArray, List.set_cons_zero, List.set_cons_succ]
     refine take_lit (i := 13) (v := ?_) rfl (by kernel_rfl) (by kernel_rfl) (by kernel_rfl) (fun _ _ _ h => h) (Or.inl ⟨by rfl, ?hy13⟩) (by assumption) ?_
     case hy13 => (intro w hSw; (try dsimp only at hSw); go_simp; try with_reducible rfl)
     try simp only [Act.put, List.setIfInBounds_toArray, List.set_cons_zero, List.set_cons_succ]
     refine wpAnyH_done (by kernel_rfl) ?_ _
     clear hK K hS2 hb3 B2 hS3 hkw hk0 hk1
     have HB3 := hideg B3
     have g0 := B3.c0
     have g1 := B3.c1
     have g2 := B3.c2
     clear B3
     go_wp2_with fail
     refine Go.wp_region_held (S := fun w3 => w3.cell? ⟨w.heap.size, 0, none⟩ = some (.int .i64 g.hor) /\ w3.cell? ⟨w.heap.size, 1, none⟩ = some (.slice la g.lives.length lc) /\ w3.cell? ⟨w.heap.size, 2, none⟩ = some (.slice ea g.edges.length ec)) (by kernel_rfl) ?_
     generalize hw8 : ({ w3 with drawn := w3.drawn + 1 } : World) = w4
     have B4 : GBox w w4 w.heap.size g la ea lc ec := by rw [<- hw8]; exact HB3.out.drewN 1
     have hv4 : RowsAt w4 w2.heap.size g p fr v3 := by rw [<- hw8]; exact hv3.below (below_drewN (Below.refl _ _) 1)
     have hS4 : w4.cell? ⟨w.heap.size, 0, none⟩ = some (.int .i64 g.hor) /\ w4.cell? ⟨w.heap.size, 1, none⟩ = some (.slice la g.lives.length lc) /\ w4.cell? ⟨w.heap.size, 2, none⟩ = some (.slice ea g.edges.length ec) := ⟨B4.c0, B4.c1, B4.c2⟩
     clear hw8 HB3 g0 g1 g2 hv3
     refine take_lit (i := 0) (v := ?_) rfl (by kernel_rfl) (by kernel_rfl) (by kernel_rfl) (fun _ _ _ h => h) (Or.inl ⟨by rfl, ?hy0⟩) (by assumption) ?_
     case hy0 => (intro w hSw; (try dsimp only at hSw); go_simp; try with_reducible rfl)
     try simp only [Act.put, List.setIfInBounds_toArray, List.set_cons_zero, List.set_cons_succ]
     refine take_lit (i := 1) (v := ?_) rfl (by kernel_rfl) (by kernel_rfl) (by kernel_rfl) (fun _ _ _ h => h) (Or.inl ⟨by rfl, ?hy1⟩) (by assumption) ?_
     case hy1 => (intro w hSw; (try dsimp only at hSw); go_simp; try with_reducible rfl)
     try simp only [Act.put, List.setIfInBounds_toArray, List.set_cons_zero, List.set_cons_succ]
     refine take_lit (i := 2) (v := ?_) rfl (by kernel_rfl) (by kernel_rfl) (by kernel_rfl) (fun _ _ _ h => h) (Or.inl ⟨by rfl, ?hy2⟩) (by assumption) ?_
     case hy2 => (intro w hSw; (try dsimp only at hSw); go_simp; try with_reducible rfl)
     try simp only [Act.put, List.setIfInBounds_toArray, List.set_cons_zero, List.set_cons_succ]
     refine take_lit (i := 3) (v := ?_) rfl (by kernel_rfl) (by kernel_rfl) (by kernel_rfl) (fun _ _ _ h => h) (Or.inl ⟨by rfl, ?hy3⟩) (by assumption) ?_
     case hy3 => (intro w hSw; (try dsimp only at hSw); go_simp; try with_reducible rfl)
     try simp only [Act.put, List.setIfInBounds_toArray, List.set_cons_zero, List.set_cons_succ]
     refine next_lit (i := 4) rfl (by kernel_rfl) (fun K hK => ?_)
     go_simp
     refine (r1 b w4).mono ?_
     rintro e w' ⟨⟨k2, hk0, hk1, rfl⟩, hw'⟩
     rw [hw']
     clear hw' w'
     refine hK.out _ _ hS4 (fun _ => ?_)
     clear hK K
     try simp only [Act.put, List.setIfInBounds_toArray, List.set_cons_zero, List.set_cons_succ]
     have hkw : IntKind.i64.wrap (1 + k2) = 1 + k2 := wrap_nr _ (by omega) (by omega)
     refine take_lit (i := 5) (v := ?_) rfl (by kernel_rfl) (by kernel_rfl) (by kernel_rfl) (fun _ _ _ h => h) (Or.inl ⟨by rfl, ?hy5⟩) (by assumption) ?_
     case hy5 => (intro w hSw; (try dsimp only at hSw); go_simp; try with_reducible rfl)
     try simp only [Act.put, List.setIfInBounds_toArray, List.set_cons_zero, List.set_cons_succ]
     refine next_lit (i := 6) rfl (by kernel_rfl) (fun K hK => ?_)
     go_simp
     refine (HC.out (1 + k2) w4 B4.bel ⟨by omega, by omega⟩).mono ?_
     rintro e w5 (⟨v5, rfl, hv5, hb5⟩ | ⟨hz, ch, rfl, hd⟩)
     · have B5 := B4.below hb5
       have hS5 : w5.cell? ⟨w.heap.size, 0, none⟩ = some (.int .i64 g.hor) /\ w5.cell? ⟨w.heap.size, 1, none⟩ = some (.slice la g.lives.length lc) /\ w5.cell? ⟨w.heap.size, 2, none⟩ = some (.slice ea g.edges.length ec) := ⟨B5.c0, B5.c1, B5.c2⟩
       refine hK.out _ _ hS5 (fun _ => ?_)
       try simp only [Act.put, List.setIfInBounds_toArray, List.set_cons_zero, List.set_cons_succ]
       refine take_lit (i := 7) (v := ?_) rfl (by kernel_rfl) (by kernel_rfl) (by kernel_rfl) (fun _ _ _ h => h) (Or.inl ⟨by rfl, ?hy7⟩) (by assumption) ?_
       case hy7 => (intro w hSw; (try dsimp only at hSw); go_simp; try with_reducible rfl)
       try simp only [Act.put, List.setIfInBounds_toArray, List.set_cons_zero, List.set_cons_succ]
       refine take_lit (i := 8) (v := ?_) rfl (by kernel_rfl) (by kernel_rfl) (by kernel_rfl) (fun _ _ _ h => h) (Or.inl ⟨by rfl, ?hy8⟩) (by assumption) ?_
       case hy8 => (intro w hSw; (try dsimp only at hSw); go_simp; try with_reducible rfl)
       try simp only [Act.put, List.setIfInBounds_toArray, List.set_cons_zero, List.set_cons_succ]
       refine take_lit (i := 9) (v := ?_) rfl (by kernel_rfl) (by kernel_rfl) (by kernel_rfl) (fun _ _ _ h => h) (Or.inl ⟨by rfl, ?hy9⟩) (by assumption) ?_
       case hy9 => (intro w hSw; (try dsimp only at hSw); go_simp; try with_reducible rfl)
       try simp only [Act.put, List.setIfInBounds_toArray, List.set_cons_zero, List.set_cons_succ]
       refine take_lit (i := 10) (v := ?_) rfl (by kernel_rfl) (by kernel_rfl) (by kernel_rfl) (fun _ _ _ h => h) (Or.inl ⟨by rfl, ?hy10⟩) (by assumption) ?_
       case hy10 => (intro w hSw; (try dsimp only at hSw); go_simp; try with_reducible rfl)
       try simp only [Act.put, List.setIfInBounds_toArray, List.set_cons_zero, List.set_cons_succ]
       refine take_lit (i := 11) (v := ?_) rfl (by kernel_rfl) (by kernel_rfl) (by kernel_rfl) (fun _ _ _ h => h) (Or.inl ⟨by rfl, ?hy11⟩) (by assumption) ?_
       case hy11 => (intro w hSw; (try dsimp only at hSw); go_simp; try with_reducible rfl)
       try simp only [Act.put, List.setIfInBounds_toArray, List.set_cons_zero, List.set_cons_succ]
       refine take_lit (i := 12) (v := ?_) rfl (by kernel_rfl) (by kernel_rfl) (by kernel_rfl) (fun _ _ _ h => h) (Or.inl ⟨by rfl, ?hy12⟩) (by assumption) ?_
       case hy12 => (intro w hSw; (try dsimp only at hSw); go_simp; try with_reducible rfl)
       try simp only [Act.put, List.setIfInBounds_toArray, List.set_cons_zero, List.set_cons_succ]
       refine take_lit (i := 13) (v := ?_) rfl (by kernel_rfl) (by kernel_rfl) (by kernel_rfl) (fun _ _ _ h => h) (Or.inl ⟨by rfl, ?hy13⟩) (by assumption) ?_
       case hy13 => (intro w hSw; (try dsimp only at hSw); go_simp; try with_reducible rfl)
       try simp only [Act.put, List.setIfInBounds_toArray, List.set_cons_zero, List.set_cons_succ]
       refine wpAnyH_done (by kernel_rfl) ?_ _
       clear hK K hS4 hS5 hkw hk0 hk1 B4
       have h6 := HE.out w5 _ _ _ _ (hv4.below hb5) hv5
       clear hv4 hv5 hb5 B5 HE HC r1
       go_wp2_with fail
       refine h6.mono ?_
       rintro e w6 rfl
       clear h6
       go_wp2
       go_ret
       exact .inl rfl
     · exact ⟨rfl, .inr ⟨fun h => hz (by rw [B4.bel.tape]; exact h), ch, rfl, hd⟩⟩
   · exact ⟨rfl, .inr ⟨fun h => hz (by rw [B2.bel.tape]; exact h), ch, rfl, hd⟩⟩
 · exact ⟨rfl, .inr ⟨fun h => hz (by rw [HB0.out.bel.tape]; exact h), ch, rfl, hd⟩⟩
end Go.Proofs.YthgelfnflafoiaeGreat.Q
namespace Go.Proofs.YthgelfnflafoiaeGreat
open Sim Crw
theorem bspWorkers_holds : Rows.BspWorkersSaid :=
 bspWorkers_of fun g0 la ea lc0 ec0 t1 t2 t3 t4 s h => Q.bspWorkers_walk ⟨g0.hor, g0.lives, g0.edges⟩ la ea lc0 ec0 t1 t2 t3 t4 s ⟨h.lv, h.ed, h.nl, h.ne⟩
end Go.Proofs.YthgelfnflafoiaeGreat
