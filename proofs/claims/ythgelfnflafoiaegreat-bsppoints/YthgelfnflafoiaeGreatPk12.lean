/-
  The law BspPoints holds.
-/
import Derived.Laws.StructEq
import Derived.Test.YthgelfnflafoiaeGreatPk11
namespace Go.Proofs.YthgelfnflafoiaeGreat.Q
open Sim (Seq.prog)
open Go.RowKit
open Crw (Ready DeadAt zqs)
open Sim (Zt)
set_option maxRecDepth 100000 in
set_option maxHeartbeats 1000000 in
theorem bsRun_err (g : Gr) (la ea : Option Addr) (lc ec : Nat) (p fr : Int) (w : World) (hG : GAt w la ea g) (hE : askE g p fr ≠ 0) :
   Calls Seq.prog 6 #[.agg #[.int .i64 g.hor, .slice la g.lives.length lc, .slice ea g.edges.length ec], .int .i64 p, .int .i64 fr] w fun e w' => e = .returned (.tuple #[.slice none 0 0, .int .i64 0, .int .i64 (askE g p fr)]) /\ Below w.heap.size w w' := by
 obtain ⟨w1, hw1⟩ : ∃ x, x = w.alloc (.cells #[.int .i64 g.hor, .slice la g.lives.length lc, .slice ea g.edges.length ec] 25) := ⟨_, rfl⟩
 have B0 : GBox w w1 w.heap.size g la ea lc ec := by rw [hw1]; exact gbox_start w g la ea lc ec 25
 have h1 := bsCombined_err g la ea lc ec p fr 1 _ (hG.below B0.bel) hE
 have HB1 := hideg B0
 have g0 := B0.c0
 have g1 := B0.c1
 have g2 := B0.c2
 have hw1s := hw1.symm
 clear hG B0 hw1
 go_enter Seq.func6, Tryz.ntmps6
 go_wp2_with fail
 refine h1.mono ?_
 rintro e w2 ⟨rfl, hb2⟩
 have HF := hideg (HB1.out.below hb2).bel
 clear h1 hw1s g0 g1 g2 hb2 HB1
 go_wp2
 exact bodyPost_ret (v := .tuple #[.slice none 0 0, .int .i64 0, .int .i64 (askE g p fr)]) (by simp [results, Tryz.results6, go_sem]) rfl ⟨rfl, HF.out⟩
set_option maxRecDepth 100000 in
set_option maxHeartbeats 1000000 in
theorem bsRun_ok (g : Gr) (la ea : Option Addr) (lc ec p : Nat) (fr : Int) (w : World) (hG : GAt w la ea g) (hE : askE g p fr = 0) (h0 : gChk g = 0) (hPath : PathsOk g la ea lc ec p) :
   Calls Seq.prog 6 #[.agg #[.int .i64 g.hor, .slice la g.lives.length lc, .slice ea g.edges.length ec], .int .i64 p, .int .i64 fr] w fun e w' => (∃ go val T r, e = .returned (.tuple #[.slice (some ⟨go, 0, none⟩) g.lives.length g.lives.length, .int .i64 r, .int .i64 0]) /\ AM w' w.heap.size go g.lives.length val T /\ (∀ v, v < g.lives.length -> T v = allP g p fr v g.hor.toNat) /\ r = allR g p fr g.hor.toNat /\ Below w.heap.size w w') \/ (¬ Zt zqs w.tape /\ ∃ ch, e = .panicked ch /\ DeadAt w') := by
 obtain ⟨w1, hw1⟩ : ∃ x, x = w.alloc (.cells #[.int .i64 g.hor, .slice la g.lives.length lc, .slice ea g.edges.length ec] 25) := ⟨_, rfl⟩
 have B0 : GBox w w1 w.heap.size g la ea lc ec := by rw [hw1]; exact gbox_start w g la ea lc ec 25
 have h1 := bsCombined_ok g la ea lc ec p 1 fr _ (hG.below B0.bel) hE h0 (by omega) hPath
 have HB1 := hideg B0
 have g0 := B0.c0
 have g1 := B0.c1
 have g2 := B0.c2
 have hw1s := hw1.symm
 clear hG B0 hw1 hE h0 hPath
 go_enter Seq.func6, Tryz.ntmps6
 go_wp2_with fail
 refine h1.mono ?_
 rintro e w2 (⟨go, val, T, r, rfl, A2, hT, hr, hb2⟩ | ⟨hz, ch, rfl, hd⟩)
 · have HF := hideg (HB1.out.below hb2).bel
   have HA := hideg (A2.base HB1.out.bel.size)
   have HT := hideg hT
   have HR := hideg hr
   clear h1 hw1s g0 g1 g2 hb2 HB1 A2 hT hr
   go_wp2
   exact bodyPost_ret (v := .tuple #[.slice (some ⟨go, 0, none⟩) g.lives.length g.lives.length, .int .i64 r, .int .i64 0]) (by simp [results, Tryz.results6, go_sem]) rfl (.inl ⟨go, val, T, r, rfl, HA.out, HT.out, HR.out, HF.out⟩)
 · exact ⟨rfl, .inr ⟨fun h => hz (by rw [HB1.out.bel.tape]; exact h), ch, rfl, hd⟩⟩
theorem cell_newP {W : World} {cs : Array Value} {T : TypeId} {b j : Nat} {x : Value} (hb : b = W.heap.size) (hx : cs[j]? = some x) : (W.alloc (.cells cs T)).cell? ⟨b, j, none⟩ = some x := by subst hb; simp [hx]
theorem frozen_newP {W : World} {cs : Array Value} {T : TypeId} {b j : Nat} (hb : b = W.heap.size) : (W.alloc (.cells cs T)).frozen? ⟨b, j, none⟩ = false := by subst hb; simp
theorem set5P {w W : World} (h : Below w.heap.size w W) {b : Nat} (hb : w.heap.size <= b) (x0 x1 x2 x3 x4 : Value) (o : Obj) : Below w.heap.size w ((((((W.setCell ⟨b, 0, none⟩ x0).setCell ⟨b, 1, none⟩ x1).setCell ⟨b, 2, none⟩ x2).setCell ⟨b, 3, none⟩ x3).setCell ⟨b, 4, none⟩ x4).alloc o) := by
 have h5 := ((((h.setCell (p := ⟨b, 0, none⟩) hb x0).setCell (p := ⟨b, 1, none⟩) hb x1).setCell (p := ⟨b, 2, none⟩) hb x2).setCell (p := ⟨b, 3, none⟩) hb x3).setCell (p := ⟨b, 4, none⟩) hb x4
 exact h5.alloc h5.size o
structure PBx (w W : World) (A B : Nat) (l1 l2 l4 : Int) : Prop where
 e0 : W.cell? ⟨w.heap.size + 1, 0, none⟩ = some (.int .i64 (A : Int))
 e1 : W.cell? ⟨w.heap.size + 1, 1, none⟩ = some (.int .i64 (B : Int))
 l0 : W.cell? ⟨w.heap.size + 1 + 1, 0, none⟩ = some (.int .i64 l1)
 l1 : W.cell? ⟨w.heap.size + 1 + 1, 1, none⟩ = some (.int .i64 l2)
 l3 : W.cell? ⟨w.heap.size + 1 + 1, 3, none⟩ = some (.int .i64 l4)
 r : ∀ j, j < 5 -> W.cell? ⟨w.heap.size + 1 + 1 + 1, j, none⟩ = some (.int .i64 0)
 fz : ∀ j, W.frozen? ⟨w.heap.size + 1 + 1 + 1, j, none⟩ = false
 bel : Below w.heap.size w W
 lt : w.heap.size + 1 + 1 + 1 < W.heap.size
theorem PBx.below {w W W' : World} {A B : Nat} {l1 l2 l4 : Int} (h : PBx w W A B l1 l2 l4) (hb : Below W.heap.size W W') : PBx w W' A B l1 l2 l4 := by
 have hl := h.lt
 have hs := hb.size
 have q : ∀ b j x, b < W.heap.size -> W.cell? ⟨b, j, none⟩ = some x -> W'.cell? ⟨b, j, none⟩ = some x := fun b j x hlt hx => (hb.cell (p := ⟨b, j, none⟩) hlt).trans hx
 exact ⟨q _ _ _ (by omega) h.e0, q _ _ _ (by omega) h.e1, q _ _ _ (by omega) h.l0, q _ _ _ (by omega) h.l1, q _ _ _ (by omega) h.l3, fun j hj => q _ _ _ (by omega) (h.r j hj), fun j => (hb.frozen (p := ⟨w.heap.size + 1 + 1 + 1, j, none⟩) (by simp only; omega)).trans (h.fz j), ptg h.bel hb, by omega⟩
theorem got5P {W : World} {b : Nat} {y0 y4 : Value} (x0 x1 x2 x3 x4 : Value) (o : Obj) (h0 : W.cell? ⟨b, 0, none⟩ = some y0) (h4 : W.cell? ⟨b, 4, none⟩ = some y4) :
   ((((((W.setCell ⟨b, 0, none⟩ x0).setCell ⟨b, 1, none⟩ x1).setCell ⟨b, 2, none⟩ x2).setCell ⟨b, 3, none⟩ x3).setCell ⟨b, 4, none⟩ x4).alloc o).cell? ⟨b, 0, none⟩ = some x0 /\
   ((((((W.setCell ⟨b, 0, none⟩ x0).setCell ⟨b, 1, none⟩ x1).setCell ⟨b, 2, none⟩ x2).setCell ⟨b, 3, none⟩ x3).setCell ⟨b, 4, none⟩ x4).alloc o).cell? ⟨b, 1, none⟩ = some x1 /\
   ((((((W.setCell ⟨b, 0, none⟩ x0).setCell ⟨b, 1, none⟩ x1).setCell ⟨b, 2, none⟩ x2).setCell ⟨b, 3, none⟩ x3).setCell ⟨b, 4, none⟩ x4).alloc o).cell? ⟨b, 2, none⟩ = some x2 /\
   ((((((W.setCell ⟨b, 0, none⟩ x0).setCell ⟨b, 1, none⟩ x1).setCell ⟨b, 2, none⟩ x2).setCell ⟨b, 3, none⟩ x3).setCell ⟨b, 4, none⟩ x4).alloc o).cell? ⟨b, 3, none⟩ = some x3 /\
   ((((((W.setCell ⟨b, 0, none⟩ x0).setCell ⟨b, 1, none⟩ x1).setCell ⟨b, 2, none⟩ x2).setCell ⟨b, 3, none⟩ x3).setCell ⟨b, 4, none⟩ x4).alloc o).cell? ⟨b, 4, none⟩ = some x4 := by
 have hc : ∃ c t f, W.heap[b]? = some (.cells c t f) := by
   unfold World.cell? at h0
   split at h0
   · rename_i c t f hh; exact ⟨c, t, f, hh⟩
   · cases h0
 obtain ⟨c, t, f, hh⟩ := hc
 have s4 : 4 < c.size := by
   simp only [World.cell?, hh] at h4
   simp at h4
   exact (Array.getElem?_eq_some_iff.1 h4).1
 have hz : (((((W.setCell ⟨b, 0, none⟩ x0).setCell ⟨b, 1, none⟩ x1).setCell ⟨b, 2, none⟩ x2).setCell ⟨b, 3, none⟩ x3).setCell ⟨b, 4, none⟩ x4).heap[b]? = some (.cells (((((c.setIfInBounds 0 x0).setIfInBounds 1 x1).setIfInBounds 2 x2).setIfInBounds 3 x3).setIfInBounds 4 x4) t f) := by
   simp [World.setCell, Array.getElem?_modify, hh]
 have hlt := (Array.getElem?_eq_some_iff.1 hz).1
 generalize ((((W.setCell ⟨b, 0, none⟩ x0).setCell ⟨b, 1, none⟩ x1).setCell ⟨b, 2, none⟩ x2).setCell ⟨b, 3, none⟩ x3).setCell ⟨b, 4, none⟩ x4 = Z at *
 have s0 : 0 < c.size := by omega
 have s1 : 1 < c.size := by omega
 have s2 : 2 < c.size := by omega
 have s3 : 3 < c.size := by omega
 refine ⟨?_, ?_, ?_, ?_, ?_⟩
 · rw [(gal Z o).cell (by exact hlt)]; simp only [World.cell?, hz]; simp [s0]
 · rw [(gal Z o).cell (by exact hlt)]; simp only [World.cell?, hz]; simp [s1]
 · rw [(gal Z o).cell (by exact hlt)]; simp only [World.cell?, hz]; simp [s2]
 · rw [(gal Z o).cell (by exact hlt)]; simp only [World.cell?, hz]; simp [s3]
 · rw [(gal Z o).cell (by exact hlt)]; simp only [World.cell?, hz]; simp [s4]
set_option maxRecDepth 100000 in
set_option maxHeartbeats 4000000 in
theorem pathOf_any (g : Gr) (la ea lo : Option Addr) (lc ec ln lcap p : Nat) (e : Ed) (l : Lg) (w : World) (hG : GAt w la ea g) (hA : 0 <= e.1 /\ e.1 < g.lives.length) (hB : 0 <= e.2.1 /\ e.2.1 < g.lives.length) (hp3 : p = 1 \/ p = 2 \/ p = 3) :
   Calls Seq.prog 52 #[.agg #[.int .i64 g.hor, .slice la g.lives.length lc, .slice ea g.edges.length ec], .agg #[.int .i64 e.1, .int .i64 e.2.1, .slice lo ln lcap], .agg #[.int .i64 l.1, .int .i64 l.2.1, .int .i64 l.2.2.1, .int .i64 l.2.2.2], .int .i64 p] w fun r w' => r = .returned (ptV (pthOf g p e l)) /\ Below w.heap.size w w' := by
 obtain ⟨ea1, eb1, elegs⟩ := e
 obtain ⟨l1, l2, l3, l4⟩ := l
 simp only at hA hB ⊢
 obtain ⟨A, rfl⟩ : ∃ A : Nat, ea1 = (A : Int) := ⟨ea1.toNat, by omega⟩
 obtain ⟨B, rfl⟩ : ∃ B : Nat, eb1 = (B : Int) := ⟨eb1.toNat, by omega⟩
 have hAn : A < g.lives.length := by omega
 have hBn : B < g.lives.length := by omega
 obtain ⟨lb, lof, rfl, hlb, hlc⟩ : ∃ b off, la = some ⟨b, off, none⟩ /\ b < w.heap.size /\ ∀ k (hk : k < g.lives.length), (w.cell? ⟨b, off + k * 2, none⟩ = some (.int .i64 g.lives[k].1) /\ w.cell? ⟨b, off + k * 2 + 1, none⟩ = some (.int .i64 g.lives[k].2)) := by
   rcases hG.lv with h0 | ⟨b, off, rfl, hbr, hc⟩
   · rw [h0] at hAn; simp at hAn
   exact ⟨b, off, rfl, hbr, fun k hk => IvAt.get hk hc⟩
 obtain ⟨a0, a1⟩ := hlc A hAn
 obtain ⟨b0, b1⟩ := hlc B hBn
 have eA : lifeOf g (A : Int) = (g.lives[A].1, g.lives[A].2) := by unfold lifeOf; rw [Int.toNat_natCast, List.getD_eq_getElem?_getD, List.getElem?_eq_getElem hAn]; rfl
 have eB : lifeOf g (B : Int) = (g.lives[B].1, g.lives[B].2) := by unfold lifeOf; rw [Int.toNat_natCast, List.getD_eq_getElem?_getD, List.getElem?_eq_getElem hBn]; rfl
 have HP : Hid (pthOf g p ((A : Int), (B : Int), elegs) (l1, l2, l3, l4) = ((A : Int), (B : Int), max l1 (max g.lives[A].1 g.lives[B].1), min l2 (min g.lives[A].2 g.lives[B].2), priceOf p ((A : Int), (B : Int), l4))) := by show _ = _; unfold pthOf; simp only; rw [eA, eB]
 obtain ⟨mx, hmx⟩ : ∃ m, m = (if (if l1 < g.lives[A].1 then g.lives[A].1 else l1) < g.lives[B].1 then g.lives[B].1 else (if l1 < g.lives[A].1 then g.lives[A].1 else l1)) := ⟨_, rfl⟩
 obtain ⟨mn, hmn⟩ : ∃ m, m = (if g.lives[B].2 < (if g.lives[A].2 < l2 then g.lives[A].2 else l2) then g.lives[B].2 else (if g.lives[A].2 < l2 then g.lives[A].2 else l2)) := ⟨_, rfl⟩
 have hmx2 : max l1 (max g.lives[A].1 g.lives[B].1) = mx := by rw [hmx]; split <;> split <;> omega
 have hmn2 : min l2 (min g.lives[A].2 g.lives[B].2) = mn := by rw [hmn]; split <;> split <;> omega
 rw [hmx2, hmn2] at HP
 have hmxs := hmx.symm
 have hmns := hmn.symm
 clear hmx hmn hmx2 hmn2
 generalize g.lives[A].1 = x1 at *
 generalize g.lives[A].2 = x2 at *
 generalize g.lives[B].1 = z1 at *
 generalize g.lives[B].2 = z2 at *
 clear eA eB hlc hG
 obtain ⟨w1, hw1⟩ : ∃ x, x = (((w.alloc (.cells #[.int .i64 g.hor, .slice (some ⟨lb, lof, none⟩) g.lives.length lc, .slice ea g.edges.length ec] 25)).alloc (.cells #[.int .i64 (A : Int), .int .i64 (B : Int), .slice lo ln lcap] 59)).alloc (.cells #[.int .i64 l1, .int .i64 l2, .int .i64 l3, .int .i64 l4] 61)).alloc (.cells #[.int .i64 0, .int .i64 0, .int .i64 0, .int .i64 0, .int .i64 0] 94) := ⟨_, rfl⟩
 have hb1 : Below w.heap.size w w1 := by rw [hw1]; exact ptg (ptg (ptg (gal _ _) (gal _ _)) (gal _ _)) (gal _ _)
 have hw1s := hw1.symm
 have hs1 : w1.heap.size = w.heap.size + 4 := by rw [hw1]; simp
 have k1 : w1.cell? ⟨w.heap.size, 1, none⟩ = some (.slice (some ⟨lb, lof, none⟩) g.lives.length lc) := by
   rw [hw1, (gal _ _).cell (by simp <;> omega), (gal _ _).cell (by simp <;> omega), (gal _ _).cell (by simp <;> omega)]; exact cell_newP rfl rfl
 have k2 : w1.cell? ⟨w.heap.size + 1, 0, none⟩ = some (.int .i64 (A : Int)) := by
   rw [hw1, (gal _ _).cell (by simp <;> omega), (gal _ _).cell (by simp <;> omega)]; exact cell_newP (by simp) rfl
 have k3 : w1.cell? ⟨w.heap.size + 1, 1, none⟩ = some (.int .i64 (B : Int)) := by
   rw [hw1, (gal _ _).cell (by simp <;> omega), (gal _ _).cell (by simp <;> omega)]; exact cell_newP (by simp) rfl
 have a0' := (hb1.cell (p := ⟨lb, lof + A * 2, none⟩) hlb).trans a0
 have a1' := (hb1.cell (p := ⟨lb, lof + A * 2 + 1, none⟩) hlb).trans a1
 have b0' := (hb1.cell (p := ⟨lb, lof + B * 2, none⟩) hlb).trans b0
 have b1' := (hb1.cell (p := ⟨lb, lof + B * 2 + 1, none⟩) hlb).trans b1
 have hAi : (A : Int) < (g.lives.length : Int) := by omega
 have hBi : (B : Int) < (g.lives.length : Int) := by omega
 have PB0 : PBx w w1 A B l1 l2 l4 := by
   refine ⟨?_, ?_, ?_, ?_, ?_, fun j hj => ?_, fun j => ?_, hb1, by omega⟩
   · exact k2
   · exact k3
   · rw [hw1, (gal _ _).cell (by simp <;> omega)]; exact cell_newP (by simp) rfl
   · rw [hw1, (gal _ _).cell (by simp <;> omega)]; exact cell_newP (by simp) rfl
   · rw [hw1, (gal _ _).cell (by simp <;> omega)]; exact cell_newP (by simp) rfl
   · rw [hw1]
     refine cell_newP (by simp) ?_
     match j, hj with
     | 0, _ => rfl
     | 1, _ => rfl
     | 2, _ => rfl
     | 3, _ => rfl
     | 4, _ => rfl
   · rw [hw1]; exact frozen_newP (by simp)
 clear a0 a1 b0 b1 hw1
 have u0 := fun o => ((gal w1 o).cell (p := ⟨w.heap.size, 1, none⟩) (by simp only; omega)).trans k1
 have v0 := fun o o' => ((ptg (gal w1 o) (gal _ o')).cell (p := ⟨w.heap.size, 1, none⟩) (by simp only; omega)).trans k1
 have u1 := fun o => ((gal w1 o).cell (p := ⟨w.heap.size + 1, 0, none⟩) (by simp only; omega)).trans k2
 have v1 := fun o o' => ((ptg (gal w1 o) (gal _ o')).cell (p := ⟨w.heap.size + 1, 0, none⟩) (by simp only; omega)).trans k2
 have u2 := fun o => ((gal w1 o).cell (p := ⟨w.heap.size + 1, 1, none⟩) (by simp only; omega)).trans k3
 have v2 := fun o o' => ((ptg (gal w1 o) (gal _ o')).cell (p := ⟨w.heap.size + 1, 1, none⟩) (by simp only; omega)).trans k3
 have u3 := fun o => ((gal w1 o).cell (p := ⟨lb, lof + A * 2, none⟩) (by simp only; omega)).trans a0'
 have v3 := fun o o' => ((ptg (gal w1 o) (gal _ o')).cell (p := ⟨lb, lof + A * 2, none⟩) (by simp only; omega)).trans a0'
 have u4 := fun o => ((gal w1 o).cell (p := ⟨lb, lof + A * 2 + 1, none⟩) (by simp only; omega)).trans a1'
 have v4 := fun o o' => ((ptg (gal w1 o) (gal _ o')).cell (p := ⟨lb, lof + A * 2 + 1, none⟩) (by simp only; omega)).trans a1'
 have u5 := fun o => ((gal w1 o).cell (p := ⟨lb, lof + B * 2, none⟩) (by simp only; omega)).trans b0'
 have v5 := fun o o' => ((ptg (gal w1 o) (gal _ o')).cell (p := ⟨lb, lof + B * 2, none⟩) (by simp only; omega)).trans b0'
 have u6 := fun o => ((gal w1 o).cell (p := ⟨lb, lof + B * 2 + 1, none⟩) (by simp only; omega)).trans b1'
 have v6 := fun o o' => ((ptg (gal w1 o) (gal _ o')).cell (p := ⟨lb, lof + B * 2 + 1, none⟩) (by simp only; omega)).trans b1'
 go_enter Seq.func52, Tryz.ntmps52
 go_wp2_with fail
 rename_i Q' K hK
 have TL : ∀ (pa pb : Nat) (W2 : World), PBx w W2 A B l1 l2 l4 -> W2.cell? ⟨pa, 0, none⟩ = some (.int .i64 x1) -> W2.cell? ⟨pa, 1, none⟩ = some (.int .i64 x2) -> W2.cell? ⟨pb, 0, none⟩ = some (.int .i64 z1) -> W2.cell? ⟨pb, 1, none⟩ = some (.int .i64 z2) -> W2.heap.size = w.heap.size + 6 -> K { tmps := #[.agg #[.int .i64 g.hor, .slice (some ⟨lb, lof, none⟩) g.lives.length lc, .slice ea g.edges.length ec], .agg #[.int .i64 (A : Int), .int .i64 (B : Int), .slice lo ln lcap], .agg #[.int .i64 l1, .int .i64 l2, .int .i64 l3, .int .i64 l4], .int .i64 (p : Int), .pointer (some ⟨w.heap.size, 0, none⟩), .pointer (some ⟨w.heap.size + 1, 0, none⟩), .pointer (some ⟨w.heap.size + 1 + 1, 0, none⟩), undef, .pointer (some ⟨w.heap.size + 1 + 1 + 1, 0, none⟩), .pointer (some ⟨pa, 0, none⟩), .pointer (some ⟨pb, 0, none⟩), undef, .pointer (some ⟨w.heap.size, 1, none⟩), .slice (some ⟨lb, lof, none⟩) g.lives.length lc, .pointer (some ⟨w.heap.size + 1, 0, none⟩), .int .i64 (A : Int), .pointer (some ⟨lb, lof + A * 2, none⟩), .agg #[.int .i64 x1, .int .i64 x2], .pointer (some ⟨w.heap.size, 1, none⟩), .slice (some ⟨lb, lof, none⟩) g.lives.length lc, .pointer (some ⟨w.heap.size + 1, 1, none⟩), .int .i64 (B : Int), .pointer (some ⟨lb, lof + B * 2, none⟩), .agg #[.int .i64 z1, .int .i64 z2], undef, undef, undef, undef, undef, undef, undef, undef, undef, undef, undef, undef, undef, undef, undef, undef, undef, undef, undef, undef, undef, undef, undef, undef, undef, undef, undef, undef, undef], defers := [] } W2 := by
   intro pa pb W2 F q0 q1 q2 q3 hs2
   refine hK _ _ ?_
   have e0 := F.e0
   have e1 := F.e1
   have l0 := F.l0
   have l1' := F.l1
   have l3' := F.l3
   have r0 := F.r 0 (by omega)
   have r1 := F.r 1 (by omega)
   have r2 := F.r 2 (by omega)
   have r3 := F.r 3 (by omega)
   have r4 := F.r 4 (by omega)
   have fz := F.fz
   have HBW := hideg F.bel
   clear hK F PB0 u0 u1 u2 u3 u4 u5 u6 v0 v1 v2 v3 v4 v5 v6 k1 k2 k3 a0' a1' b0' b1' hw1s hs1 hb1
   rcases hp3 with rfl | rfl | rfl
   · have HV : Hid (pthOf g 1 ((A : Int), (B : Int), elegs) (l1, l2, l3, l4) = ((A : Int), (B : Int), mx, mn, 1)) := by show _ = _; rw [HP.out]; rfl
     go_wp2
     obtain ⟨t0, t1, t2, t3, t4⟩ := got5P (.int .i64 (A : Int)) (.int .i64 (B : Int)) (.int .i64 mx) (.int .i64 mn) (.int .i64 1) (.cells #[.int .i64 (A : Int), .int .i64 (B : Int), .int .i64 mx, .int .i64 mn, .int .i64 1] 94) r0 r4
     refine bodyPost_ret (v := ptV ((A : Int), (B : Int), mx, mn, 1)) (by simp [results, Tryz.results52, go_sem, ptV, t0, t1, t2, t3, t4]) rfl ⟨by rw [HV.out], ?_⟩
     exact set5P HBW.out (by omega) _ _ _ _ _ _
   · have HV : Hid (pthOf g 2 ((A : Int), (B : Int), elegs) (l1, l2, l3, l4) = ((A : Int), (B : Int), mx, mn, l4)) := by show _ = _; rw [HP.out]; rfl
     go_wp2
     obtain ⟨t0, t1, t2, t3, t4⟩ := got5P (.int .i64 (A : Int)) (.int .i64 (B : Int)) (.int .i64 mx) (.int .i64 mn) (.int .i64 l4) (.cells #[.int .i64 (A : Int), .int .i64 (B : Int), .int .i64 mx, .int .i64 mn, .int .i64 l4] 94) r0 r4
     refine bodyPost_ret (v := ptV ((A : Int), (B : Int), mx, mn, l4)) (by simp [results, Tryz.results52, go_sem, ptV, t0, t1, t2, t3, t4]) rfl ⟨by rw [HV.out], ?_⟩
     exact set5P HBW.out (by omega) _ _ _ _ _ _
   · have HV : Hid (pthOf g 3 ((A : Int), (B : Int), elegs) (l1, l2, l3, l4) = ((A : Int), (B : Int), mx, mn, 0)) := by show _ = _; rw [HP.out]; rfl
     go_wp2
     obtain ⟨t0, t1, t2, t3, t4⟩ := got5P (.int .i64 (A : Int)) (.int .i64 (B : Int)) (.int .i64 mx) (.int .i64 mn) (.int .i64 0) (.cells #[.int .i64 (A : Int), .int .i64 (B : Int), .int .i64 mx, .int .i64 mn, .int .i64 0] 94) r0 r4
     refine bodyPost_ret (v := ptV ((A : Int), (B : Int), mx, mn, 0)) (by simp [results, Tryz.results52, go_sem, ptV, t0, t1, t2, t3, t4]) rfl ⟨by rw [HV.out], ?_⟩
     exact set5P HBW.out (by omega) _ _ _ _ _ _
 go_region
 · obtain ⟨W2, hW2⟩ : ∃ x, x = ((w1.alloc (.cells #[.int .i64 x1, .int .i64 x2] 88)).alloc (.cells #[.int .i64 z1, .int .i64 z2] 88)).drew := ⟨_, rfl⟩
   have hB2 : Below w1.heap.size w1 W2 := by rw [hW2]; exact (ptg (gal w1 _) (gal _ _)).drew
   have q0 : W2.cell? ⟨w.heap.size + 4, 0, none⟩ = some (.int .i64 x1) := by rw [hW2]; exact (((gal _ _).cell (by simp <;> omega)).trans (cell_newP (by omega) rfl))
   have q1 : W2.cell? ⟨w.heap.size + 4, 1, none⟩ = some (.int .i64 x2) := by rw [hW2]; exact (((gal _ _).cell (by simp <;> omega)).trans (cell_newP (by omega) rfl))
   have q2 : W2.cell? ⟨w.heap.size + 4 + 1, 0, none⟩ = some (.int .i64 z1) := by rw [hW2]; exact (cell_newP (by simp; omega) rfl)
   have q3 : W2.cell? ⟨w.heap.size + 4 + 1, 1, none⟩ = some (.int .i64 z2) := by rw [hW2]; exact (cell_newP (by simp; omega) rfl)
   have hs2 : W2.heap.size = w.heap.size + 6 := by rw [hW2]; simp [World.drew, hs1]
   rw [<- hW2]
   exact TL _ _ W2 (PB0.below hB2) q0 q1 q2 q3 hs2
 · obtain ⟨W2, hW2⟩ : ∃ x, x = ((w1.alloc (.cells #[.int .i64 z1, .int .i64 z2] 88)).alloc (.cells #[.int .i64 x1, .int .i64 x2] 88)).drew := ⟨_, rfl⟩
   have hB2 : Below w1.heap.size w1 W2 := by rw [hW2]; exact (ptg (gal w1 _) (gal _ _)).drew
   have q0 : W2.cell? ⟨w.heap.size + 4 + 1, 0, none⟩ = some (.int .i64 x1) := by rw [hW2]; exact (cell_newP (by simp; omega) rfl)
   have q1 : W2.cell? ⟨w.heap.size + 4 + 1, 1, none⟩ = some (.int .i64 x2) := by rw [hW2]; exact (cell_newP (by simp; omega) rfl)
   have q2 : W2.cell? ⟨w.heap.size + 4, 0, none⟩ = some (.int .i64 z1) := by rw [hW2]; exact (((gal _ _).cell (by simp <;> omega)).trans (cell_newP (by omega) rfl))
   have q3 : W2.cell? ⟨w.heap.size + 4, 1, none⟩ = some (.int .i64 z2) := by rw [hW2]; exact (((gal _ _).cell (by simp <;> omega)).trans (cell_newP (by omega) rfl))
   have hs2 : W2.heap.size = w.heap.size + 6 := by rw [hW2]; simp [World.drew, hs1]
   rw [<- hW2]
   exact TL _ _ W2 (PB0.below hB2) q0 q1 q2 q3 hs2
theorem Tryz.infoPath : (Seq.prog.info? 94).map (fun i => (i.zero, i.size, i.bytes)) = some (some (.agg #[.int .i64 0, .int .i64 0, .int .i64 0, .int .i64 0, .int .i64 0]), 5, 40) := by kernel_rfl
def pthE (g : Gr) (p : Nat) (e : Ed) (j : Nat) : List Pt := (e.2.2.take j).flatMap fun l => pthsL g p e l
def pthG (g : Gr) (p : Nat) (k : Nat) : List Pt := (g.edges.take k).flatMap fun e => e.2.2.flatMap fun l => pthsL g p e l
theorem pthE_succ (g : Gr) (p : Nat) (e : Ed) {j : Nat} (hj : j < e.2.2.length) : pthE g p e (j + 1) = pthE g p e j ++ pthsL g p e e.2.2[j] := by
 unfold pthE; rw [List.take_succ_eq_append_getElem hj, List.flatMap_append, List.flatMap_singleton]
theorem pthE_all (g : Gr) (p : Nat) (e : Ed) : pthE g p e e.2.2.length = e.2.2.flatMap fun l => pthsL g p e l := by unfold pthE; rw [List.take_length]
theorem pthG_succ (g : Gr) (p : Nat) {k : Nat} (hk : k < g.edges.length) : pthG g p (k + 1) = pthG g p k ++ pthE g p g.edges[k] g.edges[k].2.2.length := by
 rw [pthE_all]; unfold pthG; rw [List.take_succ_eq_append_getElem hk, List.flatMap_append, List.flatMap_singleton]
theorem pthG_all (g : Gr) (p : Nat) : pthG g p g.edges.length = pathsF g p := by unfold pthG pathsF; rw [List.take_length]
theorem pthG_len {g : Gr} (h0 : gChk g = 0) (p k : Nat) : (pthG g p k).length <= 360 := by
 have R := gChk_right h0
 have h1 := flat_len (fun e : Ed => e.2.2.flatMap fun l => pthsL g p e l) 12 (g.edges.take k) (fun e he => by
   have h2 := flat_len (fun l => pthsL g p e l) 2 e.2.2 (fun l _ => pthsL_len g p e l)
   have h3 := (R.ends e (List.mem_of_mem_take he)).2.2
   omega)
 have h4 := R.eds
 have h5 : (g.edges.take k).length <= g.edges.length := by rw [List.length_take]; omega
 unfold pthG
 omega
theorem pthE_len {g : Gr} (p : Nat) {e : Ed} (he : e.2.2.length <= 6) (j : Nat) : (pthE g p e j).length <= 12 := by
 have h2 := flat_len (fun l => pthsL g p e l) 2 (e.2.2.take j) (fun l _ => pthsL_len g p e l)
 have h5 : (e.2.2.take j).length <= e.2.2.length := by rw [List.length_take]; omega
 unfold pthE
 omega
set_option maxRecDepth 100000 in
set_option maxHeartbeats 4000000 in
theorem bsPaths_any (g : Gr) (la ea : Option Addr) (lc ec p : Nat) (h0 : gChk g = 0) (hp3 : p = 1 \/ p = 2 \/ p = 3) : PathsOk g la ea lc ec p := by
 intro w hG
 obtain ⟨i0, hi, hz0, hz1, hz2⟩ := info_parts Tryz.infoPath
 obtain ⟨w1, hw1⟩ : ∃ x, x = w.alloc (.cells #[.int .i64 g.hor, .slice la g.lives.length lc, .slice ea g.edges.length ec] 25) := ⟨_, rfl⟩
 have B0 : GBox w w1 w.heap.size g la ea lc ec := by rw [hw1]; exact gbox_start w g la ea lc ec 25
 have R := gChk_right h0
 have hed := R.eds
 have HRt := hideg R
 have HG := hideg hG
 have H0 := hideg h0
 have HB1 := hideg B0
 have g0 := B0.c0
 have g2 := B0.c2
 have hw1s := hw1.symm
 clear hG B0 hw1 R h0
 go_enter Seq.func37, Tryz.ntmps37
 go_wp2_with fail
 clear hw1s
 go_loopw [5, 14] (fun u d wr => ∃ k : Nat, k <= g.edges.length /\ d = .int .i64 (k : Int) /\ wr.ownsRow w1.heap.size 94 5 u (pthG g p k).length (encPs (pthG g p k)) /\ Below w1.heap.size w1 wr) (fun _ d _ => g.edges.length - (intOf d).toNat)
 case atStart => exact ⟨0, by omega, by simp, World.ownsRow_nil _ _ _ _, Below.refl _ _⟩
 case round =>
   clear g0 g2
   obtain ⟨k, hk, rfl, hown, hb⟩ := hrel
   have BR := HB1.out.below hb
   have hol := pthG_len H0.out p k
   by_cases hkl : k < g.edges.length
   · obtain ⟨b, off, lo, lcap, rfl, hbr, c0, c1, c2, hL⟩ : ∃ b off lo lcap, ea = some ⟨b, off, none⟩ /\ b < w.heap.size /\ w.cell? ⟨b, off + k * 3, none⟩ = some (.int .i64 g.edges[k].1) /\ w.cell? ⟨b, off + k * 3 + 1, none⟩ = some (.int .i64 g.edges[k].2.1) /\ w.cell? ⟨b, off + k * 3 + 2, none⟩ = some (.slice lo g.edges[k].2.2.length lcap) /\ LgAt w lo g.edges[k].2.2 := by
       rcases HG.out.ed with h0 | ⟨b, off, rfl, hbr, hc⟩
       · rw [h0] at hkl; simp at hkl
       obtain ⟨c0, c1, lo, lcap, c2, hL, _, _⟩ := hc k hkl
       exact ⟨b, off, lo, lcap, rfl, hbr, c0, c1, c2, hL⟩
     have e0 := (BR.bel.cell (p := ⟨b, off + k * 3, none⟩) hbr).trans c0
     have e1 := (BR.bel.cell (p := ⟨b, off + k * 3 + 1, none⟩) hbr).trans c1
     have e2 := (BR.bel.cell (p := ⟨b, off + k * 3 + 2, none⟩) hbr).trans c2
     have HL := hideg hL
     obtain ⟨hA, hBe, hlen⟩ := HRt.out.ends _ (List.getElem_mem hkl)
     have HS := hideg (pthG_succ g p hkl)
     generalize g.edges[k] = ed at *
     obtain ⟨wb, hwb⟩ : ∃ x, x = wr.alloc (.cells #[.int .i64 ed.1, .int .i64 ed.2.1, .slice lo ed.2.2.length lcap] 59) := ⟨_, rfl⟩
     have hbw : Below wr.heap.size wr wb := by rw [hwb]; exact gal _ _
     obtain ⟨Eb, hEb⟩ : ∃ x, x = wr.heap.size := ⟨_, rfl⟩
     have hE0 : wb.heap[Eb]? = some (.cells #[.int .i64 ed.1, .int .i64 ed.2.1, .slice lo ed.2.2.length lcap] 59) := by rw [hwb, hEb]; show (wr.heap.push _)[_]? = _; simp
     have f2 : wb.cell? ⟨Eb, 2, none⟩ = some (.slice lo ed.2.2.length lcap) := by simp [World.cell?, hE0]
     have hown0 := ownsRow_below hown hbw
     have hne0 : u5.ownBlock ≠ some Eb := fun e => by have := (hown.lt _ e).2; omega
     have hb0 : Below w1.heap.size w1 wb := hb.trans (hbw.mono hb.size)
     have hwbs := hwb.symm
     have hEbs := hEb.symm
     obtain ⟨out, hout⟩ : ∃ o, o = pthG g p k := ⟨_, rfl⟩
     rw [<- hout] at hown0 hol HS
     have g2 := BR.c2
     clear hown hwb hEb c0 c1 c2 hL BR hb hbw
     go_wp2_with fail
     clear hwbs e0 e1 e2 g2
     go_loopw [5, 21] (fun u i ws => ∃ j : Nat, j <= ed.2.2.length /\ i = .int .i64 (j : Int) /\ ws.ownsRow w1.heap.size 94 5 u (out ++ pthE g p ed j).length (encPs (out ++ pthE g p ed j)) /\ Below w1.heap.size w1 ws /\ ws.heap[Eb]? = some (.cells #[.int .i64 ed.1, .int .i64 ed.2.1, .slice lo ed.2.2.length lcap] 59) /\ u.ownBlock ≠ some Eb) (fun _ i _ => ed.2.2.length - (intOf i).toNat)
     case atStart => exact ⟨0, Nat.zero_le _, rfl, by simpa [pthE] using hown0, hb0, hE0, hne0⟩
     case round =>
       clear hown0 hb0 hE0 hne0 f2
       obtain ⟨j, hj, rfl, hown, hb, hEd, hne⟩ := hrel
       have BR := HB1.out.below hb
       have hoe := pthE_len (g := g) p hlen j
       by_cases hjl : j < ed.2.2.length
       · obtain ⟨b2, off2, rfl, hb2, l0, l1, l2, l3⟩ : ∃ b2 off2, lo = some ⟨b2, off2, none⟩ /\ b2 < w.heap.size /\ w.cell? ⟨b2, off2 + j * 4, none⟩ = some (.int .i64 ed.2.2[j].1) /\ w.cell? ⟨b2, off2 + j * 4 + 1, none⟩ = some (.int .i64 ed.2.2[j].2.1) /\ w.cell? ⟨b2, off2 + j * 4 + 2, none⟩ = some (.int .i64 ed.2.2[j].2.2.1) /\ w.cell? ⟨b2, off2 + j * 4 + 3, none⟩ = some (.int .i64 ed.2.2[j].2.2.2) := by
           rcases HL.out with h0 | ⟨b2, off2, rfl, hlt, hc⟩
           · rw [h0] at hjl; simp at hjl
           · have h1 := hc j hjl
             have e : ed.2.2.getD j (0, 0, 0, 0) = ed.2.2[j] := by rw [List.getD_eq_getElem?_getD, List.getElem?_eq_getElem hjl]; rfl
             rw [e] at h1
             exact ⟨b2, off2, rfl, hlt, h1⟩
         have m0 := (BR.bel.cell (p := ⟨b2, off2 + j * 4, none⟩) hb2).trans l0
         have m1 := (BR.bel.cell (p := ⟨b2, off2 + j * 4 + 1, none⟩) hb2).trans l1
         have m2 := (BR.bel.cell (p := ⟨b2, off2 + j * 4 + 2, none⟩) hb2).trans l2
         have m3 := (BR.bel.cell (p := ⟨b2, off2 + j * 4 + 3, none⟩) hb2).trans l3
         have HES := hideg (pthE_succ g p ed hjl)
         generalize ed.2.2[j] = l at *
         obtain ⟨wl, hwl⟩ : ∃ x, x = wr.alloc (.cells #[.int .i64 l.1, .int .i64 l.2.1, .int .i64 l.2.2.1, .int .i64 l.2.2.2] 61) := ⟨_, rfl⟩
         have hbl : Below wr.heap.size wr wl := by rw [hwl]; exact gal _ _
         have BL := BR.below hbl
         have hEl : Eb < wr.heap.size := (Array.getElem?_eq_some_iff.1 hEd).1
         have hEd1 := (hbl.block Eb hEl).trans hEd
         have ga0 := BL.c0
         have ga1 := BL.c1
         have ga2 := BL.c2
         have ge0 : wl.cell? ⟨Eb, 0, none⟩ = some (.int .i64 ed.1) := by simp [World.cell?, hEd1]
         have ge1 : wl.cell? ⟨Eb, 1, none⟩ = some (.int .i64 ed.2.1) := by simp [World.cell?, hEd1]
         have ge2 : wl.cell? ⟨Eb, 2, none⟩ = some (.slice (some ⟨b2, off2, none⟩) ed.2.2.length lcap) := by simp [World.cell?, hEd1]
         have gl0 : wl.cell? ⟨wr.heap.size, 0, none⟩ = some (.int .i64 l.1) := by rw [hwl]; exact cell_newP rfl rfl
         have gl1 : wl.cell? ⟨wr.heap.size, 1, none⟩ = some (.int .i64 l.2.1) := by rw [hwl]; exact cell_newP rfl rfl
         have gl2 : wl.cell? ⟨wr.heap.size, 2, none⟩ = some (.int .i64 l.2.2.1) := by rw [hwl]; exact cell_newP rfl rfl
         have gl3 : wl.cell? ⟨wr.heap.size, 3, none⟩ = some (.int .i64 l.2.2.2) := by rw [hwl]; exact cell_newP rfl rfl
         have hcl := pathOf_any g la (some ⟨b, off, none⟩) (some ⟨b2, off2, none⟩) lc ec ed.2.2.length lcap p ed l wl (HG.out.below BL.bel) hA hBe hp3
         have hwls := hwl.symm
         have HEd := hideg hEd
         have HEl := hideg hEl
         have HNe := hideg hne
         have HBl := hideg hbl
         have HBb := hideg hb
         have HBR := hideg BR
         clear hEd hEl hne hEd1 hbl hb BL BR hwl
         go_wp2_with fail
         refine hcl.mono ?_
         rintro e w3 ⟨rfl, hb3⟩
         have hEd := HEd.out
         have hEl := HEl.out
         have hne := HNe.out
         have hbl := HBl.out
         have hb := HBb.out
         have HPT : Hid (pthsL g p ed l = if (pthOf g p ed l).2.2.2.1 <= (pthOf g p ed l).2.2.1 then [] else if p = 3 then [pthOf g p ed l, ((pthOf g p ed l).2.1, (pthOf g p ed l).1, (pthOf g p ed l).2.2)] else [pthOf g p ed l]) := rfl
         generalize pthOf g p ed l = π at *
         generalize pthsL g p ed l = nx at *
         obtain ⟨w4, hw4⟩ : ∃ x, x = w3.alloc (.cells #[.int .i64 π.1, .int .i64 π.2.1, .int .i64 π.2.2.1, .int .i64 π.2.2.2.1, .int .i64 π.2.2.2.2] 94) := ⟨_, rfl⟩
         have hb4 : Below wr.heap.size wr w4 := by rw [hw4]; exact ptg (ptg hbl hb3) (gal w3 _)
         have hP4 : w4.heap[w3.heap.size]? = some (.cells #[.int .i64 π.1, .int .i64 π.2.1, .int .i64 π.2.2.1, .int .i64 π.2.2.2.1, .int .i64 π.2.2.2.2] 94) := by rw [hw4]; show (w3.heap.push _)[_]? = _; simp
         have x0 : w4.cell? ⟨w3.heap.size, 0, none⟩ = some (.int .i64 π.1) := by simp [World.cell?, hP4]
         have x1 : w4.cell? ⟨w3.heap.size, 1, none⟩ = some (.int .i64 π.2.1) := by simp [World.cell?, hP4]
         have x2 : w4.cell? ⟨w3.heap.size, 2, none⟩ = some (.int .i64 π.2.2.1) := by simp [World.cell?, hP4]
         have x3 : w4.cell? ⟨w3.heap.size, 3, none⟩ = some (.int .i64 π.2.2.2.1) := by simp [World.cell?, hP4]
         have x4 : w4.cell? ⟨w3.heap.size, 4, none⟩ = some (.int .i64 π.2.2.2.2) := by simp [World.cell?, hP4]
         have hs3 : wr.heap.size <= w3.heap.size := (ptg hbl hb3).size
         have hs4 : w4.heap.size = w3.heap.size + 1 := by rw [hw4]; simp
         have o1 := ownsRow_below hown hb4
         have o2 : Below w1.heap.size w1 w4 := hb.trans (hb4.mono hb.size)
         have hE4 := (hb4.block Eb hEl).trans hEd
         have hul := fun z (e : u5.ownBlock = some z) => (hown.lt z e).2
         have hw4s := hw4.symm
         clear hcl hwls ga0 ga1 ga2 ge0 ge1 ge2 gl0 gl1 gl2 gl3 m0 m1 m2 m3 l0 l1 l2 l3 hw4 hown hb hEd hbl hb3 hb4
         by_cases hle : π.2.2.2.1 <= π.2.2.1
         · have hnx : nx = [] := by rw [HPT.out, if_pos hle]
           have hd : decide (π.2.2.2.1 <= π.2.2.1) = true := by simpa using hle
           have HO := hideg o1
           have HO2 := hideg o2
           have HE4 := hideg hE4
           have HHS := hideg HES.out
           clear o1 o2 hE4
           unfold ptV
           go_wp2_with fail
           exact ⟨⟨j + 1, by omega, by go_num, by rw [HES.out, hnx, List.append_nil]; exact HO.out, HO2.out, HE4.out, HNe.out⟩, by simp [intOf]; omega⟩
         · have hd : decide (π.2.2.2.1 <= π.2.2.1) = false := by simpa using hle
           have hs5 := o2.size
           have hll : (out ++ pthE g p ed j).length <= 400 := by rw [List.length_append]; omega
           have HBg : Hid (∀ (o : Obj) (w5 : World), (w4.alloc o).grownBy w5 u5.ownBlock -> Below w1.heap.size w1 w5) := fun o w5 hgr => (o2.alloc o2.size o).grown hgr (by have := o2.size; simp at this ⊢; omega) (fun k hk => (o1.lt k hk).1)
           have HGe : Hid (∀ (o : Obj) (w5 : World), (w4.alloc o).grownBy w5 u5.ownBlock -> ∀ q, q < w4.heap.size -> u5.ownBlock ≠ some q -> w5.heap[q]? = w4.heap[q]?) := fun o w5 hgr q hq hn => (hgr.block q (by simp; omega) (Ne.symm hn)).trans ((gal w4 o).block q hq)
           have HEn : Hid (Eb < w4.heap.size) := by show _ < _; omega
           have HPb : Hid (u5.ownBlock ≠ some w3.heap.size) := fun e => by have := hul _ e; omega
           have HO := hideg o1
           have HE4 := hideg hE4
           have HP4 := hideg hP4
           clear o1 o2 hE4 hP4 hul hEl hne
           by_cases p3 : p = 3
           · have p3i : ((p : Int) == 3) = true := by simp; omega
             have hnx : nx = [π, (π.2.1, π.1, π.2.2)] := by rw [HPT.out, if_neg hle, if_pos p3]
             clear p3
             have hs43 : w3.heap.size < w4.heap.size := by omega
             have hs1r := HBb.out.size
             unfold ptV
             go_wp2_with (at_builtin; refine stopHereB ?_)
             refine hideg ?_
             refine wpList_append_own_at _ rfl _ _ 79 rfl w1.heap.size 94 i0 _ 5 40 ((Seq.pu 79).trans Tryz.underlying79) hi hz0 hz1 hz2 rfl (by decide) _ _ _ rfl (World.ownsRow.alloc (w := w4) HO.out _) ⟨w3.heap.size + 1, 0, none⟩ 1 1 [.int .i64 π.1, .int .i64 π.2.1, .int .i64 π.2.2.1, .int .i64 π.2.2.2.1, .int .i64 π.2.2.2.2] rfl rfl (cells_five_new _ _ _ _ _ _ _ _ hs4.symm) (by intro u hu; simp at hu; rcases hu with rfl | rfl | rfl | rfl | rfl <;> rfl) (by unfold maxLen; omega) (by omega) (by simp; omega) ?_
             intro v' w5 hown5 hgrow _ hat
             have hb5 := HBg.out _ _ hgrow
             have hE5 := (HGe.out _ _ hgrow Eb HEn.out HNe.out).trans HE4.out
             have hP5 := (HGe.out _ _ hgrow w3.heap.size hs43 HPb.out).trans HP4.out
             have hn5 : v'.ownBlock ≠ some Eb := fun e => by
               rcases hat with h | h
               · exact HNe.out (h.symm.trans e)
               · rw [h] at e; simp at e; have := HEn.out; omega
             have hq5 : v'.ownBlock ≠ some w3.heap.size := fun e => by
               rcases hat with h | h
               · exact HPb.out (h.symm.trans e)
               · rw [h] at e; simp at e; omega
             have hEP : w3.heap.size ≠ Eb := fun e => by rw [e] at hP5; rw [hP5] at hE5; simp at hE5
             have hs35 : w3.heap.size < w5.heap.size := (Array.getElem?_eq_some_iff.1 hP5).1
             have y0 : w5.cell? ⟨w3.heap.size, 0, none⟩ = some (.int .i64 π.1) := by simp [World.cell?, hP5]
             have y1 : w5.cell? ⟨w3.heap.size, 1, none⟩ = some (.int .i64 π.2.1) := by simp [World.cell?, hP5]
             have yf : ∀ q, w5.frozen? ⟨w3.heap.size, q, none⟩ = false := fun q => by simp [World.frozen?, hP5]
             obtain ⟨w6, hw6⟩ : ∃ x, x = (w5.setCell ⟨w3.heap.size, 0, none⟩ (.int .i64 π.2.1)).setCell ⟨w3.heap.size, 1, none⟩ (.int .i64 π.1) := ⟨_, rfl⟩
             have hP6 : w6.heap[w3.heap.size]? = some (.cells #[.int .i64 π.2.1, .int .i64 π.1, .int .i64 π.2.2.1, .int .i64 π.2.2.2.1, .int .i64 π.2.2.2.2] 94) := by rw [hw6]; exact Sim.setCell_this (Sim.setCell_this hP5)
             have hs6 : w6.heap.size = w5.heap.size := by rw [hw6]; simp [World.setCell]
             have R6 := ownsRow_setBox (j := 1) (u := .int .i64 π.1) (ownsRow_setBox (j := 0) (u := .int .i64 π.2.1) hown5 hq5) hq5
             rw [<- hw6] at R6
             have hb6 : Below w1.heap.size w1 w6 := by rw [hw6]; exact (hb5.setCell (p := ⟨w3.heap.size, 0, none⟩) (by simp only; omega) _).setCell (p := ⟨w3.heap.size, 1, none⟩) (by simp only; omega) _
             have hE6 : w6.heap[Eb]? = some (.cells #[.int .i64 ed.1, .int .i64 ed.2.1, .slice (some ⟨b2, off2, none⟩) ed.2.2.length lcap] 59) := by rw [hw6, Sim.setCell_other (by exact hEP), Sim.setCell_other (by exact hEP)]; exact hE5
             have z0 : w6.cell? ⟨w3.heap.size, 0, none⟩ = some (.int .i64 π.2.1) := by simp [World.cell?, hP6]
             have z1 : w6.cell? ⟨w3.heap.size, 1, none⟩ = some (.int .i64 π.1) := by simp [World.cell?, hP6]
             have z2 : w6.cell? ⟨w3.heap.size, 2, none⟩ = some (.int .i64 π.2.2.1) := by simp [World.cell?, hP6]
             have z3 : w6.cell? ⟨w3.heap.size, 3, none⟩ = some (.int .i64 π.2.2.2.1) := by simp [World.cell?, hP6]
             have z4 : w6.cell? ⟨w3.heap.size, 4, none⟩ = some (.int .i64 π.2.2.2.2) := by simp [World.cell?, hP6]
             have hs7 := hb6.size
             have hw6s := hw6.symm
             have HR6 := hideg R6
             have HB6 := hideg hb6
             have HE6 := hideg hE6
             have HN5 := hideg hn5
             have HE6l : Hid (Eb < w6.heap.size) := (Array.getElem?_eq_some_iff.1 hE6).1
             clear hgrow hat hown5 hb5 hE5 hP5 hn5 hq5 hEP x0 x1 x2 x3 x4 hw4s hw6 hP6 R6 hb6 hE6
             go_wp2_with (at_builtin; refine stopHereB ?_)
             refine hideg ?_
             refine wpList_append_own_at _ rfl _ _ 79 rfl w1.heap.size 94 i0 _ 5 40 ((Seq.pu 79).trans Tryz.underlying79) hi hz0 hz1 hz2 rfl (by decide) _ _ _ rfl (World.ownsRow.alloc (w := w6) HR6.out _) ⟨w5.heap.size, 0, none⟩ 1 1 [.int .i64 π.2.1, .int .i64 π.1, .int .i64 π.2.2.1, .int .i64 π.2.2.2.1, .int .i64 π.2.2.2.2] rfl rfl (cells_five_new _ _ _ _ _ _ _ _ hs6.symm) (by intro u hu; simp at hu; rcases hu with rfl | rfl | rfl | rfl | rfl <;> rfl) (by unfold maxLen; omega) (by omega) (by simp; omega) ?_
             intro v7 w7 hown7 hgrow7 _ hat7
             have hb7 : Below w1.heap.size w1 w7 := (HB6.out.alloc HB6.out.size _).grown hgrow7 (by have := HB6.out.size; simp at this ⊢; omega) (fun k hk => (HR6.out.lt k hk).1)
             have hE7 := ((hgrow7.block Eb (by simp; have := HE6l.out; omega) (Ne.symm HN5.out)).trans ((gal w6 _).block Eb HE6l.out)).trans HE6.out
             have hn7 : v7.ownBlock ≠ some Eb := fun e => by
               rcases hat7 with h | h
               · exact HN5.out (h.symm.trans e)
               · rw [h] at e; simp at e; have := HE6l.out; omega
             have R7 : w7.ownsRow w1.heap.size 94 5 v7 (out ++ pthE g p ed (j + 1)).length (encPs (out ++ pthE g p ed (j + 1))) := by
               rw [HES.out, hnx, <- List.append_assoc, show ([π, (π.2.1, π.1, π.2.2)] : List Pt) = [π] ++ [(π.2.1, π.1, π.2.2)] from rfl, <- List.append_assoc, encPs_append, encPs_append, List.length_append, List.length_append]; exact hown7
             have HF := hideg (And.intro R7 (And.intro hb7 (And.intro hE7 hn7)))
             clear hgrow7 hat7 hown7 R7 hb7 hE7 hn7 z0 z1 z2 z3 z4 hw6s hs4 hs6 hs7
             go_wp2_with fail
             exact ⟨⟨j + 1, by omega, by go_num, HF.out.1, HF.out.2.1, HF.out.2.2.1, HF.out.2.2.2⟩, by simp [intOf]; omega⟩
           · have p3i : ((p : Int) == 3) = false := by simp; omega
             have hnx : nx = [π] := by rw [HPT.out, if_neg hle, if_neg p3]
             unfold ptV
             go_wp2_with (at_builtin; refine stopHereB ?_)
             refine hideg ?_
             refine wpList_append_own_at _ rfl _ _ 79 rfl w1.heap.size 94 i0 _ 5 40 ((Seq.pu 79).trans Tryz.underlying79) hi hz0 hz1 hz2 rfl (by decide) _ _ _ rfl (World.ownsRow.alloc (w := w4) HO.out _) ⟨w3.heap.size + 1, 0, none⟩ 1 1 [.int .i64 π.1, .int .i64 π.2.1, .int .i64 π.2.2.1, .int .i64 π.2.2.2.1, .int .i64 π.2.2.2.2] rfl rfl (cells_five_new _ _ _ _ _ _ _ _ hs4.symm) (by intro u hu; simp at hu; rcases hu with rfl | rfl | rfl | rfl | rfl <;> rfl) (by unfold maxLen; omega) (by omega) (by simp; omega) ?_
             intro v' w5 hown5 hgrow _ hat
             have hb5 := HBg.out _ _ hgrow
             have R5 : w5.ownsRow w1.heap.size 94 5 v' (out ++ pthE g p ed (j + 1)).length (encPs (out ++ pthE g p ed (j + 1))) := by rw [HES.out, hnx, <- List.append_assoc, encPs_append, List.length_append]; exact hown5
             have hE5 := (HGe.out _ _ hgrow Eb HEn.out HNe.out).trans HE4.out
             have hn5 : v'.ownBlock ≠ some Eb := fun e => by
               rcases hat with h | h
               · exact HNe.out (h.symm.trans e)
               · rw [h] at e; simp at e; have := HEn.out; omega
             have HF := hideg (And.intro R5 (And.intro hb5 (And.intro hE5 hn5)))
             clear hgrow hat hown5 R5 hb5 hE5 hn5 x0 x1 x2 x3 x4 hw4s
             go_wp2_with fail
             exact ⟨⟨j + 1, by omega, by go_num, HF.out.1, HF.out.2.1, HF.out.2.2.1, HF.out.2.2.2⟩, by simp [intOf]; omega⟩
       · have hjn : j = ed.2.2.length := by omega
         subst hjn
         rw [<- HS.out] at hown
         clear BR
         go_wp2
         go_roundw
         case rel => exact ⟨k + 1, by omega, by go_num, hown, hb⟩
         case measure => simp [intOf]; omega
   · have hke : k = g.edges.length := by omega
     subst hke
     rw [pthG_all] at hown
     have R := owns_base2 hown HB1.out.bel.size
     have hbF := BR.bel
     clear hown BR
     go_wp2
     go_ret
     exact ⟨_, rfl, R, hbF⟩
theorem neq_pc (x y : Int × Int × Int) (w : World) : (binOp .neq 51 (.agg #[.int .i64 x.1, .int .i64 x.2.1, .int .i64 x.2.2]) (.agg #[.int .i64 y.1, .int .i64 y.2.1, .int .i64 y.2.2])).run Seq.prog w = .ok (.bool (!(x.1 == y.1 && (x.2.1 == y.2.1 && x.2.2 == y.2.2)))) w := by
 have u3 := ((Seq.pu 3).trans Tryz.underlying3)
 have a3 := (fun w => (Seq.ag 3 w).trans (Tryz.isAgg3 w))
 have z3 := (fun w => (Seq.so 3 w).trans (Tryz.sizeOf3 w))
 have hS : Seq.prog.underlying 51 = some (.struct (Seq.prog.fieldsOf 51)) := by kernel_rfl
 have hp : Seq.prog.stoodInHeld 51 = false := by kernel_rfl
 rw [run_neq_struct, show (10000 : Nat) = 9999 + 1 from rfl, run_equalIn_agg w 9999 51 _ _ hS hp]
 simp only [Program.fieldsOf, ((Seq.pu 51).trans Tryz.underlying51)]
 go_simp
 by_cases h1 : x.fst = y.fst <;> by_cases h2 : x.snd.fst = y.snd.fst <;> by_cases h3 : x.snd.snd = y.snd.snd <;> simp [h1, h2, h3]
set_option maxHeartbeats 2000000 in
theorem Equal3_any (ao bo : Option Addr) (ca cb : Nat) (a b : List (Int × Int × Int)) (w : World) (hA : PcAt w ao a) (hB : PcAt w bo b) (hl : a.length <= 9223372036854775807) :
   Calls Seq.prog 17 #[.slice ao a.length ca, .slice bo b.length cb] w fun e w' => e = .returned (.bool (decide (a = b))) /\ Below w.heap.size w w' := by
 by_cases hlen : a.length = b.length
 · have hm : Seq.prog.eqGuardType Seq.prog.depth 51 = false := by kernel_rfl
   have HLN : Hid (a.length = b.length) := hlen
   rw [<- hlen]
   have hne : ((a.length : Int) != (a.length : Int)) = false := by simp
   clear hlen
   go_enter Seq.func17, Tryz.ntmps17
   go_wp2
   go_loopw [5, 13] (fun _ i wr => ∃ k : Nat, k <= a.length /\ i = .int .i64 k /\ a.take k = b.take k /\ Below w.heap.size w wr) (fun _ i _ => a.length - (intOf i).toNat)
   case atStart => exact ⟨0, Nat.zero_le _, rfl, rfl, Below.refl _ _⟩
   case round =>
     obtain ⟨k, hk, rfl, hh, hb⟩ := hrel
     have HH : Hid (a.take k = b.take k) := hh
     clear hh
     by_cases hlt : k < a.length
     · have hlt' : k < b.length := by have := HLN.out; omega
       rcases hA.below hb with h0 | ⟨b1, o1, rfl, hb1, hc1⟩
       · subst h0; simp at hlt
       rcases hB.below hb with h0 | ⟨b2, o2, rfl, hb2, hc2⟩
       · subst h0; simp at hlt'
       obtain ⟨c0, c1, c2⟩ := PcAt.get hlt hc1
       obtain ⟨d0, d1, d2⟩ := PcAt.get hlt' hc2
       have nq := neq_pc a[k] b[k]
       clear hc1 hc2 hA hB
       by_cases g : a[k] = b[k]
       · have e1 : (a[k].1 == b[k].1) = true := by rw [g]; simp
         have e2 : (a[k].2.1 == b[k].2.1) = true := by rw [g]; simp
         have e3 : (a[k].2.2 == b[k].2.2) = true := by rw [g]; simp
         have HC : Hid (a.take (k + 1) = b.take (k + 1)) := by show _ = _; rw [take_succ_get a k hlt, take_succ_get b k hlt', HH.out, g]
         rw [e1, e2, e3] at nq
         clear g e1 e2 e3
         go_wp2
         go_quiet (fail)
         go_wp2
         go_roundw
         case rel => exact ⟨k + 1, by omega, by go_num, HC.out, below_drewN hb _⟩
         case measure => simp [intOf]; omega
       · have e1 : (a[k].1 == b[k].1 && (a[k].2.1 == b[k].2.1 && a[k].2.2 == b[k].2.2)) = false := by
           rw [<- Bool.not_eq_true, Bool.and_eq_true, Bool.and_eq_true, beq_iff_eq, beq_iff_eq, beq_iff_eq]
           exact fun ⟨h, h', h''⟩ => g (Prod.ext h (Prod.ext h' h''))
         have HC : Hid (decide (a = b) = false) := by
           show _ = _
           rw [decide_eq_false_iff_not]
           intro h; subst h; exact g rfl
         rw [e1] at nq
         clear g e1
         go_wp2
         go_quiet (fail)
         go_wp2
         go_ret
         exact ⟨ret_bool HC.out.symm, below_drewN hb _⟩
     · have hkl : k = a.length := by omega
       have HC : Hid (decide (a = b) = true) := by
         show _ = _
         have := HH.out
         rw [hkl, List.take_length, HLN.out, List.take_length] at this
         rw [this]; simp
       go_wp2
       go_ret
       exact ⟨ret_bool HC.out.symm, hb⟩
 · have hne : ((a.length : Int) != (b.length : Int)) = true := by simp; omega
   have HC : Hid (decide (a = b) = false) := by
     show _ = _
     rw [decide_eq_false_iff_not]
     intro h; subst h; exact hlen rfl
   clear hlen
   go_enter Seq.func17, Tryz.ntmps17
   go_wp2
   go_ret
   exact ⟨ret_bool HC.out.symm, Below.refl _ _⟩
theorem pair_asked : askE gPair (2 : Nat) 0 = 0 := by decide
theorem pair_chk : gChk gPair = 0 := by decide
theorem one_pcAt (w : World) (T : TypeId) (a b c : Int) : PcAt (w.alloc (.cells #[.int .i64 a, .int .i64 b, .int .i64 c] T)) (some ⟨w.heap.size, 0, none⟩) [(a, b, c)] := by
 refine .inr ⟨_, _, rfl, by simp, fun j hj => ?_⟩
 have hj' : j = 0 := by simp at hj; omega
 subst hj'
 exact ⟨new_cell0 rfl rfl, new_cell0 rfl rfl, new_cell0 rfl rfl⟩
set_option maxRecDepth 100000 in
set_option maxHeartbeats 2000000 in
theorem runs_any (w : World) : Calls Seq.prog 5 #[] w fun e w' => (e = .returned (.bool true) /\ Below w.heap.size w w') \/ (¬ Zt zqs w.tape /\ ∃ ch, e = .panicked ch /\ DeadAt w') := by
 have H1 := hideg (fun la ea W (hG : GAt W la ea gPair) => bsRun_ok gPair la ea 2 1 2 0 W hG pair_asked pair_chk (bsPaths_any gPair la ea 2 1 2 pair_chk (by omega)))
 have HP := hideg (fun W => pair_any W)
 have HT : Hid (∀ T : Nat -> List P3, (∀ v, v < gPair.lives.length -> T v = allP gPair 2 0 v gPair.hor.toNat) -> T 0 = [(0, 10, 0)] /\ T 1 = [(2, 4, 7)]) := fun T h => ⟨(h 0 (by decide)).trans pair_one, (h 1 (by decide)).trans pair_two⟩
 have HN : Hid (gPair.lives.length = 2 /\ allR gPair 2 0 gPair.hor.toNat = 1) := ⟨rfl, pair_rounds⟩
 generalize gPair = gp at *
 go_enter Seq.func5, Tryz.ntmps5
 go_wp2_with fail
 refine (HP.out _).mono ?_
 rintro r w1 ⟨la, ea, rfl, hG1, hb1⟩
 have h1 := H1.out la ea w1 hG1
 clear HP H1 hG1
 go_wp2_with fail
 refine h1.mono ?_
 clear h1
 rintro e w2 (⟨go, val, T, r, rfl, A2, hT, hr, hb2⟩ | ⟨hz, ch, rfl, hd⟩)
 · rw [HN.out.2] at hr
   subst hr
   obtain ⟨e0, e1⟩ := HT.out T hT
   rw [HN.out.1] at A2 ⊢
   have c0 := A2.out (v := 0) (by omega)
   have c1 := A2.out (v := 1) (by omega)
   have o0 := A2.inn 0 (by omega)
   have o1 := A2.inn 1 (by omega)
   rw [e0] at o0
   rw [e1] at o1
   obtain ⟨a0, n0, q0, p0⟩ := pcAt_of_owns o0
   obtain ⟨a1, n1, q1, p1⟩ := pcAt_of_owns o1
   rw [q0] at c0
   rw [q1] at c1
   have hE1 := Equal3_any a0 (some ⟨w2.heap.size, 0, none⟩) n0 1 [(0, 10, 0)] [(0, 10, 0)] (w2.alloc (.cells #[.int .i64 0, .int .i64 10, .int .i64 0] 51)) (p0.below (gal _ _)) (one_pcAt _ _ _ _ _) (by simp)
   have HE2 := hideg (fun W (hb : Below w2.heap.size w2 W) => Equal3_any a1 (some ⟨W.heap.size, 0, none⟩) n1 1 [(2, 4, 7)] [(2, 4, 7)] (W.alloc (.cells #[.int .i64 2, .int .i64 4, .int .i64 7] 51)) (p1.below (ptg hb (gal _ _))) (one_pcAt _ _ _ _ _) (by simp))
   have HC1 : Hid (∀ W, Below w2.heap.size w2 W -> W.cell? ⟨go, 1, none⟩ = some (.slice a1 [((2 : Int), (4 : Int), (7 : Int))].length n1)) := fun W hb => (hb.cell (p := ⟨go, 1, none⟩) (World.ownsRow.lt A2.own go rfl).2).trans c1
   rw [show decide (([(0, 10, 0)] : List P3) = [(0, 10, 0)]) = true from by decide] at hE1
   rw [show decide (([(2, 4, 7)] : List P3) = [(2, 4, 7)]) = true from by decide] at HE2
   simp only [List.length_cons, List.length_nil, Nat.zero_add] at hE1 HE2 c0 c1 HC1
   have HB2 := hideg (ptg hb1 hb2)
   have c0' := ((gal w2 (.cells #[.int .i64 0, .int .i64 10, .int .i64 0] 51)).cell (p := ⟨go, 1, none⟩) (World.ownsRow.lt A2.own go rfl).2).trans c1
   clear A2 hT HT o0 o1 q0 q1 p0 p1 e0 e1 hb1 hb2 HN c0'
   go_wp2_with fail
   refine hE1.mono ?_
   rintro e w3 ⟨rfl, hb3⟩
   have hb23 := ptg (gal w2 _) hb3
   have d1 := HC1.out w3 hb23
   have hE2 := HE2.out w3 hb23
   clear hE1 HE2 HC1 c0 c1 hb3
   go_wp2_with fail
   refine hE2.mono ?_
   rintro e w4 ⟨rfl, hb4⟩
   have HF := hideg (ptg HB2.out (ptg hb23 (ptg (gal w3 _) hb4)))
   clear hE2 d1 hb23 hb4 HB2
   go_wp2
   go_ret
   exact .inl ⟨rfl, HF.out⟩
 · exact ⟨rfl, .inr ⟨fun h => hz (by rw [hb1.tape]; exact h), ch, rfl, hd⟩⟩
def restF (n m : Int) : Int := if n.tmod m < 0 then n.tmod m + m else n.tmod m
theorem restF_in (n m : Int) (hm : 0 < m) : 0 <= restF n m /\ restF n m < m := by
 have h1 := Int.tmod_lt_of_pos n hm
 have h2 := Int.lt_tmod_of_pos n hm
 unfold restF
 split <;> omega
theorem restF_any (n m : Int) (hm : 0 < m) (hM : m < 4611686018427387904) (w : World) :
   Calls Seq.prog 8 #[.int .i64 n, .int .i64 m] w fun e w' => e = .returned (.int .i64 (restF n m)) /\ w' = w := by
 have h1 := Int.tmod_lt_of_pos n hm
 have h2 := Int.lt_tmod_of_pos n hm
 have hz : ¬ m = 0 := by omega
 have hz' : (m == 0) = false := by simpa using hz
 have hw0 : IntKind.i64.wrap (n.tmod m) = n.tmod m := wrap_nr _ (by omega) (by omega)
 by_cases h0 : n.tmod m < 0
 · have d : decide (n.tmod m < 0) = true := by simpa using h0
   have hw : IntKind.i64.wrap (n.tmod m + m) = n.tmod m + m := wrap_nr _ (by omega) (by omega)
   have HQ : Hid (restF n m = n.tmod m + m) := by show _ = _; unfold restF; rw [if_pos h0]
   go_enter Seq.func8, Tryz.ntmps8
   go_wp2
   go_ret
   exact ⟨by rw [HQ.out]; rfl, rfl⟩
 · have d : decide (n.tmod m < 0) = false := by simpa using h0
   have HQ : Hid (restF n m = n.tmod m) := by show _ = _; unfold restF; rw [if_neg h0]
   go_enter Seq.func8, Tryz.ntmps8
   go_wp2
   go_ret
   exact ⟨by rw [HQ.out]; rfl, rfl⟩
theorem enc3_six (arcs : List Ac) (k : Nat) (hk : k < arcs.length) : enc3 (bothW (arcs.take (k + 1))) = enc3 (bothW (arcs.take k)) ++ [.int .i64 arcs[k].1, .int .i64 arcs[k].2.1, .int .i64 arcs[k].2.2, .int .i64 arcs[k].2.1, .int .i64 arcs[k].1, .int .i64 arcs[k].2.2] := by
 rw [both_take arcs k hk, enc3_append]; rfl
set_option maxRecDepth 100000 in
set_option maxHeartbeats 4000000 in
theorem bothWays_any (bo : Option Addr) (cb : Nat) (arcs : List Ac) (w : World) (hR : PcAt w bo arcs) (h30 : arcs.length <= 30) :
   Calls Seq.prog 27 #[.slice bo arcs.length cb] w fun e w' => ∃ v, e = .returned v /\ w'.ownsRow w.heap.size 65 3 v (bothW arcs).length (enc3 (bothW arcs)) /\ Below w.heap.size w w' := by
 obtain ⟨ia, hia, ha0, ha1, ha2⟩ := info_parts Tryz.infoArc
 go_enter Seq.func27, Tryz.ntmps27
 go_wp2
 go_loopw [3, 5, 8] (fun v _ i wr => ∃ k : Nat, k <= arcs.length /\ i = .int .i64 k /\ wr.ownsRow w.heap.size 65 3 v (k * 2) (enc3 (bothW (arcs.take k))) /\ Below w.heap.size w wr) (fun _ _ i _ => arcs.length - (intOf i).toNat)
 case atStart => exact ⟨0, Nat.zero_le _, rfl, World.ownsRow_nil _ _ _ _, Below.refl _ _⟩
 case round =>
   obtain ⟨k, hk, rfl, hown, hb⟩ := hrel
   by_cases hlt : k < arcs.length
   · rcases hR.below hb with h0 | ⟨b, off, rfl, hbr, hc⟩
     · subst h0; simp at hlt
     obtain ⟨c0, c1, c2⟩ := PcAt.at3 hlt hc
     have hsz := hb.size
     have HE := hidep (enc3_six arcs k hlt)
     clear hc hR
     generalize arcs[k].1 = x at *
     generalize arcs[k].2.1 = y at *
     generalize arcs[k].2.2 = z at *
     go_wp2_with (at_builtin; refine wpList_append_own _ rfl _ _ 32 rfl w.heap.size 65 ia _ 3 24 ((Seq.pu 32).trans Tryz.underlying32) hia ha0 ha1 ha2 rfl (by decide) _ (k * 2) (enc3 (bothW (arcs.take k))) rfl ((hown.alloc _).alloc _) ⟨wr.heap.size + 1, 0, none⟩ 2 2 [.int .i64 x, .int .i64 y, .int .i64 z, .int .i64 y, .int .i64 x, .int .i64 z] rfl rfl ?c1 ?c2 (by unfold maxLen; omega) (by omega) (by simp; omega) ?_)
     case c1 => exact World.news_of_block (cs := #[.int .i64 x, .int .i64 y, .int .i64 z, .int .i64 y, .int .i64 x, .int .i64 z]) (t := 65) (fr := (0, 0)) (by simpa using heap_alloc_new (wr.alloc _) _)
     case c2 => intro u hu; simp at hu; rcases hu with rfl | rfl | rfl | rfl | rfl | rfl <;> rfl
     intro v1 w1 hown' hgrow hnil
     have R : w1.ownsRow w.heap.size 65 3 v1 ((k + 1) * 2) (enc3 (bothW (arcs.take (k + 1)))) := by
       rw [HE.out, Nat.add_mul, Nat.one_mul]; exact hown'
     have hb' : Below w.heap.size w w1 := ((hb.alloc hsz _).alloc (by simp; omega) _).grown hgrow (by simp; omega) (fun j hj => (hown.lt j hj).1)
     clear hown hown' hgrow hnil
     go_wp2
     go_roundw
     case rel => exact ⟨k + 1, by omega, by go_num, R, hb'⟩
     case measure => simp [intOf]; omega
   · have hkl : k = arcs.length := by omega
     have HO : Hid (wr.ownsRow w.heap.size 65 3 u3 (bothW arcs).length (enc3 (bothW arcs))) := by
       have := hown
       rw [hkl, List.take_length] at this
       rw [both_length]; exact this
     clear hown
     go_wp2
     go_ret
     exact ⟨_, rfl, HO.out, hb⟩
theorem hops1_any (a : Ac) (w : World) : Calls Seq.prog 30 (#[.agg #[.int .i64 a.1, .int .i64 a.2.1, .int .i64 a.2.2]] ++ #[]) w fun e w' => e = .returned (.int .i64 1) /\ Below w.heap.size w w' := by
 have HB := hidep (pal w)
 rw [Array.append_empty]
 go_enter Seq.func30, Tryz.ntmps30
 go_wp2
 go_ret
 exact ⟨rfl, HB.out _⟩
theorem costs1_any (a : Ac) (w : World) : Calls Seq.prog 31 (#[.agg #[.int .i64 a.1, .int .i64 a.2.1, .int .i64 a.2.2]] ++ #[]) w fun e w' => e = .returned (.int .i64 a.2.2) /\ Below w.heap.size w w' := by
 have HB := hidep (pal w)
 rw [Array.append_empty]
 go_enter Seq.func31, Tryz.ntmps31
 go_wp2
 go_ret
 exact ⟨rfl, HB.out _⟩
theorem labels1_any (v : Nat) (w : World) : Calls Seq.prog 25 (#[.int .i64 v] ++ #[]) w fun e w' => e = .returned (.int .i64 v) /\ Below w.heap.size w w' := by
 rw [Array.append_empty]
 go_enter Seq.func25, Tryz.ntmps25
 go_wp2
 go_ret
 exact ⟨rfl, Below.refl _ _⟩
theorem labels2_any (a : Ac) (w : World) : Calls Seq.prog 28 (#[.agg #[.int .i64 a.1, .int .i64 a.2.1, .int .i64 a.2.2]] ++ #[]) w fun e w' => e = .returned (.int .i64 0) /\ Below w.heap.size w w' := by
 have HB := hidep (pal w)
 rw [Array.append_empty]
 go_enter Seq.func28, Tryz.ntmps28
 go_wp2
 go_ret
 exact ⟨rfl, HB.out _⟩
theorem leastFrom1_any (v : Nat) (fr : Int) (b : Nat) (w : World) (hc : w.cell? ⟨b, 0, none⟩ = some (.int .i64 fr)) : Calls Seq.prog 49 (#[.int .i64 v] ++ #[.pointer (some ⟨b, 0, none⟩)]) w fun e w' => e = .returned (.int .i64 (fromF fr v)) /\ Below w.heap.size w w' := by
 have e0 : (#[.int .i64 (v : Int)] ++ #[.pointer (some ⟨b, 0, none⟩)] : Array Value) = #[.int .i64 (v : Int), .pointer (some ⟨b, 0, none⟩)] := rfl
 rw [e0]
 by_cases h : (v : Int) = fr
 · have HC : Hid (fromF fr v = 0) := by show _ = _; unfold fromF; rw [if_pos h]
   have hd : ((v : Int) == fr) = true := by simpa using h
   clear h
   go_enter Seq.func49, Tryz.ntmps49
   go_wp2
   go_ret
   exact ⟨retp_int HC.out.symm, Below.refl _ _⟩
 · have HC : Hid (fromF fr v = 1099511627776) := by show _ = _; unfold fromF; rw [if_neg h]
   have hd : ((v : Int) == fr) = false := by simpa using h
   clear h
   go_enter Seq.func49, Tryz.ntmps49
   go_wp2
   go_ret
   exact ⟨retp_int HC.out.symm, Below.refl _ _⟩
def ToldZ (w w' : World) (e : Ending) (n : Int) (r : List Int) : Prop :=
 ∃ v, e = .returned (.tuple #[v, .int .i64 n]) /\ w'.ownsRow w.heap.size 3 1 v r.length (r.map (Value.int .i64)) /\ Below w.heap.size w w'
def LeastIs (al : List Bool) (arcs : List Ac) (fr : Int) (p : Ac -> Int) (n : Int) (r : List Int) : Prop :=
 (¬ shot al arcs = 0 /\ n = shot al arcs /\ r = []) \/ (shot al arcs = 0 /\ vtx al.length fr = false /\ n = 4 /\ r = []) \/ (shot al arcs = 0 /\ vtx al.length fr = true /\ n = 0 /\ Best (firstL al (fromF fr)) arcs p r)
theorem shot_bad {al : List Bool} {arcs : List Ac} (h : ¬ shot al arcs = 0) : ∃ n, shot al arcs = n /\ (n = 1 \/ n = 2 \/ n = 4) := by
 unfold shot at h ⊢
 split
 · exact ⟨2, rfl, .inr (.inl rfl)⟩
 · split
   · split
     · rename_i h1 h2 h3; rw [if_neg h1, if_pos h2, if_pos h3] at h; exact absurd rfl h
     · exact ⟨1, rfl, .inl rfl⟩
   · exact ⟨4, rfl, .inr (.inr rfl)⟩
set_option maxRecDepth 100000 in
set_option maxHeartbeats 4000000 in
theorem leastFrom_any (g : Nat) (p : Ac -> Int) (eg : ∀ args w, (callFunc g args).run Seq.prog w = .ok (.enter g args) w)
   (hf : ∀ (a : Ac) wq, Calls Seq.prog g (#[.agg #[.int .i64 a.1, .int .i64 a.2.1, .int .i64 a.2.2]] ++ #[]) wq fun e w' => e = .returned (.int .i64 (p a)) /\ Below wq.heap.size wq w')
   (ao bo : Option Addr) (ca cb : Nat) (al : List Bool) (arcs : List Ac) (fr : Int) (w : World) (hA : BsAt w ao al) (hR : PcAt w bo arcs) (hp : shot al arcs = 0 -> ∀ a ∈ arcs, 0 <= p a /\ p a <= 1000) :
   Calls Seq.prog 29 #[.agg #[.slice ao al.length ca, .slice bo arcs.length cb], .int .i64 fr, .func (.func g) #[] #[]] w fun e w' => ∃ n r, LeastIs al arcs fr p n r /\ ToldZ w w' e n r := by
 have HB : Hid (∀ o o', Below w.heap.size w ((w.alloc o).alloc o')) := fun o o' => ptw (pal w o) (pal _ o')
 have hC := fun o o' => plCheck_any ao bo ca cb al arcs ((w.alloc o).alloc o') (hA.below (ptw (pal w o) (pal _ o'))) (hR.below (ptw (pal w o) (pal _ o')))
 by_cases h0 : ¬ shot al arcs = 0
 · obtain ⟨n, en, hn⟩ := shot_bad h0
   have HC : Hid (LeastIs al arcs fr p n []) := .inl ⟨h0, en.symm, rfl⟩
   simp only [en] at hC
   clear h0 en hA hR
   have hne : (n != 0) = true := by rcases hn with rfl | rfl | rfl <;> rfl
   go_enter Seq.func29, Tryz.ntmps29
   go_wp2_with fail
   refine (hC _ _).mono ?_
   rintro e w1 ⟨rfl, hb1⟩
   have HB1 := hidep (ptw (HB.out _ _) hb1)
   clear hC hb1
   go_wp2
   go_ret2
   exact ⟨_, _, HC.out, _, rfl, World.ownsRow_nil _ _ _ _, HB1.out⟩
 rw [Decidable.not_not] at h0
 have S := shot_right h0
 have HS0 := hidep h0
 have HP := hidep (hp h0)
 simp only [h0] at hC
 clear h0 hp
 cases hv : vtx al.length fr with
 | false =>
   have HC : Hid (LeastIs al arcs fr p 4 []) := .inr (.inl ⟨HS0.out, hv, rfl, rfl⟩)
   have h1 := fun W => isVertex_any ao bo al.length ca arcs.length cb fr W
   simp only [hv] at h1
   clear hv hA hR S
   go_enter Seq.func29, Tryz.ntmps29
   go_wp2_with fail
   refine (hC _ _).mono ?_
   rintro e w1 ⟨rfl, hb1⟩
   have hz := hb1.size
   simp only [World.size_alloc] at hz
   have q0 : w1.cell? ⟨w.heap.size, 0, none⟩ = some (.slice ao al.length ca) := by rw [hb1.cell (p := ⟨w.heap.size, 0, none⟩) (by simp; omega), (pal _ _).cell (p := ⟨w.heap.size, 0, none⟩) (by simp)]; simp
   have q1 : w1.cell? ⟨w.heap.size, 1, none⟩ = some (.slice bo arcs.length cb) := by rw [hb1.cell (p := ⟨w.heap.size, 1, none⟩) (by simp; omega), (pal _ _).cell (p := ⟨w.heap.size, 1, none⟩) (by simp)]; simp
   have q2 : w1.cell? ⟨w.heap.size + 1, 0, none⟩ = some (.int .i64 fr) := by rw [hb1.cell (p := ⟨w.heap.size + 1, 0, none⟩) (by simp)]; simp
   have HB1 := hidep (ptw (HB.out _ _) hb1)
   clear hC hb1
   go_wp2_with (go_at_call 48; refine (h1 _).mono ?_; rintro e w2 ⟨rfl, hb2⟩)
   go_ret2
   exact ⟨_, _, HC.out, _, rfl, World.ownsRow_nil _ _ _ _, ptw HB1.out hb2⟩
 | true =>
   have HV := hidep hv
   have h1 := fun W => isVertex_any ao bo al.length ca arcs.length cb fr W
   simp only [hv] at h1
   clear hv
   have eg1 : ∀ args w, (callFunc 49 args).run Seq.prog w = .ok (.enter 49 args) w := fun args w => rfl
   go_enter Seq.func29, Tryz.ntmps29
   go_wp2_with fail
   refine (hC _ _).mono ?_
   rintro e w1 ⟨rfl, hb1⟩
   have hz := hb1.size
   simp only [World.size_alloc] at hz
   have q0 : w1.cell? ⟨w.heap.size, 0, none⟩ = some (.slice ao al.length ca) := by rw [hb1.cell (p := ⟨w.heap.size, 0, none⟩) (by simp; omega), (pal _ _).cell (p := ⟨w.heap.size, 0, none⟩) (by simp)]; simp
   have q1 : w1.cell? ⟨w.heap.size, 1, none⟩ = some (.slice bo arcs.length cb) := by rw [hb1.cell (p := ⟨w.heap.size, 1, none⟩) (by simp; omega), (pal _ _).cell (p := ⟨w.heap.size, 1, none⟩) (by simp)]; simp
   have q2 : w1.cell? ⟨w.heap.size + 1, 0, none⟩ = some (.int .i64 fr) := by rw [hb1.cell (p := ⟨w.heap.size + 1, 0, none⟩) (by simp)]; simp
   have HB1 := hidep (ptw (HB.out _ _) hb1)
   clear hC hb1
   go_wp2_with fail
   refine (h1 _).mono ?_
   rintro e w2 ⟨rfl, hb2⟩
   have hz2 := hb2.size
   have r0 := (hb2.cell (p := ⟨w.heap.size, 0, none⟩) (by show w.heap.size < _; omega)).trans q0
   have r1 := (hb2.cell (p := ⟨w.heap.size, 1, none⟩) (by show w.heap.size < _; omega)).trans q1
   have r2 := (hb2.cell (p := ⟨w.heap.size + 1, 0, none⟩) (by show w.heap.size + 1 < _; omega)).trans q2
   have HB2 := hidep (ptw HB1.out hb2)
   have hl2 : w.heap.size + 1 < w2.heap.size := by omega
   have hOf := ofAlive_any 49 #[.pointer (some ⟨w.heap.size + 1, 0, none⟩)] (fromF fr) eg1 ao bo ca arcs.length cb al w2 (hA.below HB2.out) S.nv (fun v wq _ hq => leastFrom1_any v fr _ wq ((hq.cell (p := ⟨w.heap.size + 1, 0, none⟩) hl2).trans r2))
   clear h1 hb2 q0 q1 q2
   go_wp2_with fail
   refine hOf.mono ?_
   rintro e w3 ⟨gb, rfl, Z3, hb3⟩
   have hz3 := hb3.size
   have s1 := (hb3.cell (p := ⟨w.heap.size, 1, none⟩) (by show w.heap.size < _; omega)).trans r1
   have HB3 := hidep (ptw HB2.out hb3)
   have hgl := World.ownsRow.lt Z3 gb rfl
   have F : Fine (firstL al (fromF fr)) arcs p := S.fine (fun v _ => fromF_bounds fr v) HP.out
   have hSp := spread_any g #[] p eg w2.heap.size gb al.length bo cb (firstL al (fromF fr)) (firstL al (fromF fr)) arcs w3 Z3 (hR.below HB3.out) (fun h0 b off e h => by
     subst h e
     have := hR.lt h0
     omega) F (mid_start _ _ _) (firstL_length _ _) (Nat.le_trans S.na (by decide)) (fun a _ wq => hf a wq)
   clear hOf r0 r1 r2
   go_wp2_with fail
   refine hSp.mono ?_
   rintro e w4 ⟨rfl, z, hBest, Z4, hg4⟩
   have HC : Hid (LeastIs al arcs fr p 0 z) := .inr (.inr ⟨HS0.out, HV.out, rfl, hBest⟩)
   have hzl := Z4.len
   have HB4 := hidep (HB3.out.grown hg4 HB3.out.size (fun k hk => by cases hk; omega))
   have HZ4 : Hid (w4.ownsRow w.heap.size 3 1 (.slice (some ⟨gb, 0, none⟩) al.length al.length) z.length (z.map (Value.int .i64))) := by
     show World.ownsRow _ _ _ _ _ _ _
     rw [hzl]
     exact owns_base2 Z4 (by omega)
   clear hSp hg4 Z4 Z3
   go_wp2
   go_ret2
   exact ⟨_, _, HC.out, _, rfl, HZ4.out, HB4.out⟩
def LabelsIs (al : List Bool) (arcs : List Ac) (n : Int) (r : List Int) : Prop :=
 (¬ shot al arcs = 0 /\ n = shot al arcs /\ r = []) \/ (shot al arcs = 0 /\ n = 0 /\ Best (firstL al (fun v => v)) (bothW arcs) (fun _ => 0) r)
set_option maxRecDepth 100000 in
theorem Hops_any (ao bo : Option Addr) (ca cb : Nat) (al : List Bool) (arcs : List Ac) (fr : Int) (w : World) (hA : BsAt w ao al) (hR : PcAt w bo arcs) :
   Calls Seq.prog 10 #[.agg #[.slice ao al.length ca, .slice bo arcs.length cb], .int .i64 fr] w fun e w' => ∃ n r, LeastIs al arcs fr (fun _ => 1) n r /\ ToldZ w w' e n r := by
 have HB := hidep (pal w)
 have h1 := fun o => leastFrom_any 30 (fun _ => 1) (fun args w => rfl) (fun a wq => hops1_any a wq) ao bo ca cb al arcs fr (w.alloc o) (hA.below (pal w o)) (hR.below (pal w o)) (fun _ _ _ => by omega)
 clear hA hR
 go_enter Seq.func10, Tryz.ntmps10
 go_wp2_with fail
 refine (h1 _).mono ?_
 rintro e w1 ⟨n, r, hL, v, rfl, ho, hb⟩
 have HL := hidep hL
 have HO := hidep (owns_base2 (base' := w.heap.size) ho (by simp))
 have HB1 := hidep (ptw (HB.out _) hb)
 clear hL ho hb h1
 go_wp2
 go_ret2
 exact ⟨_, _, HL.out, _, rfl, HO.out, HB1.out⟩
set_option maxRecDepth 100000 in
theorem Costs_any (ao bo : Option Addr) (ca cb : Nat) (al : List Bool) (arcs : List Ac) (fr : Int) (w : World) (hA : BsAt w ao al) (hR : PcAt w bo arcs) :
   Calls Seq.prog 11 #[.agg #[.slice ao al.length ca, .slice bo arcs.length cb], .int .i64 fr] w fun e w' => ∃ n r, LeastIs al arcs fr (fun a => a.2.2) n r /\ ToldZ w w' e n r := by
 have HB := hidep (pal w)
 have h1 := fun o => leastFrom_any 31 (fun a => a.2.2) (fun args w => rfl) (fun a wq => costs1_any a wq) ao bo ca cb al arcs fr (w.alloc o) (hA.below (pal w o)) (hR.below (pal w o)) (fun h => (shot_right h).cost)
 clear hA hR
 go_enter Seq.func11, Tryz.ntmps11
 go_wp2_with fail
 refine (h1 _).mono ?_
 rintro e w1 ⟨n, r, hL, v, rfl, ho, hb⟩
 have HL := hidep hL
 have HO := hidep (owns_base2 (base' := w.heap.size) ho (by simp))
 have HB1 := hidep (ptw (HB.out _) hb)
 clear hL ho hb h1
 go_wp2
 go_ret2
 exact ⟨_, _, HL.out, _, rfl, HO.out, HB1.out⟩
set_option maxRecDepth 100000 in
set_option maxHeartbeats 4000000 in
theorem Labels_any (ao bo : Option Addr) (ca cb : Nat) (al : List Bool) (arcs : List Ac) (w : World) (hA : BsAt w ao al) (hR : PcAt w bo arcs) :
   Calls Seq.prog 9 #[.agg #[.slice ao al.length ca, .slice bo arcs.length cb]] w fun e w' => ∃ n r, LabelsIs al arcs n r /\ ToldZ w w' e n r := by
 have HB := hidep (pal w)
 have hC := fun o => plCheck_any ao bo ca cb al arcs (w.alloc o) (hA.below (pal w o)) (hR.below (pal w o))
 by_cases h0 : ¬ shot al arcs = 0
 · obtain ⟨n, en, hn⟩ := shot_bad h0
   have HC : Hid (LabelsIs al arcs n []) := .inl ⟨h0, en.symm, rfl⟩
   simp only [en] at hC
   clear h0 en hA hR
   have hne : (n != 0) = true := by rcases hn with rfl | rfl | rfl <;> rfl
   go_enter Seq.func9, Tryz.ntmps9
   go_wp2_with fail
   refine (hC _).mono ?_
   rintro e w1 ⟨rfl, hb1⟩
   have HB1 := hidep (ptw (HB.out _) hb1)
   clear hC hb1
   go_wp2
   go_ret2
   exact ⟨_, _, HC.out, _, rfl, World.ownsRow_nil _ _ _ _, HB1.out⟩
 rw [Decidable.not_not] at h0
 have S := shot_right h0
 have HS0 := hidep h0
 simp only [h0] at hC
 clear h0
 have eg1 : ∀ args w, (callFunc 25 args).run Seq.prog w = .ok (.enter 25 args) w := fun args w => rfl
 have eg2 : ∀ args w, (callFunc 28 args).run Seq.prog w = .ok (.enter 28 args) w := fun args w => rfl
 go_enter Seq.func9, Tryz.ntmps9
 go_wp2_with fail
 refine (hC _).mono ?_
 rintro e w1 ⟨rfl, hb1⟩
 have hz := hb1.size
 simp only [World.size_alloc] at hz
 have q0 : w1.cell? ⟨w.heap.size, 0, none⟩ = some (.slice ao al.length ca) := by rw [hb1.cell (p := ⟨w.heap.size, 0, none⟩) (by simp)]; simp
 have q1 : w1.cell? ⟨w.heap.size, 1, none⟩ = some (.slice bo arcs.length cb) := by rw [hb1.cell (p := ⟨w.heap.size, 1, none⟩) (by simp)]; simp
 have HB1 := hidep (ptw (HB.out _) hb1)
 have hOf := ofAlive_any 25 #[] (fun v => v) eg1 ao bo ca arcs.length cb al w1 (hA.below HB1.out) S.nv (fun v wq _ _ => labels1_any v wq)
 clear hC hb1
 go_wp2_with fail
 refine hOf.mono ?_
 rintro e w3 ⟨gb, rfl, Z3, hb3⟩
 have hz3 := hb3.size
 have s1 := (hb3.cell (p := ⟨w.heap.size, 1, none⟩) (by show w.heap.size < _; omega)).trans q1
 have HB3 := hidep (ptw HB1.out hb3)
 have hgl := World.ownsRow.lt Z3 gb rfl
 have hBo := bothWays_any bo cb arcs w3 (hR.below HB3.out) S.na
 clear hOf q0 q1
 go_wp2_with fail
 refine hBo.mono ?_
 rintro e w4 ⟨v4, rfl, own4, hb4⟩
 have HB4 := hidep (ptw HB3.out hb4)
 have hz4 := hb4.size
 obtain ⟨b4, c4, rfl, hP4⟩ := pcAt_of_owns own4
 have F : Fine (firstL al (fun v => v)) (bothW arcs) (fun _ => 0) := S.bothW (fun v hv => by have := S.nv; omega) (fun _ _ => by omega) (fun _ => rfl)
 have hSp := spread_any 28 #[] (fun _ => 0) eg2 w1.heap.size gb al.length b4 c4 (firstL al (fun v => v)) (firstL al (fun v => v)) (bothW arcs) w4 (Z3.below hb4) hP4 (fun h0 b off e h => by
   subst h e
   have := (own4.lt b rfl).1
   omega) F (mid_start _ _ _) (firstL_length _ _) (by rw [both_length]; have := S.na; omega) (fun a _ wq => labels2_any a wq)
 clear hBo s1
 go_wp2_with fail
 refine hSp.mono ?_
 rintro e w5 ⟨rfl, z, hBest, Z5, hg5⟩
 have HC : Hid (LabelsIs al arcs 0 z) := .inr ⟨HS0.out, rfl, hBest⟩
 have hzl := Z5.len
 have HB5 := hidep (HB4.out.grown hg5 HB4.out.size (fun k hk => by cases hk; omega))
 have HZ5 : Hid (w5.ownsRow w.heap.size 3 1 (.slice (some ⟨gb, 0, none⟩) al.length al.length) z.length (z.map (Value.int .i64))) := by
   show World.ownsRow _ _ _ _ _ _ _
   rw [hzl]
   exact owns_base2 Z5 (by omega)
 clear hSp hg5 Z5 Z3 own4 hP4
 go_wp2
 go_ret2
 exact ⟨_, _, HC.out, _, rfl, HZ5.out, HB5.out⟩
theorem shot_zero {al : List Bool} {arcs : List Ac} (S : Shot al arcs) : shot al arcs = 0 := by
 refine shot_ok (by have := S.nv; have := S.na; omega) (List.all_eq_true.2 fun a ha => (endsB_iff al a).2 (S.ends a ha)) (List.all_eq_true.2 fun a ha => (costB_iff a).2 (S.cost a ha))
def wantIs (al : List Bool) (arcs : List Ac) (p : Nat) (fr : Int) (r : List Int) : Prop :=
 (p = 1 /\ Best (firstL al (fromF fr)) arcs (fun _ => 1) r) \/ (p = 2 /\ Best (firstL al (fromF fr)) arcs (fun a => a.2.2) r) \/ (p = 3 /\ Best (firstL al (fun v => v)) (bothW arcs) (fun _ => 0) r)
theorem want_is {g : Gr} (h0 : gChk g = 0) {p : Nat} {fr : Int} {t : Nat} {r : List Int} (h : wantIs (aliveL t g.lives) (arcsL t g.lives g.edges) p fr r) : r = (plF g p fr t).1 := by
 have S := shot_snap (gChk_right h0) (t : Int)
 obtain ⟨k, e, h1, h2, _⟩ := plF_is h0 p fr t
 have R : PlIs g p fr t (XX g p fr k t) k := plIs_iff.2 ⟨rfl, h1, h2⟩
 rw [e]
 unfold PlIs at R
 rcases h with ⟨rfl, h⟩ | ⟨rfl, h⟩ | ⟨rfl, h⟩
 · have B := rounds_best (fine_prog S fr (.inl rfl)).1 (fine_prog S fr (.inl rfl)).2 R
   have e1 : begF ((1 : Nat) : Int) fr = fromF fr := by funext v; unfold begF; rw [if_neg (by decide)]
   have e2 : pricZ 1 = fun _ => 1 := by funext a; rfl
   rw [e1, e2] at B
   exact best_unique h B
 · have B := rounds_best (fine_prog S fr (.inr (.inl rfl))).1 (fine_prog S fr (.inr (.inl rfl))).2 R
   have e1 : begF ((2 : Nat) : Int) fr = fromF fr := by funext v; unfold begF; rw [if_neg (by decide)]
   have e2 : pricZ 2 = fun a => a.2.2 := by funext a; rfl
   rw [e1, e2] at B
   exact best_unique h B
 · have B := rounds_best (fine_prog S fr (.inr (.inr rfl))).1 (fine_prog S fr (.inr (.inr rfl))).2 R
   have e1 : begF ((3 : Nat) : Int) fr = fun v => v := by funext v; unfold begF; rw [if_pos (by decide)]
   have e2 : pricZ 3 = fun _ => 0 := by funext a; rfl
   rw [e1, e2] at B
   exact best_unique h B
theorem plF_few {g : Gr} (h0 : gChk g = 0) (p : Nat) (fr : Int) (t : Nat) : (plF g p fr t).2 <= g.lives.length := by
 obtain ⟨k, e, h1, h2, _⟩ := plF_is h0 p fr t
 rw [e]
 rcases Nat.lt_or_ge g.lives.length k with c | c
 · exfalso
   have := (runsX h0 p fr (t : Int)).still (r := g.lives.length) (by omega)
   exact h2 g.lives.length c this
 · exact c
theorem allR_few {g : Gr} (h0 : gChk g = 0) (p : Nat) (fr : Int) : ∀ k, 0 <= allR g p fr k /\ allR g p fr k <= (g.lives.length : Int)
 | 0 => by simp only [allR]; omega
 | k + 1 => by
   have h1 := allR_few h0 p fr k
   have h2 := plF_few h0 p fr k
   simp only [allR]
   omega
theorem plF_near {g : Gr} (h0 : gChk g = 0) {p : Nat} (hp : p = 1 \/ p = 2 \/ p = 3) (fr : Int) (t : Nat) {v : Nat} (hv : v < g.lives.length) (hl : (plF g p fr t).1.getD v 0 < 1099511627776) : 0 <= (plF g p fr t).1.getD v 0 /\ (plF g p fr t).1.getD v 0 <= 100000 := by
 have S := shot_snap (gChk_right h0) (t : Int)
 have hk := plF_few h0 p fr t
 have h12 := (gChk_right h0).lvs
 obtain ⟨k, e, h1, h2, _⟩ := plF_is h0 p fr t
 have R : PlIs g p fr t (XX g p fr k t) k := plIs_iff.2 ⟨rfl, h1, h2⟩
 rw [e] at hl hk ⊢
 simp only at hl hk ⊢
 unfold PlIs at R
 have F := fine_prog S fr hp
 have B := rounds_best F.1 F.2 R
 have lo := B.mid.lo F.1 v (by rw [firstL_length, aliveL_length]; exact hv)
 have sm := (runsX h0 p fr (t : Int)).small (B := 12) (fun v hv hlt => (first_hi h12 v hv).2 hlt) k v hv hl
 exact ⟨lo, by omega⟩
theorem allP_chk {g : Gr} (h0 : gChk g = 0) {p : Nat} (hp : p = 1 \/ p = 2 \/ p = 3) (fr : Int) {v : Nat} (hv : v < g.lives.length) : mchk (allP g p fr v g.hor.toNat) = 0 /\ ∀ t : Nat, (t : Int) < g.hor -> tel (allP g p fr v g.hor.toNat) (t : Int) = optI ((plF g p fr t).1.getD v 0) := by
 obtain ⟨h1, h2, h3⟩ := allP_is h0 p fr hv g.hor.toNat
 have hor := (gChk_right h0).hor
 have hl := allP_len g p fr v g.hor.toNat
 refine ⟨mchk_of_mcan h1 (fun q hq => ?_) (by omega), fun t ht => ?_⟩
 · have hpo := mcan_pos h1 q hq
   have hq2 := h2 q hq
   have ht := tel_start h1 q hq
   rw [h3] at ht
   have hs : 0 <= q.1 /\ q.1 < ((g.hor.toNat : Nat) : Int) := by omega
   rw [if_pos hs] at ht
   unfold optI at ht
   split at ht
   · rename_i hlt
     simp only [Option.some.injEq] at ht
     refine ⟨?_, ?_, ?_⟩
     · unfold nearB; omega
     · unfold nearB; omega
     · have := plF_near h0 hp fr q.1.toNat hv hlt
       unfold nearB; omega
   · cases ht
 · rw [h3, if_pos (by omega), Int.toNat_natCast]
theorem bpAsk {g : Gr} {p v : Int} (h : askE g p v = 0) : gChk g = 0 /\ ∃ q : Nat, p = q /\ (q = 1 \/ q = 2 \/ q = 3) /\ (q ≠ 3 -> vtx g.lives.length v = true) := by
 unfold askE at h
 by_cases e : gChk g = 0
 · rw [if_pos e] at h
   by_cases i : inR p 1 3 = true
   · rw [if_pos i] at h
     rw [inR_iff] at i
     refine ⟨e, p.toNat, by omega, by omega, fun hn => ?_⟩
     rw [if_neg (by omega)] at h
     by_cases k : inR v 0 ((g.lives.length : Int) - 1) = true
     · rw [inR_iff] at k
       exact (vtx_iff _ _).2 (by omega)
     · rw [if_neg k] at h; cases h
   · rw [if_neg i] at h; omega
 · rw [if_neg e] at h; exact absurd h e
theorem LeastIs.got {al : List Bool} {arcs : List Ac} {fr : Int} {p : Ac -> Int} {n : Int} {r : List Int} (h : LeastIs al arcs fr p n r) (S : Shot al arcs) (hv : vtx al.length fr = true) : n = 0 /\ Best (firstL al (fromF fr)) arcs p r := by
 rcases h with ⟨h, _⟩ | ⟨_, h, _⟩ | ⟨_, _, h1, h2⟩
 · exact absurd (shot_zero S) h
 · rw [hv] at h; cases h
 · exact ⟨h1, h2⟩
theorem LabelsIs.got {al : List Bool} {arcs : List Ac} {n : Int} {r : List Int} (h : LabelsIs al arcs n r) (S : Shot al arcs) : n = 0 /\ Best (firstL al (fun v => v)) (bothW arcs) (fun _ => 0) r := by
 rcases h with ⟨h, _⟩ | ⟨_, h1, h2⟩
 · exact absurd (shot_zero S) h
 · exact ⟨h1, h2⟩
theorem two_lit {P : Program} {l : List Oper} {Q : Exit -> Act -> World -> Prop} {md : Region.Mode} {S : World -> Prop} {i j : Nat} {o o' : Oper} {fuel : Nat} {listed : Array Bool} {a : Act} {w : World} (ho : l[i]? = some o) (ho' : l[j]? = some o') (hr : Region.ready md l.toArray listed = [i, j])
   (h : ∀ K' : Act -> World -> Prop, Shut (∀ a w, S w -> (S w -> wpAnyH P md l.toArray Q S fuel (listed.setIfInBounds i true) a w) -> K' a w) -> if Region.wanted o (yielded l.toArray a.tmps) = true then Oper.wp P o a w K' Q else K' (a.put o.dst undef) w)
   (h' : ∀ K' : Act -> World -> Prop, Shut (∀ a w, S w -> (S w -> wpAnyH P md l.toArray Q S fuel (listed.setIfInBounds j true) a w) -> K' a w) -> if Region.wanted o' (yielded l.toArray a.tmps) = true then Oper.wp P o' a w K' Q else K' (a.put o'.dst undef) w) : wpAnyH P md l.toArray Q S (fuel + 1) listed a w :=
 wpAnyH_ready hr (by simp) (AllReadyH.cons (by simpa using ho) h (AllReadyH.cons (by simpa using ho') h' AllReadyH.nil))
theorem box_two {W : World} {SB : Nat} {u v : Value} {T : TypeId} (h : W.heap[SB]? = some (.cells #[u, v] T (0, 0))) (x y : Value) : ((W.setCell ⟨SB, 0, none⟩ x).setCell ⟨SB, 1, none⟩ y).cell? ⟨SB, 0, none⟩ = some x /\ ((W.setCell ⟨SB, 0, none⟩ x).setCell ⟨SB, 1, none⟩ y).cell? ⟨SB, 1, none⟩ = some y /\ W.grownBy ((W.setCell ⟨SB, 0, none⟩ x).setCell ⟨SB, 1, none⟩ y) (some SB) := by
 have h1 := heap_setCell_same W SB 0 _ _ x h
 have h2 := heap_setCell_same _ SB 1 _ _ y h1
 refine ⟨?_, ?_, gby_trans (gby_setOne W SB 0 x) (gby_setOne _ SB 1 y)⟩
 · rw [cell_of_row _ SB 0 _ _ (0, 0) h2]; rfl
 · rw [cell_of_row _ SB 1 _ _ (0, 0) h2]; rfl
theorem slice_cells {W : World} {SB : Nat} {T : TypeId} (h : W.heap[SB]? = some (.cells #[.slice none 0 0, .slice none 0 0] T (0, 0))) (j : Nat) {x : Value} (hx : W.cell? ⟨SB, j, none⟩ = some x) : x = .slice none 0 0 := by
 rw [cell_of_row _ SB j _ _ (0, 0) h] at hx
 match j with
 | 0 => cases hx; rfl
 | 1 => cases hx; rfl
 | j + 2 => simp at hx
theorem bsAt_store {W W' : World} {SB : Nat} {T : TypeId} {ao : Option Addr} {l : List Bool} (h : BsAt W ao l) (hb : W.heap[SB]? = some (.cells #[.slice none 0 0, .slice none 0 0] T (0, 0))) (hg : W.grownBy W' (some SB)) : BsAt W' ao l := by
 rcases h with h | ⟨b, off, rfl, hlt, hc⟩
 · exact .inl h
 · cases l with
   | nil => exact .inl rfl
   | cons x l =>
     refine .inr ⟨b, off, rfl, Nat.lt_of_lt_of_le hlt hg.size, fun j hj => ?_⟩
     rw [hg.cell_far ⟨b, off + j, none⟩ hlt (fun e => ?_)]
     · exact hc j hj
     · have e := Option.some.inj e
       simp only at e
       have h0 := hc 0 (by simp)
       rw [e] at h0
       have := slice_cells hb _ h0
       cases this
theorem pcAt_store {W W' : World} {SB : Nat} {T : TypeId} {ao : Option Addr} {l : List (Int × Int × Int)} (h : PcAt W ao l) (hb : W.heap[SB]? = some (.cells #[.slice none 0 0, .slice none 0 0] T (0, 0))) (hg : W.grownBy W' (some SB)) : PcAt W' ao l := by
 rcases h with h | ⟨b, off, rfl, hlt, hc⟩
 · exact .inl h
 · cases l with
   | nil => exact .inl rfl
   | cons x l =>
     have hne : ∀ k, W'.cell? ⟨b, k, none⟩ = W.cell? ⟨b, k, none⟩ := fun k => hg.cell_far ⟨b, k, none⟩ hlt (fun e => by
       have e := Option.some.inj e
       simp only at e
       have h0 := (hc 0 (by simp)).1
       rw [e] at h0
       have := slice_cells hb _ h0
       cases this)
     refine .inr ⟨b, off, rfl, Nat.lt_of_lt_of_le hlt hg.size, fun j hj => ?_⟩
     rw [hne, hne, hne]
     exact hc j hj
theorem GBox.setFar {w W : World} {g : Gr} {la ea : Option Addr} {lc ec SB j : Nat} (h : GBox w W w.heap.size g la ea lc ec) (h1 : w.heap.size <= SB) (h2 : w.heap.size ≠ SB) (x : Value) : GBox w (W.setCell ⟨SB, j, none⟩ x) w.heap.size g la ea lc ec := by
 have hg := gby_setOne W SB j x
 have hne : ∀ k, (W.setCell ⟨SB, j, none⟩ x).cell? ⟨w.heap.size, k, none⟩ = W.cell? ⟨w.heap.size, k, none⟩ := fun k => hg.cell_far ⟨w.heap.size, k, none⟩ h.lt (fun e => h2 (Option.some.inj e))
 exact ⟨(hne 0).trans h.c0, (hne 1).trans h.c1, (hne 2).trans h.c2, h.bel.setCell (p := ⟨SB, j, none⟩) h1 x, Nat.lt_of_lt_of_le h.lt hg.size⟩
theorem AM.blocks {W : World} {base go n : Nat} {val : Nat -> Value} {pcs : Nat -> List P3} (A : AM W base go n val pcs) (k : Nat) (hk : k = go \/ ∃ i, i < n /\ (val i).ownBlock = some k) : k < W.heap.size := by
 rcases hk with rfl | ⟨i, hi, h⟩
 · exact (World.ownsRow.lt A.own _ rfl).2
 · exact ((A.inn i hi).lt k h).2
theorem AM.setFarP {W : World} {base go n SB j : Nat} {val : Nat -> Value} {pcs : Nat -> List P3} (A : AM W base go n val pcs) (h : ∀ k, (k = go \/ ∃ i, i < n /\ (val i).ownBlock = some k) -> k ≠ SB) (x : Value) : AM (W.setCell ⟨SB, j, none⟩ x) base go n val pcs := by
 have hg := gby_setOne W SB j x
 refine ⟨World.ownsRow.kept A.own hg (.inr (fun e => h go (.inl rfl) (Option.some.inj e))), fun v hv => World.ownsRow.kept (A.inn v hv) hg ?_, A.ap⟩
 cases hb : (val v).ownBlock with
 | none => exact .inl rfl
 | some k => exact .inr (fun e => h k (.inr ⟨v, hv, hb⟩) (Option.some.inj e))
def WantAt (W : World) (base : Nat) (u : Value) (x : List Int) : Prop := W.ownsRow base 3 1 u x.length (x.map (Value.int .i64))
set_option maxRecDepth 100000 in
set_option maxHeartbeats 1000000 in
theorem bspPoints_err (g : Gr) (la ea : Option Addr) (lc ec : Nat) (p fr t : Int) (w : World) (hG : GAt w la ea g) (hE : askE g p fr ≠ 0) :
   Calls Seq.prog 3 #[.agg #[.int .i64 g.hor, .slice la g.lives.length lc, .slice ea g.edges.length ec], .int .i64 p, .int .i64 fr, .int .i64 t] w fun e w' => e = .returned (.bool true) \/ (¬ Zt zqs w.tape /\ ∃ ch, e = .panicked ch /\ DeadAt w') := by
 have B0 := gbox_start w g la ea lc ec 25
 have HR := hideg (fun W (hb : Below w.heap.size w W) => bsRun_err g la ea lc ec p fr W (hG.below hb) hE)
 have hrun := runs_any (w.alloc (.cells #[.int .i64 g.hor, .slice la g.lives.length lc, .slice ea g.edges.length ec] 25))
 have d1 : (askE g p fr != 0) = true := by simpa using hE
 have HB0 := hideg B0
 generalize askE g p fr = x at *
 clear hG hE B0
 go_enter Seq.func3, Tryz.ntmps3
 go_wp2_with fail
 refine hrun.mono ?_
 clear hrun
 rintro e w1 (⟨rfl, hb1⟩ | ⟨hz, ch, rfl, hd⟩)
 · have B1 := HB0.out.below hb1
   have g0 := B1.c0
   have g1 := B1.c1
   have g2 := B1.c2
   have hR := HR.out _ B1.bel
   clear hb1 B1 HR
   go_wp2_with fail
   refine hR.mono ?_
   rintro e w2 ⟨rfl, hb2⟩
   clear hR hb2
   go_wp2
   go_ret
   exact .inl rfl
 · exact ⟨rfl, .inr ⟨fun h => hz (by rw [HB0.out.bel.tape]; exact h), ch, rfl, hd⟩⟩
set_option maxRecDepth 100000 in
set_option maxHeartbeats 2000000 in
theorem bspPoints_ok (g : Gr) (la ea : Option Addr) (lc ec q : Nat) (fr t : Int) (w : World) (hG : GAt w la ea g) (hlc : g.lives.length <= lc) (hlm : lc <= 9223372036854775807) (hE : askE g q fr = 0) (h0 : gChk g = 0) (hq : q = 1 \/ q = 2 \/ q = 3) (hv : q ≠ 3 -> vtx g.lives.length fr = true) :
   Calls Seq.prog 3 #[.agg #[.int .i64 g.hor, .slice la g.lives.length lc, .slice ea g.edges.length ec], .int .i64 (q : Int), .int .i64 fr, .int .i64 t] w fun e w' => e = .returned (.bool true) \/ (¬ Zt zqs w.tape /\ ∃ ch, e = .panicked ch /\ DeadAt w') := by
 have hR := gChk_right h0
 have hor := hR.hor
 have hl12 := hR.lvs
 have B0 := gbox_start w g la ea lc ec 25
 have HRn := hideg (fun W (hb : Below w.heap.size w W) => bsRun_ok g la ea lc ec q fr W (hG.below hb) hE h0 (bsPaths_any g la ea lc ec q h0 hq))
 have hrun := runs_any (w.alloc (.cells #[.int .i64 g.hor, .slice la g.lives.length lc, .slice ea g.edges.length ec] 25))
 obtain ⟨τ, hτ⟩ : ∃ τ : Nat, restF t g.hor = (τ : Int) := ⟨(restF t g.hor).toNat, by have := restF_in t g.hor (by omega); omega⟩
 have hτh : (τ : Int) < g.hor := by have := restF_in t g.hor (by omega); omega
 have hRs := fun W => restF_any t g.hor (by omega) (by omega) W
 rw [hτ] at hRs
 have hat : atErr g (τ : Int) = 0 := by unfold atErr; rw [if_pos h0, if_pos ((inR_iff _ _ _).2 (by omega))]
 have HAt : Hid (∀ W, Below w.heap.size w W -> Calls Seq.prog 7 #[.agg #[.int .i64 g.hor, .slice la g.lives.length lc, .slice ea g.edges.length ec], .int .i64 (τ : Int)] W fun r w' => SnapOut W w' r 0 (aliveL (τ : Int) g.lives) (arcsL (τ : Int) g.lives g.edges)) := by
   intro W hb
   have := At_any g la ea lc ec (τ : Int) W (hG.below hb) hlc hlm
   rw [hat, if_pos rfl, if_pos rfl] at this
   exact this
 have S := shot_snap hR (τ : Int)
 have hal : (aliveL (τ : Int) g.lives).length = g.lives.length := aliveL_length _ _
 have HLb : Hid (∀ ao bo ca cb W, BsAt W ao (aliveL (τ : Int) g.lives) -> PcAt W bo (arcsL (τ : Int) g.lives g.edges) -> Calls Seq.prog 9 #[.agg #[.slice ao (aliveL (τ : Int) g.lives).length ca, .slice bo (arcsL (τ : Int) g.lives g.edges).length cb]] W fun e w' => ∃ u x, e = .returned (.tuple #[u, .int .i64 0]) /\ WantAt w' W.heap.size u x /\ (q = 3 -> x = (plF g q fr τ).1) /\ Below W.heap.size W w') := by
   intro ao bo ca cb W hA hB
   refine (Labels_any ao bo ca cb _ _ W hA hB).mono ?_
   rintro e w' ⟨n, r, hL, u, rfl, ho, hb⟩
   obtain ⟨rfl, hBest⟩ := hL.got S
   exact ⟨u, r, rfl, ho, fun h => want_is h0 (.inr (.inr ⟨h, hBest⟩)), hb⟩
 have HHp : Hid (q = 1 -> ∀ ao bo ca cb W, BsAt W ao (aliveL (τ : Int) g.lives) -> PcAt W bo (arcsL (τ : Int) g.lives g.edges) -> Calls Seq.prog 10 #[.agg #[.slice ao (aliveL (τ : Int) g.lives).length ca, .slice bo (arcsL (τ : Int) g.lives g.edges).length cb], .int .i64 fr] W fun e w' => ∃ u, e = .returned (.tuple #[u, .int .i64 0]) /\ WantAt w' W.heap.size u (plF g q fr τ).1 /\ Below W.heap.size W w') := by
   intro h1 ao bo ca cb W hA hB
   refine (Hops_any ao bo ca cb _ _ fr W hA hB).mono ?_
   rintro e w' ⟨n, r, hL, u, rfl, ho, hb⟩
   obtain ⟨rfl, hBest⟩ := hL.got S (by rw [hal]; exact hv (by omega))
   have : r = (plF g q fr τ).1 := want_is h0 (.inl ⟨h1, hBest⟩)
   rw [<- this]
   exact ⟨u, rfl, ho, hb⟩
 have HCo : Hid (q = 2 -> ∀ ao bo ca cb W, BsAt W ao (aliveL (τ : Int) g.lives) -> PcAt W bo (arcsL (τ : Int) g.lives g.edges) -> Calls Seq.prog 11 #[.agg #[.slice ao (aliveL (τ : Int) g.lives).length ca, .slice bo (arcsL (τ : Int) g.lives g.edges).length cb], .int .i64 fr] W fun e w' => ∃ u, e = .returned (.tuple #[u, .int .i64 0]) /\ WantAt w' W.heap.size u (plF g q fr τ).1 /\ Below W.heap.size W w') := by
   intro h1 ao bo ca cb W hA hB
   refine (Costs_any ao bo ca cb _ _ fr W hA hB).mono ?_
   rintro e w' ⟨n, r, hL, u, rfl, ho, hb⟩
   obtain ⟨rfl, hBest⟩ := hL.got S (by rw [hal]; exact hv (by omega))
   have : r = (plF g q fr τ).1 := want_is h0 (.inr (.inl ⟨h1, hBest⟩))
   rw [<- this]
   exact ⟨u, rfl, ho, hb⟩
 have HX : Hid ((plF g q fr τ).1.length = g.lives.length) := by
   obtain ⟨k, e, _⟩ := plF_is h0 q fr τ
   show _ = _
   rw [e]; exact XX_len g q fr k τ
 have HCk := hideg (fun v (hv : v < g.lives.length) => (allP_chk h0 hq fr hv).1)
 have HTl := hideg (fun v (hv : v < g.lives.length) => (allP_chk h0 hq fr hv).2 τ hτh)
 have HFw := hideg (allR_few h0 q fr g.hor.toNat)
 have HSl := hideg (fun v (_ : v < g.lives.length) => allP_len g q fr v g.hor.toNat)
 have HHt : Hid (g.hor.toNat <= 100) := by show _ <= _; omega
 have HB0 := hideg B0
 clear hG hE h0 hR hor B0 S hal hat hτ hτh
 generalize aliveL (τ : Int) g.lives = al at *
 generalize arcsL (τ : Int) g.lives g.edges = arcs at *
 generalize (plF g q fr τ).1 = X at *
 go_enter Seq.func3, Tryz.ntmps3
 go_wp2_with fail
 refine hrun.mono ?_
 clear hrun
 rintro e w1 (⟨rfl, hb1⟩ | ⟨hz, ch, rfl, hd⟩)
 case inr => exact ⟨rfl, .inr ⟨fun h => hz (by rw [HB0.out.bel.tape]; exact h), ch, rfl, hd⟩⟩
 have B1 := HB0.out.below hb1
 have g0 := B1.c0
 have g1 := B1.c1
 have g2 := B1.c2
 have hRn := HRn.out _ B1.bel
 clear hb1 HB0
 go_wp2_with fail
 refine hRn.mono ?_
 clear hRn HRn
 rintro e w2 (⟨go, val, T, r, rfl, A2, hT, hr, hb2⟩ | ⟨hz, ch, rfl, hd⟩)
 case inr => exact ⟨rfl, .inr ⟨fun h => hz (by rw [B1.bel.tape]; exact h), ch, rfl, hd⟩⟩
 have B2 := B1.below hb2
 have HT := hideg hT
 have hr2 : 0 <= r /\ r <= (g.lives.length : Int) := by rw [hr]; exact HFw.out
 clear hT hr hb2 B1 g0 g1 g2 HFw
 have HB2 := hideg B2
 have HA2 := hideg A2
 have g0 := B2.c0
 have g1 := B2.c1
 have g2 := B2.c2
 clear B2 A2
 go_wp2_with fail
 refine Go.wp_region_held (S := fun w3 => w3.cell? ⟨w.heap.size, 0, none⟩ = some (.int .i64 g.hor) /\ w3.cell? ⟨w.heap.size, 1, none⟩ = some (.slice la g.lives.length lc) /\ w3.cell? ⟨w.heap.size, 2, none⟩ = some (.slice ea g.edges.length ec)) (by kernel_rfl) ?_
 generalize hw8 : ({ w2 with drawn := w2.drawn + 1 } : World) = w3
 have hb23 : Below w2.heap.size w2 w3 := by rw [<- hw8]; exact below_drewN (Below.refl _ _) 1
 have B3 := HB2.out.below hb23
 have hS3 : (w3.cell? ⟨w.heap.size, 0, none⟩ = some (.int .i64 g.hor) /\ w3.cell? ⟨w.heap.size, 1, none⟩ = some (.slice la g.lives.length lc) /\ w3.cell? ⟨w.heap.size, 2, none⟩ = some (.slice ea g.edges.length ec)) := ⟨B3.c0, B3.c1, B3.c2⟩
 clear hw8 HB2 g0 g1 g2
 refine take_lit (i := 0) (v := ?_) rfl (by kernel_rfl) (by kernel_rfl) (by kernel_rfl) (fun _ _ _ h => h) (Or.inl ⟨by rfl, ?hy0⟩) (by assumption) ?_
 case hy0 => (intro w hSw; (try dsimp only at hSw); go_simp; try with_reducible rfl)
 try simp only [Act.put, List.setIfInBounds_toArray, List.set_cons_zero, List.set_cons_succ]
 refine take_lit (i := 1) (v := ?_) rfl (by kernel_rfl) (by kernel_rfl) (by kernel_rfl) (fun _ _ _ h => h) (Or.inl ⟨by rfl, ?hy1⟩) (by assumption) ?_
 case hy1 => (intro w hSw; (try dsimp only at hSw); go_simp; try with_reducible rfl)
 try simp only [Act.put, List.setIfInBounds_toArray, List.set_cons_zero, List.set_cons_succ]
 refine take_lit (i := 2) (v := ?_) rfl (by kernel_rfl) (by kernel_rfl) (by kernel_rfl) (fun _ _ _ h => h) (Or.inl ⟨by rfl, ?hy2⟩) (by assumption) ?_
 case hy2 => (intro w hSw; (try dsimp only at hSw); go_simp; try with_reducible rfl)
 try simp only [Act.put, List.setIfInBounds_toArray, List.set_cons_zero, List.set_cons_succ]
 refine take_lit (i := 3) (v := ?_) rfl (by kernel_rfl) (by kernel_rfl) (by kernel_rfl) (fun _ _ _ h => h) (Or.inl ⟨by rfl, ?hy3⟩) (by assumption) ?_
 case hy3 => (intro w hSw; (try dsimp only at hSw); go_simp; try with_reducible rfl)
 try simp only [Act.put, List.setIfInBounds_toArray, List.set_cons_zero, List.set_cons_succ]
 refine two_lit (i := 4) (j := 9) rfl rfl (by kernel_rfl) (fun K hK => ?restFirst) (fun K hK => ?allocFirst)
 case' restFirst =>
   go_simp
   refine (hRs w3).mono ?_
   rintro e w' ⟨rfl, hw'⟩
   rw [hw']
   clear hw' w'
   refine hK.out _ _ hS3 (fun _ => ?_)
   clear hK K
   try simp only [Act.put, List.setIfInBounds_toArray, List.set_cons_zero, List.set_cons_succ]
   refine two_lit (i := 5) (j := 9) rfl rfl (by kernel_rfl) (fun K hK => ?atFirst) (fun K hK => ?allocNext)
 case' atFirst =>
   go_simp
   refine (HAt.out w3 B3.bel).mono ?_
   rintro e w4 ⟨ao, ca, bo, cb, rfl, hAl, hAr, hb4⟩
   have B4 := B3.below hb4
   have hS4 : (w4.cell? ⟨w.heap.size, 0, none⟩ = some (.int .i64 g.hor) /\ w4.cell? ⟨w.heap.size, 1, none⟩ = some (.slice la g.lives.length lc) /\ w4.cell? ⟨w.heap.size, 2, none⟩ = some (.slice ea g.edges.length ec)) := ⟨B4.c0, B4.c1, B4.c2⟩
   refine hK.out _ _ hS4 (fun _ => ?_)
   clear hK K
   try simp only [Act.put, List.setIfInBounds_toArray, List.set_cons_zero, List.set_cons_succ]
   refine take_lit (i := 6) (v := ?_) rfl (by kernel_rfl) (by kernel_rfl) (by kernel_rfl) (fun _ _ _ h => h) (Or.inl ⟨by rfl, ?hy6⟩) (by assumption) ?_
   case hy6 => (intro w hSw; (try dsimp only at hSw); go_simp; try with_reducible rfl)
   try simp only [Act.put, List.setIfInBounds_toArray, List.set_cons_zero, List.set_cons_succ]
   refine take_lit (i := 7) (v := ?_) rfl (by kernel_rfl) (by kernel_rfl) (by kernel_rfl) (fun _ _ _ h => h) (Or.inl ⟨by rfl, ?hy7⟩) (by assumption) ?_
   case hy7 => (intro w hSw; (try dsimp only at hSw); go_simp; try with_reducible rfl)
   try simp only [Act.put, List.setIfInBounds_toArray, List.set_cons_zero, List.set_cons_succ]
   refine take_lit (i := 8) (v := ?_) rfl (by kernel_rfl) (by kernel_rfl) (by kernel_rfl) (fun _ _ _ h => h) (Or.inl ⟨by rfl, ?hy8⟩) (by assumption) ?_
   case hy8 => (intro w hSw; (try dsimp only at hSw); go_simp; try with_reducible rfl)
   try simp only [Act.put, List.setIfInBounds_toArray, List.set_cons_zero, List.set_cons_succ]
   have b24 := ptg hb23 hb4
   refine next_lit (i := 9) rfl (by kernel_rfl) (fun K hK => ?_)
   go_simp
   obtain ⟨wX, hwX⟩ : ∃ x, x = w4.alloc (.cells #[.slice none 0 0, .slice none 0 0] 34) := ⟨_, rfl⟩
   have b4X : Below w4.heap.size w4 wX := by rw [hwX]; exact gal w4 _
   have hbox : wX.heap[w4.heap.size]? = some (.cells #[.slice none 0 0, .slice none 0 0] 34 (0, 0)) := by rw [hwX]; exact heap_alloc_new w4 _
   have BX := B4.below b4X
   have hSX : (wX.cell? ⟨w.heap.size, 0, none⟩ = some (.int .i64 g.hor) /\ wX.cell? ⟨w.heap.size, 1, none⟩ = some (.slice la g.lives.length lc) /\ wX.cell? ⟨w.heap.size, 2, none⟩ = some (.slice ea g.edges.length ec)) := ⟨BX.c0, BX.c1, BX.c2⟩
   rw [<- hwX]
   refine hK.out _ _ hSX (fun _ => ?_)
   clear hK K hwX
   try simp only [Act.put, List.setIfInBounds_toArray, List.set_cons_zero, List.set_cons_succ]
   obtain ⟨SB, hSB0⟩ : ∃ x, x = w4.heap.size := ⟨_, rfl⟩
   have hbx := hbox
   rw [<- hSB0] at hbx ⊢
   have hwS : w.heap.size < SB := by have := GBox.lt B4; omega
   have hw2S : w2.heap.size <= SB := by have := b24.size; omega
   clear hSB0
   refine next_lit (i := 10) rfl (by kernel_rfl) (fun K hK => ?_)
   have c0 := cell_of_row wX SB 0 _ _ (0, 0) hbx
   have c1 := cell_of_row wX SB 1 _ _ (0, 0) hbx
   have f0 := fun j => frozen_of_row wX SB j _ _ hbx
   obtain ⟨s0, s1, hg5⟩ := box_two hbx (.slice ao al.length ca) (.slice bo arcs.length cb)
   simp only [List.getElem?_toArray, List.getElem?_cons_zero, List.getElem?_cons_succ] at c0 c1
   go_simp
   obtain ⟨w5, hw5⟩ : ∃ x, x = (wX.setCell ⟨SB, 0, none⟩ (.slice ao al.length ca)).setCell ⟨SB, 1, none⟩ (.slice bo arcs.length cb) := ⟨_, rfl⟩
   rw [<- hw5] at s0 s1 hg5
   have B5 : GBox w w5 w.heap.size g la ea lc ec := by rw [hw5]; exact GBox.setFar (GBox.setFar BX (by omega) (by omega) _) (by omega) (by omega) _
   have hS5 : (w5.cell? ⟨w.heap.size, 0, none⟩ = some (.int .i64 g.hor) /\ w5.cell? ⟨w.heap.size, 1, none⟩ = some (.slice la g.lives.length lc) /\ w5.cell? ⟨w.heap.size, 2, none⟩ = some (.slice ea g.edges.length ec)) := ⟨B5.c0, B5.c1, B5.c2⟩
   rw [<- hw5]
   refine hK.out _ _ hS5 (fun _ => ?_)
   clear hK K c0 c1 f0
   try simp only [Act.put, List.setIfInBounds_toArray, List.set_cons_zero, List.set_cons_succ]
   refine take_lit (i := 11) (v := ?_) rfl (by kernel_rfl) (by kernel_rfl) (by kernel_rfl) (fun _ _ _ h => h) (Or.inl ⟨by rfl, ?hy11⟩) (by assumption) ?_
   case hy11 => (intro w hSw; (try dsimp only at hSw); go_simp; try with_reducible rfl)
   try simp only [Act.put, List.setIfInBounds_toArray, List.set_cons_zero, List.set_cons_succ]
   refine wpAnyH_done (by kernel_rfl) ?_ _
   have hSB : SB < w5.heap.size := Nat.lt_of_lt_of_le (Array.getElem?_eq_some_iff.1 hbx).1 hg5.size
   have A5 : AM w5 w1.heap.size go g.lives.length val T := by
     have h := HA2.out.below (ptg b24 b4X)
     rw [hw5]
     exact (h.setFarP (fun k hk => by have := AM.blocks HA2.out k hk; omega) _).setFarP (fun k hk => by have := AM.blocks HA2.out k hk; omega) _
   have hAl5 := bsAt_store (hAl.below b4X) hbx hg5
   have hAr5 := pcAt_store (hAr.below b4X) hbx hg5
   clear hS5 hAl hAr hbx hbox hg5 hw5 B4 BX b4X b24 hb23 HA2 hb4 hSX hS4 hwS hw2S
 case' allocNext =>
   go_simp
   obtain ⟨wX, hwX⟩ : ∃ x, x = w3.alloc (.cells #[.slice none 0 0, .slice none 0 0] 34) := ⟨_, rfl⟩
   have b3X : Below w3.heap.size w3 wX := by rw [hwX]; exact gal w3 _
   have hbox : wX.heap[w3.heap.size]? = some (.cells #[.slice none 0 0, .slice none 0 0] 34 (0, 0)) := by rw [hwX]; exact heap_alloc_new w3 _
   have BX := B3.below b3X
   have hSX : (wX.cell? ⟨w.heap.size, 0, none⟩ = some (.int .i64 g.hor) /\ wX.cell? ⟨w.heap.size, 1, none⟩ = some (.slice la g.lives.length lc) /\ wX.cell? ⟨w.heap.size, 2, none⟩ = some (.slice ea g.edges.length ec)) := ⟨BX.c0, BX.c1, BX.c2⟩
   rw [<- hwX]
   refine hK.out _ _ hSX (fun _ => ?_)
   clear hK K hwX
   try simp only [Act.put, List.setIfInBounds_toArray, List.set_cons_zero, List.set_cons_succ]
   refine next_lit (i := 5) rfl (by kernel_rfl) (fun K hK => ?_)
   go_simp
   refine (HAt.out wX BX.bel).mono ?_
   rintro e w4 ⟨ao, ca, bo, cb, rfl, hAl, hAr, hb4⟩
   have B4 := BX.below hb4
   have hS4 : (w4.cell? ⟨w.heap.size, 0, none⟩ = some (.int .i64 g.hor) /\ w4.cell? ⟨w.heap.size, 1, none⟩ = some (.slice la g.lives.length lc) /\ w4.cell? ⟨w.heap.size, 2, none⟩ = some (.slice ea g.edges.length ec)) := ⟨B4.c0, B4.c1, B4.c2⟩
   refine hK.out _ _ hS4 (fun _ => ?_)
   clear hK K
   try simp only [Act.put, List.setIfInBounds_toArray, List.set_cons_zero, List.set_cons_succ]
   refine take_lit (i := 6) (v := ?_) rfl (by kernel_rfl) (by kernel_rfl) (by kernel_rfl) (fun _ _ _ h => h) (Or.inl ⟨by rfl, ?hy6⟩) (by assumption) ?_
   case hy6 => (intro w hSw; (try dsimp only at hSw); go_simp; try with_reducible rfl)
   try simp only [Act.put, List.setIfInBounds_toArray, List.set_cons_zero, List.set_cons_succ]
   refine take_lit (i := 7) (v := ?_) rfl (by kernel_rfl) (by kernel_rfl) (by kernel_rfl) (fun _ _ _ h => h) (Or.inl ⟨by rfl, ?hy7⟩) (by assumption) ?_
   case hy7 => (intro w hSw; (try dsimp only at hSw); go_simp; try with_reducible rfl)
   try simp only [Act.put, List.setIfInBounds_toArray, List.set_cons_zero, List.set_cons_succ]
   refine take_lit (i := 8) (v := ?_) rfl (by kernel_rfl) (by kernel_rfl) (by kernel_rfl) (fun _ _ _ h => h) (Or.inl ⟨by rfl, ?hy8⟩) (by assumption) ?_
   case hy8 => (intro w hSw; (try dsimp only at hSw); go_simp; try with_reducible rfl)
   try simp only [Act.put, List.setIfInBounds_toArray, List.set_cons_zero, List.set_cons_succ]
   have b24 := ptg (ptg hb23 b3X) hb4
   obtain ⟨SB, hSB0⟩ : ∃ x, x = w3.heap.size := ⟨_, rfl⟩
   have hbx : w4.heap[SB]? = some (.cells #[.slice none 0 0, .slice none 0 0] 34 (0, 0)) := by
     rw [hSB0, hb4.block _ (Array.getElem?_eq_some_iff.1 hbox).1]; exact hbox
   rw [<- hSB0]
   have hwS : w.heap.size < SB := by have := GBox.lt B3; omega
   have hw2S : w2.heap.size <= SB := by have := hb23.size; omega
   clear hSB0
   refine next_lit (i := 10) rfl (by kernel_rfl) (fun K hK => ?_)
   have c0 := cell_of_row w4 SB 0 _ _ (0, 0) hbx
   have c1 := cell_of_row w4 SB 1 _ _ (0, 0) hbx
   have f0 := fun j => frozen_of_row w4 SB j _ _ hbx
   obtain ⟨s0, s1, hg5⟩ := box_two hbx (.slice ao al.length ca) (.slice bo arcs.length cb)
   simp only [List.getElem?_toArray, List.getElem?_cons_zero, List.getElem?_cons_succ] at c0 c1
   go_simp
   obtain ⟨w5, hw5⟩ : ∃ x, x = (w4.setCell ⟨SB, 0, none⟩ (.slice ao al.length ca)).setCell ⟨SB, 1, none⟩ (.slice bo arcs.length cb) := ⟨_, rfl⟩
   rw [<- hw5] at s0 s1 hg5
   have B5 : GBox w w5 w.heap.size g la ea lc ec := by rw [hw5]; exact GBox.setFar (GBox.setFar B4 (by omega) (by omega) _) (by omega) (by omega) _
   have hS5 : (w5.cell? ⟨w.heap.size, 0, none⟩ = some (.int .i64 g.hor) /\ w5.cell? ⟨w.heap.size, 1, none⟩ = some (.slice la g.lives.length lc) /\ w5.cell? ⟨w.heap.size, 2, none⟩ = some (.slice ea g.edges.length ec)) := ⟨B5.c0, B5.c1, B5.c2⟩
   rw [<- hw5]
   refine hK.out _ _ hS5 (fun _ => ?_)
   clear hK K c0 c1 f0
   try simp only [Act.put, List.setIfInBounds_toArray, List.set_cons_zero, List.set_cons_succ]
   refine take_lit (i := 11) (v := ?_) rfl (by kernel_rfl) (by kernel_rfl) (by kernel_rfl) (fun _ _ _ h => h) (Or.inl ⟨by rfl, ?hy11⟩) (by assumption) ?_
   case hy11 => (intro w hSw; (try dsimp only at hSw); go_simp; try with_reducible rfl)
   try simp only [Act.put, List.setIfInBounds_toArray, List.set_cons_zero, List.set_cons_succ]
   refine wpAnyH_done (by kernel_rfl) ?_ _
   have hSB : SB < w5.heap.size := Nat.lt_of_lt_of_le (Array.getElem?_eq_some_iff.1 hbx).1 hg5.size
   have A5 : AM w5 w1.heap.size go g.lives.length val T := by
     have h := HA2.out.below b24
     rw [hw5]
     exact (h.setFarP (fun k hk => by have := AM.blocks HA2.out k hk; omega) _).setFarP (fun k hk => by have := AM.blocks HA2.out k hk; omega) _
   have hAl5 := bsAt_store hAl hbx hg5
   have hAr5 := pcAt_store hAr hbx hg5
   clear hS5 hAl hAr hbx hbox hg5 hw5 B4 BX b3X b24 hb23 HA2 hb4 hSX hS4 hwS hw2S B3 hS3
 case' allocFirst =>
   go_simp
   obtain ⟨wX, hwX⟩ : ∃ x, x = w3.alloc (.cells #[.slice none 0 0, .slice none 0 0] 34) := ⟨_, rfl⟩
   have b3X : Below w3.heap.size w3 wX := by rw [hwX]; exact gal w3 _
   have hbox : wX.heap[w3.heap.size]? = some (.cells #[.slice none 0 0, .slice none 0 0] 34 (0, 0)) := by rw [hwX]; exact heap_alloc_new w3 _
   have BX := B3.below b3X
   have hSX : (wX.cell? ⟨w.heap.size, 0, none⟩ = some (.int .i64 g.hor) /\ wX.cell? ⟨w.heap.size, 1, none⟩ = some (.slice la g.lives.length lc) /\ wX.cell? ⟨w.heap.size, 2, none⟩ = some (.slice ea g.edges.length ec)) := ⟨BX.c0, BX.c1, BX.c2⟩
   rw [<- hwX]
   refine hK.out _ _ hSX (fun _ => ?_)
   clear hK K hwX
   try simp only [Act.put, List.setIfInBounds_toArray, List.set_cons_zero, List.set_cons_succ]
   refine next_lit (i := 4) rfl (by kernel_rfl) (fun K hK => ?_)
   go_simp
   refine (hRs wX).mono ?_
   rintro e w' ⟨rfl, hw'⟩
   rw [hw']
   clear hw' w'
   refine hK.out _ _ hSX (fun _ => ?_)
   clear hK K
   try simp only [Act.put, List.setIfInBounds_toArray, List.set_cons_zero, List.set_cons_succ]
   refine next_lit (i := 5) rfl (by kernel_rfl) (fun K hK => ?_)
   go_simp
   refine (HAt.out wX BX.bel).mono ?_
   rintro e w4 ⟨ao, ca, bo, cb, rfl, hAl, hAr, hb4⟩
   have B4 := BX.below hb4
   have hS4 : (w4.cell? ⟨w.heap.size, 0, none⟩ = some (.int .i64 g.hor) /\ w4.cell? ⟨w.heap.size, 1, none⟩ = some (.slice la g.lives.length lc) /\ w4.cell? ⟨w.heap.size, 2, none⟩ = some (.slice ea g.edges.length ec)) := ⟨B4.c0, B4.c1, B4.c2⟩
   refine hK.out _ _ hS4 (fun _ => ?_)
   clear hK K
   try simp only [Act.put, List.setIfInBounds_toArray, List.set_cons_zero, List.set_cons_succ]
   refine take_lit (i := 6) (v := ?_) rfl (by kernel_rfl) (by kernel_rfl) (by kernel_rfl) (fun _ _ _ h => h) (Or.inl ⟨by rfl, ?hy6⟩) (by assumption) ?_
   case hy6 => (intro w hSw; (try dsimp only at hSw); go_simp; try with_reducible rfl)
   try simp only [Act.put, List.setIfInBounds_toArray, List.set_cons_zero, List.set_cons_succ]
   refine take_lit (i := 7) (v := ?_) rfl (by kernel_rfl) (by kernel_rfl) (by kernel_rfl) (fun _ _ _ h => h) (Or.inl ⟨by rfl, ?hy7⟩) (by assumption) ?_
   case hy7 => (intro w hSw; (try dsimp only at hSw); go_simp; try with_reducible rfl)
   try simp only [Act.put, List.setIfInBounds_toArray, List.set_cons_zero, List.set_cons_succ]
   refine take_lit (i := 8) (v := ?_) rfl (by kernel_rfl) (by kernel_rfl) (by kernel_rfl) (fun _ _ _ h => h) (Or.inl ⟨by rfl, ?hy8⟩) (by assumption) ?_
   case hy8 => (intro w hSw; (try dsimp only at hSw); go_simp; try with_reducible rfl)
   try simp only [Act.put, List.setIfInBounds_toArray, List.set_cons_zero, List.set_cons_succ]
   have b24 := ptg (ptg hb23 b3X) hb4
   obtain ⟨SB, hSB0⟩ : ∃ x, x = w3.heap.size := ⟨_, rfl⟩
   have hbx : w4.heap[SB]? = some (.cells #[.slice none 0 0, .slice none 0 0] 34 (0, 0)) := by
     rw [hSB0, hb4.block _ (Array.getElem?_eq_some_iff.1 hbox).1]; exact hbox
   rw [<- hSB0]
   have hwS : w.heap.size < SB := by have := GBox.lt B3; omega
   have hw2S : w2.heap.size <= SB := by have := hb23.size; omega
   clear hSB0
   refine next_lit (i := 10) rfl (by kernel_rfl) (fun K hK => ?_)
   have c0 := cell_of_row w4 SB 0 _ _ (0, 0) hbx
   have c1 := cell_of_row w4 SB 1 _ _ (0, 0) hbx
   have f0 := fun j => frozen_of_row w4 SB j _ _ hbx
   obtain ⟨s0, s1, hg5⟩ := box_two hbx (.slice ao al.length ca) (.slice bo arcs.length cb)
   simp only [List.getElem?_toArray, List.getElem?_cons_zero, List.getElem?_cons_succ] at c0 c1
   go_simp
   obtain ⟨w5, hw5⟩ : ∃ x, x = (w4.setCell ⟨SB, 0, none⟩ (.slice ao al.length ca)).setCell ⟨SB, 1, none⟩ (.slice bo arcs.length cb) := ⟨_, rfl⟩
   rw [<- hw5] at s0 s1 hg5
   have B5 : GBox w w5 w.heap.size g la ea lc ec := by rw [hw5]; exact GBox.setFar (GBox.setFar B4 (by omega) (by omega) _) (by omega) (by omega) _
   have hS5 : (w5.cell? ⟨w.heap.size, 0, none⟩ = some (.int .i64 g.hor) /\ w5.cell? ⟨w.heap.size, 1, none⟩ = some (.slice la g.lives.length lc) /\ w5.cell? ⟨w.heap.size, 2, none⟩ = some (.slice ea g.edges.length ec)) := ⟨B5.c0, B5.c1, B5.c2⟩
   rw [<- hw5]
   refine hK.out _ _ hS5 (fun _ => ?_)
   clear hK K c0 c1 f0
   try simp only [Act.put, List.setIfInBounds_toArray, List.set_cons_zero, List.set_cons_succ]
   refine take_lit (i := 11) (v := ?_) rfl (by kernel_rfl) (by kernel_rfl) (by kernel_rfl) (fun _ _ _ h => h) (Or.inl ⟨by rfl, ?hy11⟩) (by assumption) ?_
   case hy11 => (intro w hSw; (try dsimp only at hSw); go_simp; try with_reducible rfl)
   try simp only [Act.put, List.setIfInBounds_toArray, List.set_cons_zero, List.set_cons_succ]
   refine wpAnyH_done (by kernel_rfl) ?_ _
   have hSB : SB < w5.heap.size := Nat.lt_of_lt_of_le (Array.getElem?_eq_some_iff.1 hbx).1 hg5.size
   have A5 : AM w5 w1.heap.size go g.lives.length val T := by
     have h := HA2.out.below b24
     rw [hw5]
     exact (h.setFarP (fun k hk => by have := AM.blocks HA2.out k hk; omega) _).setFarP (fun k hk => by have := AM.blocks HA2.out k hk; omega) _
   have hAl5 := bsAt_store hAl hbx hg5
   have hAr5 := pcAt_store hAr hbx hg5
   clear hS5 hAl hAr hbx hbox hg5 hw5 B4 BX b3X b24 hb23 HA2 hb4 hSX hS4 hwS hw2S B3 hS3
 all_goals
   have HS5 : Hid (∀ W, Below w5.heap.size w5 W -> W.cell? ⟨SB, 0, none⟩ = some (.slice ao al.length ca) /\ W.cell? ⟨SB, 1, none⟩ = some (.slice bo arcs.length cb)) := fun W hb => ⟨(hb.cell (p := ⟨SB, 0, none⟩) hSB).trans s0, (hb.cell (p := ⟨SB, 1, none⟩) hSB).trans s1⟩
   go_wp2_with fail
   refine (HLb.out ao bo ca cb w5 hAl5 hAr5).mono ?_
   rintro e w6 ⟨u6, x6, rfl, ho6, hx6, hb6⟩
   have B6 := B5.below hb6
   have A6 := A5.below hb6
   have hAl6 := hAl5.below hb6
   have hAr6 := hAr5.below hb6
   clear s0 s1
   obtain ⟨s0, s1⟩ := HS5.out w6 hb6
   clear B5 A5 hAl5 hAr5 HLb hb6
   unfold WantAt at ho6
   rcases hq with rfl | rfl | rfl
   case' inl =>
     have hHp := HHp.out rfl ao bo ca cb w6 hAl6 hAr6
     clear HHp HCo hx6 ho6 hAl6 hAr6
     go_wp2_with fail
     refine hHp.mono ?_
     rintro e w7 ⟨u7, rfl, ho7, hb7⟩
     have B7 := B6.below hb7
     have A7 := A6.below hb7
     unfold WantAt at ho7
     clear hHp hb7 B6 A6 s0 s1 HS5
   case' inr.inl =>
     have hHp := HCo.out rfl ao bo ca cb w6 hAl6 hAr6
     clear HHp HCo hx6 ho6 hAl6 hAr6
     go_wp2_with fail
     refine hHp.mono ?_
     rintro e w7 ⟨u7, rfl, ho7, hb7⟩
     have B7 := B6.below hb7
     have A7 := A6.below hb7
     unfold WantAt at ho7
     clear hHp hb7 B6 A6 s0 s1 HS5
   case' inr.inr =>
     have hx := hx6 rfl
     rw [hx] at ho6
     clear HHp HCo hx6 hx hAl6 hAr6 s0 s1 HS5
     obtain ⟨w7, hw7⟩ : ∃ x, x = w6 := ⟨_, rfl⟩
     subst hw7
     have ho7 := ho6
     have B7 := B6
     have A7 := A6
     clear ho6 B6 A6
   all_goals
     obtain ⟨zo, zc, rfl, hz⟩ := zsAt_of_owns ho7
     rw [HX.out]
     have HZ := hideg hz
     have HBW := hideg B7
     have HAW := hideg A7
     have g0 := B7.c0
     have g1 := B7.c1
     have g2 := B7.c2
     have dn : ((g.lives.length : Int) != (g.lives.length : Int)) = false := by simp
     have dr : ¬ ((g.lives.length : Int) < r) := by omega
     clear ho7 hz B7 A7
     go_wp2_with fail
     clear g0 g1 g2
     go_loopw [88] (fun i wr => ∃ k : Nat, k <= g.lives.length /\ i = .int .i64 (k : Int) /\ Below w7.heap.size w7 wr) (fun i _ => g.lives.length - (intOf i).toNat)
     case atStart => exact ⟨0, Nat.zero_le _, rfl, Below.refl _ _⟩
     case round =>
       obtain ⟨k, hk, rfl, hb⟩ := hrel
       by_cases hkl : k < g.lives.length
       · have hki : (k : Int) < (g.lives.length : Int) := by omega
         have hkw : IntKind.i64.wrap ((k : Int) + 1) = (k : Int) + 1 := wrap_nr _ (by omega) (by omega)
         have BR := HBW.out.below hb
         have AR := HAW.out.below hb
         have o1 := AR.out hkl
         obtain ⟨mo, mc, e1, p1⟩ := pcAt_of_owns (AR.inn k hkl)
         rw [e1] at o1
         have hml := HSl.out k hkl
         have hTk := HT.out k hkl
         have hm100 := HHt.out
         have hlen : (T k).length <= 100 := by rw [hTk]; omega
         have HPA := hideg (fun W (hb : Below wr.heap.size wr W) => PAt_any mo mc (T k) (τ : Int) W (p1.below hb) (by omega))
         have HPC : Hid (∀ W, Below wr.heap.size wr W -> Calls Seq.prog 13 #[.slice mo (T k).length mc] W fun e w' => e = .returned (.int .i64 0) /\ Below W.heap.size W w') := by
           intro W hW
           have h := PCheck_any mo mc (T k) W (p1.below hW)
           rw [hTk, HCk.out k hkl, <- hTk] at h
           exact h
         have htl := HTl.out k hkl
         rw [<- hTk] at htl
         have HTL := hideg htl
         clear htl
         have g0 := BR.c0
         have HZr := hideg (HZ.out.below hb)
         have HBr := hideg hb
         clear AR BR e1 p1 hml hTk hm100 hb
         generalize (T k).length = tl at *
         go_wp2_with fail
         refine (hRs wr).mono ?_
         rintro e w' ⟨rfl, hw'⟩
         rw [hw']
         clear hw' w'
         go_wp2_with fail
         refine (HPA.out wr (Below.refl _ _)).mono ?_
         rintro e wa ⟨rfl, hba⟩
         have hcw := HPC.out wa hba
         clear o1 g0
         go_wp2_with fail
         refine hcw.mono ?_
         rintro e wb ⟨rfl, hbb⟩
         have HBk := hideg (ptg HBr.out (ptg hba hbb))
         have hzb := HZr.out.below (ptg hba hbb)
         clear hcw hba hbb HPA HPC HZr HBr
         rcases hzb with h0 | ⟨zb, zf, rfl, _, hcz⟩
         · have := HX.out; rw [h0] at this; simp at this; omega
         have xk := hcz k (by rw [HX.out]; exact hkl)
         generalize X.getD k 0 = y at *
         clear hcz
         by_cases hy : y < 1099511627776
         · have ho : optI y = some y := by unfold optI; rw [if_pos hy]
           rw [HTL.out, ho]
           have dy : decide (y < 1099511627776) = true := by simpa using hy
           have dz : (y != y) = false := by simp
           clear HTL ho hy
           go_wp2
           go_roundw
           case rel => exact ⟨k + 1, by omega, by go_num, HBk.out⟩
           case measure => simp [intOf]; omega
         · have ho : optI y = none := by unfold optI; rw [if_neg hy]
           rw [HTL.out, ho]
           have dy : decide (y < 1099511627776) = false := by simpa using hy
           clear HTL ho hy
           go_wp2
           go_roundw
           case rel => exact ⟨k + 1, by omega, by go_num, HBk.out⟩
           case measure => simp [intOf]; omega
       · have hkn : ¬ ((k : Int) < (g.lives.length : Int)) := by omega
         clear hb
         go_wp2
         go_ret
         exact .inl rfl
theorem bspPoints_walk (g : Gr) (la ea : Option Addr) (lc ec : Nat) (p fr t : Int) (w : World) (hG : GAt w la ea g) (hlc : g.lives.length <= lc) (hlm : lc <= 9223372036854775807) :
   Calls Seq.prog 3 #[.agg #[.int .i64 g.hor, .slice la g.lives.length lc, .slice ea g.edges.length ec], .int .i64 p, .int .i64 fr, .int .i64 t] w fun e w' => e = .returned (.bool true) \/ (¬ Zt zqs w.tape /\ ∃ ch, e = .panicked ch /\ DeadAt w') := by
 by_cases hE : askE g p fr = 0
 · obtain ⟨h0, q, rfl, hq, hv⟩ := bpAsk hE
   exact bspPoints_ok g la ea lc ec q fr t w hG hlc hlm hE h0 hq hv
 · exact bspPoints_err g la ea lc ec p fr t w hG hE
end Go.Proofs.YthgelfnflafoiaeGreat.Q
namespace Go.Proofs.YthgelfnflafoiaeGreat
open Sim Crw
theorem bspPoints_holds : Rows.BspPointsSaid :=
 bspPoints_of fun g0 la ea lc0 ec0 t1 t2 t3 s h hl hm => Q.bspPoints_walk ⟨g0.hor, g0.lives, g0.edges⟩ la ea lc0 ec0 t1 t2 t3 s ⟨h.lv, h.ed, h.nl, h.ne⟩ hl hm
end Go.Proofs.YthgelfnflafoiaeGreat
