/-
  What Out of the program's journeys answers.
-/
import Derived.Test.YtanbbkoleekmjaiErA
import Derived.Test.YtanbbkoleekmjaiRJn
namespace Go.Proofs.Ytanbbkoleekmjai
open Go.RowKit

theorem Try.infoHopJ : (Try.prog.info? 47).map (fun i => (i.zero, i.size, i.bytes)) = some (some (.agg #[.int .i64 0, .int .i64 0]), 2, 16) := by kernel_rfl
theorem stopHere {p : Prop} (h : Hid p) : p := h
theorem encs_appj (a b : List (Int × Int)) : encs (a ++ b) = encs a ++ encs b := by simp [encs, flat]
/-- what Out answers -/
def outAns (g : Gr) (v t : Int) : List Hp := if placeE g v t = 0 then outsF g v t else []

theorem results_two_j {fn : Func} {t u : Tmp} (h : fn.results = #[.tmp t, .tmp u]) (tmps : Array Value) (P : Program) (w : World) :
    (results fn tmps).run P w = .ok (.tuple #[tmps.getD t undef, tmps.getD u undef]) w := by
  simp [results, h]

set_option maxRecDepth 100000 in
set_option maxHeartbeats 1000000 in
theorem jOut_any (g : Gr) (la ea : Option Addr) (lc ec : Nat) (v t : Int) (w : World) (hG : GAt w la ea g) :
    Calls Try.prog 25 #[.agg #[.int .i64 g.hor, .slice la g.lives.length lc, .slice ea g.edges.length ec], .int .i64 v, .int .i64 t] w fun r w' => ∃ u, r = .returned (.tuple #[u, .int .i64 (placeE g v t)]) ∧ w'.ownsRow w.heap.size 47 2 u (outAns g v t).length (encs (outAns g v t)) ∧ Below w.heap.size w w' := by
  obtain ⟨i0, hi, hz0, hz1, hz2⟩ := info_parts Try.infoHopJ
  have B0 := gbx_start w g la ea lc ec 25
  have h1 := jcheck_any g la ea lc ec v t _ (hG.below B0.bel)
  by_cases e1 : placeE g v t = 0
  case neg =>
    have HP : Hid (outAns g v t = []) := by show _ = _; unfold outAns; rw [if_neg e1]
    have d1 : (placeE g v t != 0) = true := by simpa using e1
    generalize placeE g v t = n at *
    clear e1 hG
    go_enter Try.func25, Try.ntmps25
    go_wp2_with fail
    refine h1.mono ?_
    rintro r w1 ⟨rfl, hb1⟩
    have hbF := (B0.below hb1).bel
    clear h1 hb1 B0
    go_wp2
    (try simp only [Exit.inBlock, Exit.then]); refine bodyPost_ret (results_two_j rfl _ _ _) rfl ?_
    exact ⟨_, rfl, by rw [HP.out]; exact World.ownsRow_nil _ _ _ _, hbF⟩
  rw [e1] at h1
  obtain ⟨hg0, ⟨hv0, hv1⟩, ht0, ht1⟩ := placeE_zero e1
  have hR := gChk_right hg0
  have HO : Hid (outAns g v t = outR g v t (ridesF g)) := by show _ = _; unfold outAns; rw [if_pos e1, outR_all hR ht0 ht1]
  have hll : (ridesF g).length ≤ 3000 := Nat.le_trans (ridesTo_len g _) (Nat.le_trans (Nat.mul_le_mul (show g.hor.toNat ≤ 100 by have := hR.hor; omega) hR.eds) (by omega))
  obtain ⟨V, rfl⟩ : ∃ V : Nat, v = (V : Int) := ⟨v.toNat, by omega⟩
  have hVg : V < g.lives.length := by omega
  have HRd := hideg (fun W (hb : Below w.heap.size w W) => Rides_any g la ea lc ec W (hG.below hb) hR)
  have HG := hideg hG
  rw [e1]
  clear hR hG hg0 e1
  generalize ridesF g = rides at *
  go_enter Try.func25, Try.ntmps25
  go_wp2_with fail
  refine h1.mono ?_
  rintro r w1 ⟨rfl, hb1⟩
  have B1 := B0.below hb1
  have g0 := B1.c0
  have g1 := B1.c1
  have g2 := B1.c2
  have h2 := HRd.out _ B1.bel
  clear h1 hb1 B0 HRd
  go_wp2_with fail
  refine h2.mono ?_
  rintro r w2 ⟨u, rfl, hu2, hb2⟩
  have HB2 := hideg (B1.below hb2)
  obtain ⟨ao, cap, rfl, hRd⟩ := rdAt_of_owns hu2
  have HRd := hideg hRd
  clear h2 hb2 B1 g0 g1 g2 hu2 hRd
  go_wp2_with fail
  go_loopw [9, 22] (fun u i wr => ∃ k : Nat, k ≤ rides.length ∧ i = .int .i64 k ∧ wr.ownsRow w2.heap.size 47 2 u (outR g (V : Int) t (rides.take k)).length (encs (outR g (V : Int) t (rides.take k))) ∧ Below w2.heap.size w2 wr) (fun _ i _ => rides.length - (intOf i).toNat)
  case atStart => exact ⟨0, Nat.zero_le _, rfl, World.ownsRow_nil _ _ _ _, Below.refl _ _⟩
  case round =>
    obtain ⟨k, hk, rfl, hown, hb⟩ := hrel
    by_cases hkl : k < rides.length
    · have hkli : (k : Int) < (rides.length : Int) := by omega
      have hkw : IntKind.i64.wrap ((k : Int) + 1) = (k : Int) + 1 := wrap_nj _ (by omega) (by omega)
      have hol := outR_len g (V : Int) t (rides.take k)
      have hol' : (outR g (V : Int) t (rides.take k)).length ≤ 3000 := by rw [List.length_take] at hol; omega
      rcases HRd.out.below hb with h0 | ⟨rb, rof, rfl, hrb, hrc⟩
      · rw [h0] at hkl; simp at hkl
      have hRo := hrc k hkl
      have hgd : rides.getD k ri0 = rides[k] := by rw [List.getD_eq_getElem?_getD, List.getElem?_eq_getElem hkl]; rfl
      rw [hgd] at hRo
      have HSu := hideg (outR_take (g := g) (v := (V : Int)) (t := t) hkl)
      have hBr := HB2.out.below hb
      obtain ⟨lb, lof, rfl, hlb, lv0, lv1⟩ : ∃ b off, la = some ⟨b, off, none⟩ ∧ b < wr.heap.size ∧ (wr.cell? ⟨b, off + V * 2, none⟩ = some (.int .i64 g.lives[V].1) ∧ wr.cell? ⟨b, off + V * 2 + 1, none⟩ = some (.int .i64 g.lives[V].2)) := by
        rcases (HG.out.below hBr.bel).lv with h0 | ⟨b, off, rfl, hbr, hc⟩
        · rw [h0] at hVg; simp at hVg
        exact ⟨b, off, rfl, hbr, IvAt.get hVg hc⟩
      clear hol hgd hrc
      generalize rides[k] = rr at *
      obtain ⟨E, d, a, b, ar, c⟩ := rr
      have hWt := fun W => jwaits_any g.lives[V].1 g.lives[V].2 t d W
      have hLv : leavB g (V : Int) t (E, d, a, b, ar, c) = (decide (a = (V : Int)) && (decide (t ≤ d) && (hasB g.lives[V].1 g.lives[V].2 t && hasB g.lives[V].1 g.lives[V].2 d))) := by
        unfold leavB; rw [aliveB_at t g.lives V hVg, aliveB_at d g.lives V hVg]
      obtain ⟨W0, hW0⟩ : ∃ x, x = wr.alloc (.cells #[.int .i64 E, .int .i64 d, .int .i64 a, .int .i64 b, .int .i64 ar, .int .i64 c] 68) := ⟨_, rfl⟩
      have hba : Below wr.heap.size wr W0 := by rw [hW0]; exact gal wr _
      have c0 := hRo.c0
      have c1 := hRo.c1
      have c2 := hRo.c2
      have c3 := hRo.c3
      have c4 := hRo.c4
      have c5 := hRo.c5
      simp only at c0 c1 c2 c3 c4 c5
      have y0 : W0.cell? ⟨wr.heap.size, 0, none⟩ = some (.int .i64 E) := by rw [hW0]; exact new_cell rfl rfl
      have y1 : W0.cell? ⟨wr.heap.size, 1, none⟩ = some (.int .i64 d) := by rw [hW0]; exact new_cell rfl rfl
      have y2 : W0.cell? ⟨wr.heap.size, 2, none⟩ = some (.int .i64 a) := by rw [hW0]; exact new_cell rfl rfl
      have hlt0 : wr.heap.size < W0.heap.size := by rw [hW0]; simp
      have hW0s := hW0.symm
      have hne : Nonempty (HeldIn W0) := ⟨⟨W0, Below.refl _ _⟩⟩
      have f0 : ∀ s : HeldIn W0, s.w.cell? ⟨wr.heap.size, 1, none⟩ = some (.int .i64 d) := fun s => (s.h.cell (p := ⟨wr.heap.size, 1, none⟩) hlt0).trans y1
      have f1 : ∀ s : HeldIn W0, s.w.cell? ⟨wr.heap.size, 2, none⟩ = some (.int .i64 a) := fun s => (s.h.cell (p := ⟨wr.heap.size, 2, none⟩) hlt0).trans y2
      have f2 : ∀ s : HeldIn W0, s.w.cell? ⟨w.heap.size, 1, none⟩ = some (.slice (some ⟨lb, lof, none⟩) g.lives.length lc) := fun s => ((hBr.below hba).below s.h).c1
      have f3 : ∀ s : HeldIn W0, s.w.cell? ⟨lb, lof + V * 2, none⟩ = some (.int .i64 g.lives[V].1) := fun s => ((ptg hba s.h).cell (p := ⟨lb, lof + V * 2, none⟩) hlb).trans lv0
      have f4 : ∀ s : HeldIn W0, s.w.cell? ⟨lb, lof + V * 2 + 1, none⟩ = some (.int .i64 g.lives[V].2) := fun s => ((ptg hba s.h).cell (p := ⟨lb, lof + V * 2 + 1, none⟩) hlb).trans lv1
      have hVi : (V : Int) < (g.lives.length : Int) := by omega
      have HOW : Hid (∀ W, Below W0.heap.size W0 W → W.ownsRow w2.heap.size 47 2 u9 (outR g (V : Int) t (rides.take k)).length (encs (outR g (V : Int) t (rides.take k))) ∧ Below w2.heap.size w2 W ∧ W.cell? ⟨wr.heap.size, 0, none⟩ = some (.int .i64 E) ∧ W.cell? ⟨wr.heap.size, 1, none⟩ = some (.int .i64 d)) := fun W h => ⟨ownsRow_below hown (ptg hba h), hb.trans ((ptg hba h).mono hb.size), (h.cell (p := ⟨wr.heap.size, 0, none⟩) hlt0).trans y0, (h.cell (p := ⟨wr.heap.size, 1, none⟩) hlt0).trans y1⟩
      generalize hcur : outR g (V : Int) t (rides.take k) = cur at *
      generalize (decide (t ≤ d) && (hasB g.lives[V].1 g.lives[V].2 t && hasB g.lives[V].1 g.lives[V].2 d)) = bw at *
      simp only at HSu
      rw [hLv] at HSu
      clear hcur hLv hRo hBr lv0 lv1 hown hb hW0 hba y0 y1 y2
      by_cases ea' : a = (V : Int)
      · have dA : (a == (V : Int)) = true := by simpa using ea'
        rw [show decide (a = (V : Int)) = true from by simpa using ea', Bool.true_and] at HSu
        clear ea'
        cases bw with
        | false =>
          have HE : Hid (outR g (V : Int) t (rides.take (k + 1)) = cur) := by show _ = _; rw [HSu.out]; simp
          go_wp2_with fail
          refine wp_region_held W0 (Below.refl _ _) (by kernel_rfl) (by kernel_rfl) ?_
          repeat (go_big_quiet_step ((go_at_call 40; exact held_of (hWt _))))
          refine wpQuiet_nil ?_
          rintro _ ⟨s, rfl⟩
          obtain ⟨o1, o2, _⟩ := HOW.out s.w s.h
          clear f0 f1 f2 f3 f4 hne hWt HOW c0 c1 c2 c3 c4 hW0s
          generalize s.w = w3 at *
          go_wp2
          go_roundw
          case rel => exact ⟨k + 1, by omega, by go_num, by rw [HE.out]; exact o1, o2⟩
          case measure => simp [intOf]; omega
        | true =>
          have HE : Hid (outR g (V : Int) t (rides.take (k + 1)) = cur ++ [(E, d)]) := by show _ = _; rw [HSu.out]; simp
          go_wp2_with fail
          refine wp_region_held W0 (Below.refl _ _) (by kernel_rfl) (by kernel_rfl) ?_
          repeat (go_big_quiet_step ((go_at_call 40; exact held_of (hWt _))))
          refine wpQuiet_nil ?_
          rintro _ ⟨s, rfl⟩
          obtain ⟨o1, o2, x0, x1⟩ := HOW.out s.w s.h
          clear f0 f1 f2 f3 f4 hne hWt HOW c0 c1 c2 c3 c4 hW0s
          generalize s.w = w3 at *
          have hs3 := o2.size
          have HBg : Hid (∀ (o : Obj) (w5 : World), (w3.alloc o).grownBy w5 u9.ownBlock → Below w2.heap.size w2 w5) := fun o w5 hgr => (o2.alloc o2.size o).grown hgr (by have := o2.size; simp at this ⊢; omega) (fun k hk => (o1.lt k hk).1)
          go_wp2_with (at_builtin; refine stopHere ?_)
          refine hideg ?_
          refine wpList_append_own _ rfl _ _ 31 rfl w2.heap.size 47 i0 _ 2 16 Try.underlying31 hi hz0 hz1 hz2 rfl (by decide) _ _ _ rfl (World.ownsRow.alloc (w := w3) o1 _) ⟨w3.heap.size, 0, none⟩ 1 1 [.int .i64 E, .int .i64 d] rfl rfl (cells_two_new _ _ _ _ _ (by simp)) (by intro u hu; simp at hu; rcases hu with rfl | rfl <;> rfl) (by unfold maxLen; omega) (by omega) (by simp; omega) ?_
          intro v' w5 hown5 hgrow _
          have hb' := HBg.out _ _ hgrow
          have R : w5.ownsRow w2.heap.size 47 2 v' (outR g (V : Int) t (rides.take (k + 1))).length (encs (outR g (V : Int) t (rides.take (k + 1)))) := by
            rw [HE.out, encs_appj, List.length_append]; exact hown5
          clear hgrow o1 hown5 x0 x1
          go_wp2
          go_roundw
          case rel => exact ⟨k + 1, by omega, by go_num, R, hb'⟩
          case measure => simp [intOf]; omega
      · have dA : (a == (V : Int)) = false := by simpa using ea'
        rw [show decide (a = (V : Int)) = false from by simpa using ea', Bool.false_and] at HSu
        have HE : Hid (outR g (V : Int) t (rides.take (k + 1)) = cur) := by show _ = _; rw [HSu.out]; simp
        clear ea'
        go_wp2_with fail
        refine wp_region_held W0 (Below.refl _ _) (by kernel_rfl) (by kernel_rfl) ?_
        repeat (go_big_quiet_step ((go_at_call 40; exact held_of (hWt _))))
        refine wpQuiet_nil ?_
        rintro _ ⟨s, rfl⟩
        obtain ⟨o1, o2, _⟩ := HOW.out s.w s.h
        clear f0 f1 f2 f3 f4 hne hWt HOW c0 c1 c2 c3 c4 hW0s
        generalize s.w = w3 at *
        go_wp2
        go_roundw
        case rel => exact ⟨k + 1, by omega, by go_num, by rw [HE.out]; exact o1, o2⟩
        case measure => simp [intOf]; omega
    · have hke : rides.length = k := by omega
      rw [← hke, List.take_length, ← HO.out] at hown
      have R := owns_base2 hown HB2.out.bel.size
      have hbF := HB2.out.bel.trans (hb.mono HB2.out.bel.size)
      clear hown hke
      go_wp2
      (try simp only [Exit.inBlock, Exit.then]); refine bodyPost_ret (results_two_j rfl _ _ _) rfl ?_
      exact ⟨_, rfl, R, hbF⟩

end Go.Proofs.Ytanbbkoleekmjai
