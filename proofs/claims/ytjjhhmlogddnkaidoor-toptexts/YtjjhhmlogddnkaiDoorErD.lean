/-
  What Way of the earliest answers: a journey that comes as early as is told, or an error.
-/
import Derived.Test.YtjjhhmlogddnkaiDoorErC
import Derived.Test.YtjjhhmlogddnkaiDoorErRev
namespace Go.Proofs.YtjjhhmlogddnkaiDoor
open Go.RowKit

theorem Tryd.infoHopE : (Tryd.prog.info? 43).map (fun i => (i.zero, i.size, i.bytes)) = some (some (.agg #[.int .i64 0, .int .i64 0]), 2, 16) := by kernel_rfl
/-- the way back from a vertex, along the last rides: hop by hop -/
def trF (L : List Ri) (v : Int) : Nat → Int → List Hp
  | 0, _ => []
  | f + 1, x => if x = v then [] else ((L.getD x.toNat (0, 0, 0, 0, 0, 0)).1, (L.getD x.toNat (0, 0, 0, 0, 0, 0)).2.1) :: trF L v f (L.getD x.toNat (0, 0, 0, 0, 0, 0)).2.2.1
theorem trF_at (L : List Ri) (v : Int) (f : Nat) : trF L v f v = [] := by cases f <;> simp [trF]
theorem trF_step (L : List Ri) {v x : Int} (f : Nat) (h : x ≠ v) : trF L v (f + 1) x = ((L.getD x.toNat (0, 0, 0, 0, 0, 0)).1, (L.getD x.toNat (0, 0, 0, 0, 0, 0)).2.1) :: trF L v f (L.getD x.toNat (0, 0, 0, 0, 0, 0)).2.2.1 := by rw [trF, if_neg h]
/-- what Way tells -/
def WayIs (g : Gr) (v t q e : Int) (l : List Hp) : Prop :=
  (placeE g v t ≠ 0 ∧ e = placeE g v t ∧ l = []) ∨
  (placeE g v t = 0 ∧ (¬ (0 ≤ q ∧ q < g.lives.length) ∨ (erF g v t).1.getD q.toNat 0 = 1099511627776) ∧ e = 4 ∧ l = []) ∨
  (placeE g v t = 0 ∧ (0 ≤ q ∧ q < g.lives.length) ∧ (erF g v t).1.getD q.toNat 0 ≠ 1099511627776 ∧ e = 0 ∧ WayTo g (erF g v t).1 v q l ∧ l = (trF (erF g v t).2 v 300 q).reverse)

set_option maxRecDepth 100000 in
set_option maxHeartbeats 400000 in
theorem eWay_any (g : Gr) (la ea : Option Addr) (lc ec : Nat) (v t q : Int) (w : World) (hG : GAt w la ea g) :
    Calls Tryd.prog 11 #[.agg #[.int .i64 g.hor, .slice la g.lives.length lc, .slice ea g.edges.length ec], .int .i64 v, .int .i64 t, .int .i64 q] w fun r w' => ∃ u e l, r = .returned (.tuple #[u, .int .i64 e]) ∧ WayIs g v t q e l ∧ w'.ownsRow w.heap.size 43 2 u l.length (encs l) ∧ Below w.heap.size w w' := by
  obtain ⟨i0, hi, hz0, hz1, hz2⟩ := info_parts Tryd.infoHopE
  have B0 := gbx_start w g la ea lc ec 25
  have h1 := jcheck_any g la ea lc ec v t _ (hG.below B0.bel)
  by_cases e1 : placeE g v t = 0
  case neg =>
    have HP : Hid (WayIs g v t q (placeE g v t) []) := .inl ⟨e1, rfl, rfl⟩
    have d1 : (placeE g v t != 0) = true := by simpa using e1
    generalize placeE g v t = n at *
    clear e1 hG
    go_enter Tryd.func11, Tryd.ntmps11
    go_wp2_with fail
    refine h1.mono ?_
    rintro r w1 ⟨rfl, hb1⟩
    have hbF := (B0.below hb1).bel
    clear h1 hb1 B0
    go_wp2
    (try simp only [Exit.inBlock, Exit.then]); refine bodyPost_ret (results_two_e rfl _ _ _) rfl ?_
    exact ⟨_, _, _, rfl, HP.out, World.ownsRow_nil _ _ _ _, hbF⟩
  have HP2 : Hid ((¬ (0 ≤ q ∧ q < g.lives.length) ∨ (erF g v t).1.getD q.toNat 0 = 1099511627776) → WayIs g v t q 4 []) := fun h => .inr (.inl ⟨e1, h, rfl, rfl⟩)
  have HP3 : Hid ((0 ≤ q ∧ q < g.lives.length) → (erF g v t).1.getD q.toNat 0 ≠ 1099511627776 → ∀ l, WayTo g (erF g v t).1 v q l → l = (trF (erF g v t).2 v 300 q).reverse → WayIs g v t q 0 l) := fun h1 h2 l h h' => .inr (.inr ⟨e1, h1, h2, rfl, h, h'⟩)
  have h2 := fun W (hb : Below w.heap.size w W) => earliest_any g la ea lc ec v t W (hG.below hb) e1
  obtain ⟨hg0, ⟨hv0, hv1⟩, ht0, ht1⟩ := placeE_zero e1
  have hR := gChk_right hg0
  have hn12 := hR.lvs
  have hhor := hR.hor
  have HEr : Hid (aliveB t g.lives v = true → ErOk g v t (erF g v t)) := fun ha => (erF_ok hR hv0 ha).1
  have HAw : Hid (¬ aliveB t g.lives v = true → (erF g v t).1 = List.replicate g.lives.length 1099511627776) := fun ha => erF_away ha
  rw [e1] at h1
  have HRt := hideg hR
  clear hG e1 hg0 hR
  have hvq := fun W => gHasV_any g.hor la ea g.lives.length lc g.edges.length ec q W hn12
  by_cases bq : inR q 0 ((g.lives.length : Int) - 1) = true
  case neg =>
    rw [Bool.not_eq_true] at bq
    have HW := hideg (HP2.out (.inl (fun h => by rw [(inR_iff q 0 ((g.lives.length : Int) - 1)).2 (by omega)] at bq; cases bq)))
    rw [bq] at hvq
    clear HP2 HP3 h2 HEr HAw bq
    go_enter Tryd.func11, Tryd.ntmps11
    go_wp2_with fail
    refine h1.mono ?_
    rintro r w1 ⟨rfl, hb1⟩
    have B1 := B0.below hb1
    have g0 := B1.c0
    have g1 := B1.c1
    have g2 := B1.c2
    clear h1 hb1 B0
    go_wp2_with fail
    refine (hvq _).mono ?_
    rintro r w2 ⟨rfl, hb2⟩
    have hbF := (B1.below hb2).bel
    clear hvq hb2 B1 g0 g1 g2
    go_wp2
    (try simp only [Exit.inBlock, Exit.then]); refine bodyPost_ret (results_two_e rfl _ _ _) rfl ?_
    exact ⟨_, _, _, rfl, HW.out, World.ownsRow_nil _ _ _ _, hbF⟩
  have hq01 := (inR_iff q 0 ((g.lives.length : Int) - 1)).1 bq
  rw [bq] at hvq
  clear bq
  obtain ⟨Y, rfl⟩ : ∃ Y : Nat, q = (Y : Int) := ⟨q.toNat, by omega⟩
  have hY : Y < g.lives.length := by omega
  have hlT := (erF_len g v t).1
  have hlL := (erF_len g v t).2
  simp only [Int.toNat_natCast] at HP2 HP3
  obtain ⟨T, hT⟩ : ∃ T, T = (erF g v t).1 := ⟨_, rfl⟩
  obtain ⟨L, hL⟩ : ∃ L, L = (erF g v t).2 := ⟨_, rfl⟩
  have hTL : erF g v t = (T, L) := by rw [hT, hL]
  rw [← hT] at h2 HP2 HP3 HAw hlT
  rw [← hL] at h2 hlL HP3
  rw [hTL] at HEr
  clear hT hL hTL
  obtain ⟨y, hy⟩ : ∃ y, y = T.getD Y 0 := ⟨_, rfl⟩
  rw [← hy] at HP2 HP3
  by_cases e2 : y = 1099511627776
  · have HW := hideg (HP2.out (.inr e2))
    subst e2
    clear HP2 HP3 HEr HAw
    go_enter Tryd.func11, Tryd.ntmps11
    go_wp2_with fail
    refine h1.mono ?_
    rintro r w1 ⟨rfl, hb1⟩
    have B01 := B0.below hb1
    have g0 := B01.c0
    have g1 := B01.c1
    have g2 := B01.c2
    clear h1 hb1 B0
    go_wp2_with fail
    refine (hvq _).mono ?_
    rintro r w11 ⟨rfl, hb11⟩
    have B1 := B01.below hb11
    clear hvq hb11 B01 g0 g1 g2
    have g0 := B1.c0
    have g1 := B1.c1
    have g2 := B1.c2
    have hbx := B1.bel
    go_wp2_with fail
    refine (h2 _ hbx).mono ?_
    rintro r w2 ⟨m1, m2, rfl, hZ, _, hb2⟩
    have cY := hZ.cell hY
    rw [← hy] at cY
    have hbF := ptg hbx hb2
    clear h2 hZ hb2 g0 g1 g2 hbx B1 hy
    go_wp2
    (try simp only [Exit.inBlock, Exit.then]); refine bodyPost_ret (results_two_e rfl _ _ _) rfl ?_
    exact ⟨_, _, _, rfl, HW.out, World.ownsRow_nil _ _ _ _, hbF⟩
  have d2 : (y == 1099511627776) = false := by simpa using e2
  have hal : aliveB t g.lives v = true := by
    refine Classical.byContradiction fun h => e2 ?_
    rw [hy, HAw.out h, rep_getD _ _ _ hY]
  have HE := hideg (HEr.out hal)
  have HW := hideg (HP3.out ⟨by omega, by omega⟩ e2)
  have HY : Hid (T.getD Y 0 ≠ 1099511627776) := by rw [← hy]; exact e2
  clear HP2 HP3 HEr HAw hal e2
  obtain ⟨V, rfl⟩ : ∃ V : Nat, v = (V : Int) := ⟨v.toNat, by omega⟩
  go_enter Tryd.func11, Tryd.ntmps11
  go_wp2_with fail
  refine h1.mono ?_
  rintro r w1 ⟨rfl, hb1⟩
  have B01 := B0.below hb1
  have g0 := B01.c0
  have g1 := B01.c1
  have g2 := B01.c2
  clear h1 hb1 B0
  go_wp2_with fail
  refine (hvq _).mono ?_
  rintro r w11 ⟨rfl, hb11⟩
  have B1 := B01.below hb11
  clear hvq hb11 B01 g0 g1 g2
  have g0 := B1.c0
  have g1 := B1.c1
  have g2 := B1.c2
  have hbx := B1.bel
  go_wp2_with fail
  refine (h2 _ hbx).mono ?_
  rintro r w2 ⟨m1, m2, rfl, hZ, hLr, hb2⟩
  have cY := hZ.cell hY
  rw [← hy] at cY
  have HbF := hideg (ptg hbx hb2)
  have HLr := hideg hLr
  have HS1 := hideg hbx.size
  clear h2 hZ hb2 g0 g1 g2 hbx B1 hy hLr hlT hlL
  go_wp2_with fail
  go_loopw [13, 14] (fun u x wr => ∃ (X : Nat) (l : List Hp), X < g.lives.length ∧ x = .int .i64 X ∧ T.getD X 0 ≠ 1099511627776 ∧ WayTo g T X Y l.reverse ∧ (∀ f, trF L (V : Int) (f + l.length) (Y : Int) = l ++ trF L (V : Int) f (X : Int)) ∧ wr.ownsRow w2.heap.size 43 2 u l.length (encs l) ∧ Below w2.heap.size w2 wr) (fun _ x _ => (T.getD (intOf x).toNat 0).toNat)
  case atStart => exact ⟨Y, [], hY, rfl, HY.out, wayTo_nil g T Y, fun f => rfl, World.ownsRow_nil _ _ _ _, Below.refl _ _⟩
  case round =>
    clear cY d2
    obtain ⟨X, l, hX, rfl, hXi, hW, hTr, hown, hb⟩ := hrel
    have HTr := hideg hTr
    clear hTr
    have hTx : 0 ≤ T.getD X 0 ∧ T.getD X 0 < g.hor := by
      rcases HE.out.is X hX with e | e
      · exact absurd e hXi
      · have := e.place HRt.out (by omega); exact this.2.2
    have hTy : T.getD Y 0 < g.hor := by
      rcases HE.out.is Y hY with e | e
      · exact absurd e HY.out
      · have := e.place HRt.out (by omega); exact this.2.2.2
    have hll : l.length ≤ 200 := by
      have := hW.len
      simp only [Int.toNat_natCast, List.length_reverse] at this
      omega
    by_cases hXV : X = V
    · subst hXV
      have HWl := hideg (HW.out _ hW (by
        have h9 := HTr.out (300 - l.length)
        rw [trF_at, List.append_nil, show 300 - l.length + l.length = 300 by omega] at h9
        rw [h9]))
      have hbF : Below w.heap.size w wr := HbF.out.trans (hb.mono HbF.out.size)
      clear hW hXi hTx hTy
      rcases hown.2 with ⟨hu, h0⟩ | ⟨gb, cap, cur, hu, hgb, hh, h3, h4, h5, h6⟩
      · have hl0 : l = [] := List.eq_nil_of_length_eq_zero h0
        subst hl0
        subst hu
        have hRv := fun W => Reverse_nil W
        clear hown h0
        go_wp2_with fail
        refine (hRv _).mono ?_
        rintro r w5 ⟨⟨vv, rfl⟩, rfl⟩
        clear hRv
        go_wp2
        (try simp only [Exit.inBlock, Exit.then]); refine bodyPost_ret (results_two_e rfl _ _ _) rfl ?_
        exact ⟨_, _, _, rfl, HWl.out, World.ownsRow_nil _ _ _ _, hbF⟩
      · subst hu
        have hRv := Reverse_any w2.heap.size gb cap l wr hown (by omega)
        clear hown hh h6 h5 h3 h4 hgb
        go_wp2_with fail
        refine hRv.mono ?_
        rintro r w5 ⟨⟨vv, rfl⟩, hO5, hb5⟩
        have HO5 : Hid (w5.ownsRow w.heap.size 43 2 (.slice (some ⟨gb, 0, none⟩) l.length cap) l.reverse.length (encs l.reverse)) := by
          rw [List.length_reverse]; exact owns_base2 hO5 HbF.out.size
        have HB5 := hideg (HbF.out.trans ((hb.trans hb5).mono HbF.out.size))
        clear hRv hO5 hb5
        go_wp2
        (try simp only [Exit.inBlock, Exit.then]); refine bodyPost_ret (results_two_e rfl _ _ _) rfl ?_
        exact ⟨_, _, _, rfl, HWl.out, HO5.out, HB5.out⟩
    · have hXVi : ((X : Int) != (V : Int)) = true := by simp; omega
      obtain ⟨rOk, rTo, rAr, rFr⟩ := HE.out.way X hX hXi (by omega)
      simp only at rOk rTo rAr rFr
      have hLx := (HLr.out.one hX)
      unfold ri0 at hLx
      have HTs := hideg (fun f => trF_step L (v := (V : Int)) (x := (X : Int)) f (by omega))
      simp only [Int.toNat_natCast] at HTs
      generalize L.getD X (0, 0, 0, 0, 0, 0) = rr at *
      obtain ⟨E, d, a, b, ar, c⟩ := rr
      simp only at rTo rAr rFr
      have ha0 := rOk.a0
      simp only at ha0
      obtain ⟨A, rfl⟩ : ∃ A : Nat, a = (A : Int) := ⟨a.toNat, by omega⟩
      have hA : A < g.lives.length := by omega
      obtain ⟨hW2, hlt⟩ := hW.cons rOk rTo (by simpa using rAr) (by simpa using rFr)
      simp only [Int.toNat_natCast] at hlt hW2
      have HW2 : Hid (WayTo g T (A : Int) (Y : Int) (l ++ [(E, d)]).reverse) := by rw [List.reverse_append]; exact hW2
      have hAi : T.getD A 0 ≠ 1099511627776 := by omega
      have HTr2 : Hid (∀ f, trF L (V : Int) (f + (l ++ [(E, d)]).length) (Y : Int) = (l ++ [(E, d)]) ++ trF L (V : Int) f (A : Int)) := fun f => by
        have h9 := HTr.out (f + 1)
        have h10 := HTs.out f
        simp only at h10
        rw [h10] at h9
        rw [List.length_append, List.length_singleton, show f + (l.length + 1) = f + 1 + l.length by omega, h9, List.append_assoc]
        rfl
      clear HTs HTr
      have hTA : 0 ≤ T.getD A 0 := by
        rcases HE.out.is A hA with e | e
        · exact absurd e hAi
        · have := e.place HRt.out (by omega); exact this.2.2.1
      have hm2 := (World.ownsRow.lt HLr.out _ rfl).2
      have L5 := hLx.below hm2 hb
      have c0 := L5.c0
      have c1 := L5.c1
      have c2 := L5.c2
      simp only at c0 c1 c2
      have hXi2 : (X : Int) < (g.lives.length : Int) := by omega
      have hXn : (X : Int) ≠ (V : Int) := by omega
      have HBg : Hid (∀ (o : Obj) (w5 : World), (wr.alloc o).grownBy w5 u13.ownBlock → Below w2.heap.size w2 w5) := fun o w5 hgr => (hb.alloc hb.size o).grown hgr (by have := hb.size; simp at this ⊢; omega) (fun k hk => (hown.lt k hk).1)
      have HC : Hid (∀ w5, Below w2.heap.size w2 w5 → w5.cell? ⟨m2, X * 6 + 2, none⟩ = some (.int .i64 (A : Int))) := fun w5 h => (hLx.below hm2 h).c2
      have hs2 := hb.size
      have HT : Hid ((T.getD A 0).toNat < (T.getD X 0).toNat) := by show _ < _; omega
      clear hLx L5 rOk rTo rAr rFr hW hW2 hTy HE
      go_wp2_with (at_builtin; refine stopHereR ?_)
      refine hideg ?_
      refine wpList_append_own _ rfl _ _ 38 rfl w2.heap.size 43 i0 _ 2 16 Tryd.underlying38 hi hz0 hz1 hz2 rfl (by decide) _ _ _ rfl (World.ownsRow.alloc (w := wr) hown _) ⟨wr.heap.size, 0, none⟩ 1 1 [.int .i64 E, .int .i64 d] rfl rfl (cells_two_new _ _ _ _ _ (by simp)) (by intro u hu; simp at hu; rcases hu with rfl | rfl <;> rfl) (by unfold maxLen; omega) (by omega) (by simp; omega) ?_
      intro v' w5 hown5 hgrow _
      have hb' := HBg.out _ _ hgrow
      have c2' := HC.out _ hb'
      have R5 : w5.ownsRow w2.heap.size 43 2 v' (l ++ [(E, d)]).length (encs (l ++ [(E, d)])) := by
        rw [show encs (l ++ [(E, d)]) = encs l ++ [.int .i64 E, .int .i64 d] from by simp [encs, flat], List.length_append]; exact hown5
      have HR5 := hideg R5
      clear hgrow hown5 c0 c1 c2 HBg HC R5
      go_wp2
      go_roundw
      case rel => exact ⟨A, _, hA, rfl, hAi, HW2.out, HTr2.out, HR5.out, hb'⟩
      case measure => simpa [intOf] using HT.out

end Go.Proofs.YtjjhhmlogddnkaiDoor
