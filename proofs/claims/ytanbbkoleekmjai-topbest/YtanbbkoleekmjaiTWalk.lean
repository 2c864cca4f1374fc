/-
  walk of the laws on the whole: some hops from a place.
-/
import Derived.Test.YtanbbkoleekmjaiJWalk
namespace Go.Proofs.Ytanbbkoleekmjai
open Go.RowKit

set_option maxRecDepth 100000 in
set_option maxHeartbeats 8000000 in
theorem walkT_any (g : Gr) (la ea : Option Addr) (lc ec : Nat) (v t : Int) (po : Option Addr) (pc : Nat) (picks : List Int) (w : World) (hG : GAt w la ea g) (hP : ZsAt w po picks) (hpc : picks.length ≤ pc) (hpm : pc ≤ 9223372036854775807) :
    Calls Try.prog 10 #[.agg #[.int .i64 g.hor, .slice la g.lives.length lc, .slice ea g.edges.length ec], .int .i64 v, .int .i64 t, .slice po picks.length pc] w fun r w' => ∃ u l a b, r = .returned u ∧ w'.ownsRow w.heap.size 47 2 u l.length (encs l) ∧ l.length ≤ 20 ∧ WalkIs g v t l a b ∧ Below w.heap.size w w' := by
  obtain ⟨i0, hi, hz0, hz1, hz2⟩ := info_parts Try.infoHopJ
  have B0 := gbx_start w g la ea lc ec 25
  have HG := hideg hG
  have HP := hideg hP
  have hmin : min (20 : Int) (picks.length : Int) = ((min 20 picks.length : Nat) : Int) := by omega
  have hmt : ((min 20 picks.length : Nat) : Int).toNat = min 20 picks.length := by omega
  have hmle : ((min 20 picks.length : Nat) : Int) ≤ (pc : Int) := by omega
  clear hG hP
  cases po with
  | none =>
    have hp0 : picks = [] := by
      rcases HP.out with h | ⟨b, off, h, _⟩
      · exact h
      · cases h
    subst hp0
    have hm0 : min (20 : Int) 0 = 0 := by decide
    go_enter Try.func10, Try.ntmps10
    go_wp2_with fail
    go_loopw [1, 2, 9, 24] (fun a b u i wr => a = .int .i64 v ∧ b = .int .i64 t ∧ u = .slice none 0 0 ∧ i = .int .i64 0 ∧ Below w.heap.size w wr) (fun _ _ _ _ _ => 0)
    case atStart => exact ⟨rfl, rfl, rfl, rfl, B0.bel⟩
    case round =>
      obtain ⟨rfl, rfl, rfl, rfl, hb⟩ := hrel
      go_wp2
      go_ret
      exact ⟨_, [], v, t, rfl, World.ownsRow_nil _ _ _ _, by simp, .inl ⟨rfl, rfl, rfl⟩, hb⟩
  | some pa =>
    obtain ⟨pb, poff, hpe, hpcell'⟩ : ∃ pb poff, (picks = [] ∨ (pa = ⟨pb, poff, none⟩ ∧ pb < w.heap.size)) ∧ (∀ j, j < picks.length → w.cell? ⟨pb, poff + j, none⟩ = some (.int .i64 (picks.getD j 0))) := by
      rcases HP.out with h | ⟨b, off, h, h1, h2⟩
      · exact ⟨0, 0, .inl h, fun j hj => by rw [h] at hj; simp at hj⟩
      · cases h; exact ⟨b, off, .inr ⟨rfl, h1⟩, h2⟩
    rcases hpe with hp0 | ⟨rfl, hpb⟩
    · clear hpcell'
      subst hp0
      have hm0 : min (20 : Int) 0 = 0 := by decide
      go_enter Try.func10, Try.ntmps10
      go_wp2_with fail
      go_loopw [1, 2, 9, 24] (fun a b u i wr => a = .int .i64 v ∧ b = .int .i64 t ∧ u = .slice none 0 0 ∧ i = .int .i64 0 ∧ Below w.heap.size w wr) (fun _ _ _ _ _ => 0)
      case atStart => exact ⟨rfl, rfl, rfl, rfl, B0.bel⟩
      case round =>
        obtain ⟨rfl, rfl, rfl, rfl, hb⟩ := hrel
        go_wp2
        go_ret
        exact ⟨_, [], v, t, rfl, World.ownsRow_nil _ _ _ _, by simp, .inl ⟨rfl, rfl, rfl⟩, hb⟩
    have hpcell := hpcell'
    clear hpcell'
    rcases Nat.lt_or_ge picks.length 20 with h20 | h20
    · have h20' : (picks.length : Int) < 20 := by omega
      go_enter Try.func10, Try.ntmps10
      go_wp2_with fail
      go_loopw [1, 2, 9, 24] (fun a b u i wr => ∃ (k : Nat) (l : List Hp) (a' b' : Int), k ≤ picks.length ∧ l.length ≤ k ∧ a = .int .i64 a' ∧ b = .int .i64 b' ∧ i = .int .i64 k ∧ wr.ownsRow (w.heap.size + 1) 47 2 u l.length (encs l) ∧ WalkIs g v t l a' b' ∧ GBx w wr w.heap.size g la ea lc ec) (fun _ _ _ i _ => picks.length - (intOf i).toNat)
      case atStart => exact ⟨0, [], v, t, by omega, by simp, rfl, rfl, rfl, World.ownsRow_nil _ _ _ _, .inl ⟨rfl, rfl, rfl⟩, B0⟩
      case round =>
        clear B0
        obtain ⟨k, l, a, b, hk, hlk, rfl, rfl, rfl, hown, hWI, hB⟩ := hrel
        by_cases hlt : k < picks.length
        · have g0 := hB.c0
          have g1 := hB.c1
          have g2 := hB.c2
          have hbx := hB.bel
          have hc0 : wr.cell? ⟨pb, poff + k, none⟩ = some (.int .i64 (picks.getD k 0)) := by rw [hbx.cell (p := ⟨pb, poff + k, none⟩) hpb]; exact hpcell k (by omega)
          have hOut := jOut_any g la ea lc ec a b wr (HG.out.below hbx)
          have hGoAll := hideg (fun W (hw : Below w.heap.size w W) (x : Hp) => jGo_any g la ea lc ec a b (some ⟨W.heap.size, 0, none⟩) 1 [x] (W.alloc (.cells #[.int .i64 x.1, .int .i64 x.2] 47)) ((HG.out.below hw).below (gal _ _)) (one_hop _ _ _ _) (by simp))
          generalize picks.getD k 0 = pk at *
          have HB := hideg hB
          have HOwn := hideg hown
          have HWI := hideg hWI
          have hki : (k : Int) < (picks.length : Int) := by omega
          clear hB hown hWI
          by_cases e1 : placeE g a b = 0
          · have hln : (outAns g a b).length ≤ 3000 := by unfold outAns; rw [if_pos e1]; exact outsF_len e1
            rw [e1] at hOut
            generalize outAns g a b = out at *
            clear e1
            go_wp2_with fail
            refine hOut.mono ?_
            rintro r w2 ⟨u, rfl, ho2, hb2⟩
            obtain ⟨ao, ca, rfl, hA⟩ := ivAt_of_owns ho2
            have B2 := HB.out.below hb2
            have HB2 := hideg B2
            have HOwn2 := hideg (ownsRow_below HOwn.out hb2)
            clear hOut g0 g1 g2 hc0 ho2 HB HOwn hbx hb2
            have g0 := B2.c0
            have g1 := B2.c1
            have g2 := B2.c2
            have hbx := B2.bel
            clear B2
            by_cases ho : out.length = 0
            · have ho' : out = [] := List.eq_nil_of_length_eq_zero ho
              subst ho'
              go_wp2
              go_ret
              exact ⟨_, l, a, b, rfl, owns_base2 HOwn2.out (by omega), by omega, HWI.out, hbx⟩
            · have ho0 : ((out.length : Int) == 0) = false := by simpa using ho
              have hR := restN_any pk out.length (by omega) (by omega) w2
              go_wp2_with fail
              refine hR.mono ?_
              rintro r w2' ⟨⟨y, hy0, hy1, rfl⟩, rfl⟩
              obtain ⟨Y, rfl⟩ : ∃ Y : Nat, y = (Y : Int) := ⟨y.toNat, by omega⟩
              have hY : Y < out.length := by omega
              rcases hA with h0 | ⟨ob, oo, rfl, hob, hoc⟩
              · subst h0; simp at hY
              obtain ⟨y0, y1⟩ := IvAt.get hY hoc
              have B3 := HB2.out.below (gal w2' (.cells #[.int .i64 out[Y].1, .int .i64 out[Y].2] 47))
              have p0 := B3.c0
              have p1 := B3.c1
              have p2 := B3.c2
              have HB3 := hideg B3
              have hGo := hGoAll.out _ B3.bel out[Y]
              have HMore : Hid (∀ n u c, goAns g a b [out[Y]] = (n, u, c, 0) → WalkIs g v t (l ++ [out[Y]]) n u) := fun n u c hg => HWI.out.more hg
              have HOwn3 := hideg (ownsRow_below HOwn2.out (gal w2' (.cells #[.int .i64 out[Y].1, .int .i64 out[Y].2] 47)))
              rw [World.size_alloc] at hGo
              unfold goW at hGo
              simp only [List.length_cons, List.length_nil, Nat.zero_add] at hGo
              generalize goAns g a b [out[Y]] = ga at *
              obtain ⟨ga1, ga2, ga3, ga4⟩ := ga
              simp only at hGo
              clear hoc hR B3 HB2 HOwn2 hGoAll
              have q0 : (w2'.alloc (.cells #[.int .i64 out[Y].1, .int .i64 out[Y].2] 47)).cell? ⟨w2'.heap.size, 0, none⟩ = some (.int .i64 out[Y].1) := new_cell rfl rfl
              have q1 : (w2'.alloc (.cells #[.int .i64 out[Y].1, .int .i64 out[Y].2] 47)).cell? ⟨w2'.heap.size, 1, none⟩ = some (.int .i64 out[Y].2) := new_cell rfl rfl
              have HQ : Hid (∀ W, Below ((w2'.alloc (.cells #[.int .i64 out[Y].1, .int .i64 out[Y].2] 47)).alloc (.cells #[.int .i64 out[Y].1, .int .i64 out[Y].2] 47)).heap.size ((w2'.alloc (.cells #[.int .i64 out[Y].1, .int .i64 out[Y].2] 47)).alloc (.cells #[.int .i64 out[Y].1, .int .i64 out[Y].2] 47)) W → W.cell? ⟨w2'.heap.size, 0, none⟩ = some (.int .i64 out[Y].1) ∧ W.cell? ⟨w2'.heap.size, 1, none⟩ = some (.int .i64 out[Y].2) ∧ w2'.heap.size < W.heap.size ∧ GBx w W w.heap.size g la ea lc ec ∧ W.ownsRow (w.heap.size + 1) 47 2 u9 l.length (encs l)) := by
                intro W hw
                have hs := hw.size
                simp only [World.size_alloc] at hs
                have hw2 := ptg (gal (w2'.alloc (.cells #[.int .i64 out[Y].1, .int .i64 out[Y].2] 47)) _) hw
                exact ⟨(hw2.cell (p := ⟨w2'.heap.size, 0, none⟩) (by simp)).trans q0, (hw2.cell (p := ⟨w2'.heap.size, 1, none⟩) (by simp)).trans q1, by omega, HB3.out.below hw2, ownsRow_below HOwn3.out hw2⟩
              go_wp2_with fail
              refine hGo.mono ?_
              rintro r w4 ⟨rfl, hb4⟩
              obtain ⟨z0, z1, z2, B4, O4⟩ := HQ.out w4 hb4
              have hbx4 := B4.bel
              have HB4 := hideg B4
              clear hGo hb4 HQ HB3 HOwn3 p0 p1 p2 q0 q1 g0 g1 g2 y0 y1 B4 hbx
              by_cases hg4 : ga4 = 0
              · subst hg4
                have HW' := hideg (HMore.out ga1 ga2 ga3 rfl)
                clear HMore HWI
                have hs4 := hbx4.size
                have hlt4 := HB4.out.lt
                have HBg : Hid (∀ (o : Obj) (w5 : World), (w4.alloc o).grownBy w5 u9.ownBlock → Below w.heap.size w w5) := fun o w5 hgr => (hbx4.alloc hbx4.size o).grown hgr (by simp; omega) (fun k hk => by have := (O4.lt k hk).1; omega)
                have HBB : Hid (∀ (o : Obj) (w5 : World), (w4.alloc o).grownBy w5 u9.ownBlock → GBx w w5 w.heap.size g la ea lc ec) := fun o w5 hgr => by
                  have hlt := HB4.out.lt
                  have hne : some w.heap.size ≠ u9.ownBlock := fun e => by have := (O4.lt _ e.symm).1; omega
                  have B5 := HB4.out.below (gal w4 o)
                  exact ⟨(hgr.cell_far ⟨w.heap.size, 0, none⟩ B5.lt hne).trans B5.c0, (hgr.cell_far ⟨w.heap.size, 1, none⟩ B5.lt hne).trans B5.c1, (hgr.cell_far ⟨w.heap.size, 2, none⟩ B5.lt hne).trans B5.c2, HBg.out o w5 hgr, Nat.lt_of_lt_of_le B5.lt hgr.size⟩
                go_wp2_with (at_builtin; refine stopHere ?_)
                refine hideg ?_
                refine wpList_append_own _ rfl _ _ 31 rfl (w.heap.size + 1) 47 i0 _ 2 16 Try.underlying31 hi hz0 hz1 hz2 rfl (by decide) _ _ _ rfl (World.ownsRow.alloc (w := w4) O4 _) ⟨w4.heap.size, 0, none⟩ 1 1 [.int .i64 out[Y].1, .int .i64 out[Y].2] rfl rfl (cells_two_new _ _ _ _ _ rfl) (by intro u hu; simp at hu; rcases hu with rfl | rfl <;> rfl) (by unfold maxLen; omega) (by omega) (by simp; omega) ?_
                intro v' w5 hown5 hgrow _
                have hb' := HBB.out _ _ hgrow
                have R : w5.ownsRow (w.heap.size + 1) 47 2 v' (l ++ [out[Y]]).length (encs (l ++ [out[Y]])) := by
                  rw [encs_appj, List.length_append]; exact hown5
                clear hgrow O4 hown5
                go_wp2
                go_roundw
                case rel => exact ⟨k + 1, l ++ [out[Y]], ga1, ga2, by omega, by rw [List.length_append]; simp; omega, rfl, rfl, by go_num, R, HW'.out, hb'⟩
                case measure => simp [intOf]; omega
              · have hg5 : (ga4 != 0) = true := by simpa using hg4
                clear hg4
                go_wp2
                go_ret
                exact ⟨_, l, a, b, rfl, owns_base2 O4 (by omega), by omega, HWI.out, hbx4⟩
          · have d1 : (placeE g a b != 0) = true := by simpa using e1
            generalize placeE g a b = n at *
            clear e1
            go_wp2_with fail
            refine hOut.mono ?_
            rintro r w2 ⟨u, rfl, ho2, hb2⟩
            have hbF := (HB.out.below hb2).bel
            have HOwn2 := hideg (ownsRow_below HOwn.out hb2)
            clear hOut g0 g1 g2 hc0 ho2 HB HOwn hbx hb2
            go_wp2
            go_ret
            exact ⟨_, l, a, b, rfl, owns_base2 HOwn2.out (by omega), by omega, HWI.out, hbF⟩
        · have hkl : k = picks.length := by omega
          subst hkl
          have hbF := hB.bel
          go_wp2
          go_ret
          exact ⟨_, l, a, b, rfl, owns_base2 hown (by omega), by omega, hWI, hbF⟩
    · have h20' : (20 : Int) ≤ (picks.length : Int) := by omega
      have hpc20 : (20 : Int) ≤ (pc : Int) := by omega
      have hpc20' : (20 : Nat) ≤ pc := by omega
      go_enter Try.func10, Try.ntmps10
      go_wp2_with fail
      go_loopw [1, 2, 9, 24] (fun a b u i wr => ∃ (k : Nat) (l : List Hp) (a' b' : Int), k ≤ 20 ∧ l.length ≤ k ∧ a = .int .i64 a' ∧ b = .int .i64 b' ∧ i = .int .i64 k ∧ wr.ownsRow (w.heap.size + 1) 47 2 u l.length (encs l) ∧ WalkIs g v t l a' b' ∧ GBx w wr w.heap.size g la ea lc ec) (fun _ _ _ i _ => 20 - (intOf i).toNat)
      case atStart => exact ⟨0, [], v, t, by omega, by simp, rfl, rfl, rfl, World.ownsRow_nil _ _ _ _, .inl ⟨rfl, rfl, rfl⟩, B0⟩
      case round =>
        clear B0
        obtain ⟨k, l, a, b, hk, hlk, rfl, rfl, rfl, hown, hWI, hB⟩ := hrel
        by_cases hlt : k < 20
        · have g0 := hB.c0
          have g1 := hB.c1
          have g2 := hB.c2
          have hbx := hB.bel
          have hc0 : wr.cell? ⟨pb, poff + k, none⟩ = some (.int .i64 (picks.getD k 0)) := by rw [hbx.cell (p := ⟨pb, poff + k, none⟩) hpb]; exact hpcell k (by omega)
          have hOut := jOut_any g la ea lc ec a b wr (HG.out.below hbx)
          have hGoAll := hideg (fun W (hw : Below w.heap.size w W) (x : Hp) => jGo_any g la ea lc ec a b (some ⟨W.heap.size, 0, none⟩) 1 [x] (W.alloc (.cells #[.int .i64 x.1, .int .i64 x.2] 47)) ((HG.out.below hw).below (gal _ _)) (one_hop _ _ _ _) (by simp))
          generalize picks.getD k 0 = pk at *
          have HB := hideg hB
          have HOwn := hideg hown
          have HWI := hideg hWI
          have hki : (k : Int) < (20 : Int) := by omega
          clear hB hown hWI
          by_cases e1 : placeE g a b = 0
          · have hln : (outAns g a b).length ≤ 3000 := by unfold outAns; rw [if_pos e1]; exact outsF_len e1
            rw [e1] at hOut
            generalize outAns g a b = out at *
            clear e1
            go_wp2_with fail
            refine hOut.mono ?_
            rintro r w2 ⟨u, rfl, ho2, hb2⟩
            obtain ⟨ao, ca, rfl, hA⟩ := ivAt_of_owns ho2
            have B2 := HB.out.below hb2
            have HB2 := hideg B2
            have HOwn2 := hideg (ownsRow_below HOwn.out hb2)
            clear hOut g0 g1 g2 hc0 ho2 HB HOwn hbx hb2
            have g0 := B2.c0
            have g1 := B2.c1
            have g2 := B2.c2
            have hbx := B2.bel
            clear B2
            by_cases ho : out.length = 0
            · have ho' : out = [] := List.eq_nil_of_length_eq_zero ho
              subst ho'
              go_wp2
              go_ret
              exact ⟨_, l, a, b, rfl, owns_base2 HOwn2.out (by omega), by omega, HWI.out, hbx⟩
            · have ho0 : ((out.length : Int) == 0) = false := by simpa using ho
              have hR := restN_any pk out.length (by omega) (by omega) w2
              go_wp2_with fail
              refine hR.mono ?_
              rintro r w2' ⟨⟨y, hy0, hy1, rfl⟩, rfl⟩
              obtain ⟨Y, rfl⟩ : ∃ Y : Nat, y = (Y : Int) := ⟨y.toNat, by omega⟩
              have hY : Y < out.length := by omega
              rcases hA with h0 | ⟨ob, oo, rfl, hob, hoc⟩
              · subst h0; simp at hY
              obtain ⟨y0, y1⟩ := IvAt.get hY hoc
              have B3 := HB2.out.below (gal w2' (.cells #[.int .i64 out[Y].1, .int .i64 out[Y].2] 47))
              have p0 := B3.c0
              have p1 := B3.c1
              have p2 := B3.c2
              have HB3 := hideg B3
              have hGo := hGoAll.out _ B3.bel out[Y]
              have HMore : Hid (∀ n u c, goAns g a b [out[Y]] = (n, u, c, 0) → WalkIs g v t (l ++ [out[Y]]) n u) := fun n u c hg => HWI.out.more hg
              have HOwn3 := hideg (ownsRow_below HOwn2.out (gal w2' (.cells #[.int .i64 out[Y].1, .int .i64 out[Y].2] 47)))
              rw [World.size_alloc] at hGo
              unfold goW at hGo
              simp only [List.length_cons, List.length_nil, Nat.zero_add] at hGo
              generalize goAns g a b [out[Y]] = ga at *
              obtain ⟨ga1, ga2, ga3, ga4⟩ := ga
              simp only at hGo
              clear hoc hR B3 HB2 HOwn2 hGoAll
              have q0 : (w2'.alloc (.cells #[.int .i64 out[Y].1, .int .i64 out[Y].2] 47)).cell? ⟨w2'.heap.size, 0, none⟩ = some (.int .i64 out[Y].1) := new_cell rfl rfl
              have q1 : (w2'.alloc (.cells #[.int .i64 out[Y].1, .int .i64 out[Y].2] 47)).cell? ⟨w2'.heap.size, 1, none⟩ = some (.int .i64 out[Y].2) := new_cell rfl rfl
              have HQ : Hid (∀ W, Below ((w2'.alloc (.cells #[.int .i64 out[Y].1, .int .i64 out[Y].2] 47)).alloc (.cells #[.int .i64 out[Y].1, .int .i64 out[Y].2] 47)).heap.size ((w2'.alloc (.cells #[.int .i64 out[Y].1, .int .i64 out[Y].2] 47)).alloc (.cells #[.int .i64 out[Y].1, .int .i64 out[Y].2] 47)) W → W.cell? ⟨w2'.heap.size, 0, none⟩ = some (.int .i64 out[Y].1) ∧ W.cell? ⟨w2'.heap.size, 1, none⟩ = some (.int .i64 out[Y].2) ∧ w2'.heap.size < W.heap.size ∧ GBx w W w.heap.size g la ea lc ec ∧ W.ownsRow (w.heap.size + 1) 47 2 u9 l.length (encs l)) := by
                intro W hw
                have hs := hw.size
                simp only [World.size_alloc] at hs
                have hw2 := ptg (gal (w2'.alloc (.cells #[.int .i64 out[Y].1, .int .i64 out[Y].2] 47)) _) hw
                exact ⟨(hw2.cell (p := ⟨w2'.heap.size, 0, none⟩) (by simp)).trans q0, (hw2.cell (p := ⟨w2'.heap.size, 1, none⟩) (by simp)).trans q1, by omega, HB3.out.below hw2, ownsRow_below HOwn3.out hw2⟩
              go_wp2_with fail
              refine hGo.mono ?_
              rintro r w4 ⟨rfl, hb4⟩
              obtain ⟨z0, z1, z2, B4, O4⟩ := HQ.out w4 hb4
              have hbx4 := B4.bel
              have HB4 := hideg B4
              clear hGo hb4 HQ HB3 HOwn3 p0 p1 p2 q0 q1 g0 g1 g2 y0 y1 B4 hbx
              by_cases hg4 : ga4 = 0
              · subst hg4
                have HW' := hideg (HMore.out ga1 ga2 ga3 rfl)
                clear HMore HWI
                have hs4 := hbx4.size
                have hlt4 := HB4.out.lt
                have HBg : Hid (∀ (o : Obj) (w5 : World), (w4.alloc o).grownBy w5 u9.ownBlock → Below w.heap.size w w5) := fun o w5 hgr => (hbx4.alloc hbx4.size o).grown hgr (by simp; omega) (fun k hk => by have := (O4.lt k hk).1; omega)
                have HBB : Hid (∀ (o : Obj) (w5 : World), (w4.alloc o).grownBy w5 u9.ownBlock → GBx w w5 w.heap.size g la ea lc ec) := fun o w5 hgr => by
                  have hlt := HB4.out.lt
                  have hne : some w.heap.size ≠ u9.ownBlock := fun e => by have := (O4.lt _ e.symm).1; omega
                  have B5 := HB4.out.below (gal w4 o)
                  exact ⟨(hgr.cell_far ⟨w.heap.size, 0, none⟩ B5.lt hne).trans B5.c0, (hgr.cell_far ⟨w.heap.size, 1, none⟩ B5.lt hne).trans B5.c1, (hgr.cell_far ⟨w.heap.size, 2, none⟩ B5.lt hne).trans B5.c2, HBg.out o w5 hgr, Nat.lt_of_lt_of_le B5.lt hgr.size⟩
                go_wp2_with (at_builtin; refine stopHere ?_)
                refine hideg ?_
                refine wpList_append_own _ rfl _ _ 31 rfl (w.heap.size + 1) 47 i0 _ 2 16 Try.underlying31 hi hz0 hz1 hz2 rfl (by decide) _ _ _ rfl (World.ownsRow.alloc (w := w4) O4 _) ⟨w4.heap.size, 0, none⟩ 1 1 [.int .i64 out[Y].1, .int .i64 out[Y].2] rfl rfl (cells_two_new _ _ _ _ _ rfl) (by intro u hu; simp at hu; rcases hu with rfl | rfl <;> rfl) (by unfold maxLen; omega) (by omega) (by simp; omega) ?_
                intro v' w5 hown5 hgrow _
                have hb' := HBB.out _ _ hgrow
                have R : w5.ownsRow (w.heap.size + 1) 47 2 v' (l ++ [out[Y]]).length (encs (l ++ [out[Y]])) := by
                  rw [encs_appj, List.length_append]; exact hown5
                clear hgrow O4 hown5
                go_wp2
                go_roundw
                case rel => exact ⟨k + 1, l ++ [out[Y]], ga1, ga2, by omega, by rw [List.length_append]; simp; omega, rfl, rfl, by go_num, R, HW'.out, hb'⟩
                case measure => simp [intOf]; omega
              · have hg5 : (ga4 != 0) = true := by simpa using hg4
                clear hg4
                go_wp2
                go_ret
                exact ⟨_, l, a, b, rfl, owns_base2 O4 (by omega), by omega, HWI.out, hbx4⟩
          · have d1 : (placeE g a b != 0) = true := by simpa using e1
            generalize placeE g a b = n at *
            clear e1
            go_wp2_with fail
            refine hOut.mono ?_
            rintro r w2 ⟨u, rfl, ho2, hb2⟩
            have hbF := (HB.out.below hb2).bel
            have HOwn2 := hideg (ownsRow_below HOwn.out hb2)
            clear hOut g0 g1 g2 hc0 ho2 HB HOwn hbx hb2
            go_wp2
            go_ret
            exact ⟨_, l, a, b, rfl, owns_base2 HOwn2.out (by omega), by omega, HWI.out, hbF⟩
        · have hkl : k = 20 := by omega
          subst hkl
          have hbF := hB.bel
          go_wp2
          go_ret
          exact ⟨_, l, a, b, rfl, owns_base2 hown (by omega), by omega, hWI, hbF⟩

end Go.Proofs.Ytanbbkoleekmjai
