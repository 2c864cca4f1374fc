/-
  PROVED: whatever is handed in, the law CheapBounds returns true (without the answer of the document: what Costs and Hops of the cheapest tell keeps to its bounds, and to what the earliest way has), and its arguments read afterwards as they read before. Conditions: none.
-/
import Derived.ProofKit
import Derived.OpenShut
import Derived.ChangeOld
import Derived.Deep.SlicePairs
import Derived.Test.YthgelfnflafoiafPk1
import Derived.Test.YthgelfnflafoiafPk2

namespace Go.Proofs.Ythgelfnflafoiaf
open Go.RowKit

theorem restN_any (n m : Int) (hm : 0 < m) (hM : m < 4611686018427387904) (w : World) :
    Calls Try.prog 12 #[.int .i64 n, .int .i64 m] w fun e w' => (∃ k : Int, 0 ≤ k ∧ k < m ∧ e = .returned (.int .i64 k)) ∧ w' = w := by
  have h1 := Int.tmod_lt_of_pos n hm
  have h2 := Int.lt_tmod_of_pos n hm
  have hz : ¬ m = 0 := by omega
  have hz' : (m == 0) = false := by simpa using hz
  have hw0 : IntKind.i64.wrap (n.tmod m) = n.tmod m := wrap_nj _ (by omega) (by omega)
  by_cases h0 : n.tmod m < 0
  · have d : decide (n.tmod m < 0) = true := by simpa using h0
    have hw : IntKind.i64.wrap (n.tmod m + m) = n.tmod m + m := wrap_nj _ (by omega) (by omega)
    have HQ : Hid (0 ≤ n.tmod m + m ∧ n.tmod m + m < m) := ⟨by omega, by omega⟩
    go_enter Try.func12, Try.ntmps12
    go_wp2
    go_ret
    exact ⟨⟨_, HQ.out.1, HQ.out.2, rfl⟩, rfl⟩
  · have d : decide (n.tmod m < 0) = false := by simpa using h0
    have HQ : Hid (0 ≤ n.tmod m ∧ n.tmod m < m) := ⟨by omega, by omega⟩
    go_enter Try.func12, Try.ntmps12
    go_wp2
    go_ret
    exact ⟨⟨_, HQ.out.1, HQ.out.2, rfl⟩, rfl⟩

theorem outsF_len {g : Gr} {v t : Int} (hp : placeE g v t = 0) : (outsF g v t).length ≤ 3000 := by
  obtain ⟨hg0, _, ht0, _⟩ := placeE_zero hp
  have hR := gChk_right hg0
  have h1 := hR.hor
  have h2 := hR.eds
  unfold outsF
  split
  · exact Nat.le_trans (outsTo_len g v t _) (Nat.le_trans (Nat.mul_le_mul (show (g.hor - t).toNat ≤ 100 by omega) h2) (by omega))
  · simp

/-- what walk tells: a journey, and where one is behind it -/
def WalkIs (g : Gr) (v t : Int) (l : List Hp) (a b : Int) : Prop := (l = [] ∧ a = v ∧ b = t) ∨ (gChk g = 0 ∧ There g (v, t, 0) ∧ ∃ c, goF g (some (v, t, 0)) l = some (a, b, c))
theorem WalkIs.more {g : Gr} {v t a b n u c : Int} {l : List Hp} {h : Hp} (hw : WalkIs g v t l a b) (hg : goAns g a b [h] = (n, u, c, 0)) : WalkIs g v t (l ++ [h]) n u := by
  obtain ⟨h1, h2, _, h3⟩ := goAns_right hg
  right
  rcases hw with ⟨rfl, rfl, rfl⟩ | ⟨k1, k2, c', k3⟩
  · exact ⟨h1, h2, c, h3⟩
  · refine ⟨k1, k2, c + c', ?_⟩
    rw [goF_append, k3, goF_cost, h3]
    rfl

theorem results_tmp3j {fn : Func} {t u v : Tmp} (h : fn.results = #[.tmp t, .tmp u, .tmp v]) (tmps : Array Value) (P : Program) (w : World) :
    (results fn tmps).run P w = .ok (.tuple #[tmps.getD t undef, tmps.getD u undef, tmps.getD v undef]) w := by
  simp [results, h]

set_option maxRecDepth 100000 in
set_option maxHeartbeats 8000000 in
theorem walk_any (g : Gr) (la ea : Option Addr) (lc ec : Nat) (v t : Int) (po : Option Addr) (pc : Nat) (picks : List Int) (w : World) (hG : GAt w la ea g) (hP : ZsAt w po picks) (hpc : picks.length ≤ pc) (hpm : pc ≤ 9223372036854775807) :
    Calls Try.prog 10 #[.agg #[.int .i64 g.hor, .slice la g.lives.length lc, .slice ea g.edges.length ec], .int .i64 v, .int .i64 t, .slice po picks.length pc] w fun r w' => ∃ u l a b, r = .returned (.tuple #[u, .int .i64 a, .int .i64 b]) ∧ w'.ownsRow w.heap.size 37 2 u l.length (encs l) ∧ l.length ≤ 20 ∧ WalkIs g v t l a b ∧ Below w.heap.size w w' := by
  obtain ⟨i0, hi, hz0, hz1, hz2⟩ := info_parts Try.infoHopJ
  have B0 := gbx_start w g la ea lc ec 25
  have HG := hideg hG
  have HP := hideg hP
  have hmin : min (20 : Int) (picks.length : Int) = ((min 20 picks.length : Nat) : Int) := by omega
  have hmt : ((min 20 picks.length : Nat) : Int).toNat = min 20 picks.length := by omega
  have hmle : ((min 20 picks.length : Nat) : Int) ≤ (pc : Int) := by omega
  clear hG hP
  cases po with
  | none =>
    have hp0 : picks = [] := by
      rcases HP.out with h | ⟨b, off, h, _⟩
      · exact h
      · cases h
    subst hp0
    have hm0 : min (20 : Int) 0 = 0 := by decide
    go_enter Try.func10, Try.ntmps10
    go_wp2_with fail
    go_loopw [1, 2, 11, 26] (fun a b u i wr => a = .int .i64 v ∧ b = .int .i64 t ∧ u = .slice none 0 0 ∧ i = .int .i64 0 ∧ Below w.heap.size w wr) (fun _ _ _ _ _ => 0)
    case atStart => exact ⟨rfl, rfl, rfl, rfl, B0.bel⟩
    case round =>
      obtain ⟨rfl, rfl, rfl, rfl, hb⟩ := hrel
      go_wp2
      (try simp only [Exit.inBlock, Exit.then]); refine bodyPost_ret (results_tmp3j rfl _ _ _) rfl ?_
      exact ⟨_, [], v, t, rfl, World.ownsRow_nil _ _ _ _, by simp, .inl ⟨rfl, rfl, rfl⟩, hb⟩
  | some pa =>
    obtain ⟨pb, poff, hpe, hpcell'⟩ : ∃ pb poff, (picks = [] ∨ (pa = ⟨pb, poff, none⟩ ∧ pb < w.heap.size)) ∧ (∀ j, j < picks.length → w.cell? ⟨pb, poff + j, none⟩ = some (.int .i64 (picks.getD j 0))) := by
      rcases HP.out with h | ⟨b, off, h, h1, h2⟩
      · exact ⟨0, 0, .inl h, fun j hj => by rw [h] at hj; simp at hj⟩
      · cases h; exact ⟨b, off, .inr ⟨rfl, h1⟩, h2⟩
    rcases hpe with hp0 | ⟨rfl, hpb⟩
    · clear hpcell'
      subst hp0
      have hm0 : min (20 : Int) 0 = 0 := by decide
      go_enter Try.func10, Try.ntmps10
      go_wp2_with fail
      go_loopw [1, 2, 11, 26] (fun a b u i wr => a = .int .i64 v ∧ b = .int .i64 t ∧ u = .slice none 0 0 ∧ i = .int .i64 0 ∧ Below w.heap.size w wr) (fun _ _ _ _ _ => 0)
      case atStart => exact ⟨rfl, rfl, rfl, rfl, B0.bel⟩
      case round =>
        obtain ⟨rfl, rfl, rfl, rfl, hb⟩ := hrel
        go_wp2
        (try simp only [Exit.inBlock, Exit.then]); refine bodyPost_ret (results_tmp3j rfl _ _ _) rfl ?_
        exact ⟨_, [], v, t, rfl, World.ownsRow_nil _ _ _ _, by simp, .inl ⟨rfl, rfl, rfl⟩, hb⟩
    have hpcell := hpcell'
    clear hpcell'
    rcases Nat.lt_or_ge picks.length 20 with h20 | h20
    · have h20' : (picks.length : Int) < 20 := by omega
      go_enter Try.func10, Try.ntmps10
      go_wp2_with fail
      go_loopw [1, 2, 11, 26] (fun a b u i wr => ∃ (k : Nat) (l : List Hp) (a' b' : Int), k ≤ picks.length ∧ l.length ≤ k ∧ a = .int .i64 a' ∧ b = .int .i64 b' ∧ i = .int .i64 k ∧ wr.ownsRow (w.heap.size + 1) 37 2 u l.length (encs l) ∧ WalkIs g v t l a' b' ∧ GBx w wr w.heap.size g la ea lc ec) (fun _ _ _ i _ => picks.length - (intOf i).toNat)
      case atStart => exact ⟨0, [], v, t, by omega, by simp, rfl, rfl, rfl, World.ownsRow_nil _ _ _ _, .inl ⟨rfl, rfl, rfl⟩, B0⟩
      case round =>
        clear B0
        obtain ⟨k, l, a, b, hk, hlk, rfl, rfl, rfl, hown, hWI, hB⟩ := hrel
        by_cases hlt : k < picks.length
        · have g0 := hB.c0
          have g1 := hB.c1
          have g2 := hB.c2
          have hbx := hB.bel
          have hc0 : wr.cell? ⟨pb, poff + k, none⟩ = some (.int .i64 (picks.getD k 0)) := by rw [hbx.cell (p := ⟨pb, poff + k, none⟩) hpb]; exact hpcell k (by omega)
          have hOut := jOut_any g la ea lc ec a b wr (HG.out.below hbx)
          have hGoAll := hideg (fun W (hw : Below w.heap.size w W) (x : Hp) => jGo_any g la ea lc ec a b (some ⟨W.heap.size, 0, none⟩) 1 [x] (W.alloc (.cells #[.int .i64 x.1, .int .i64 x.2] 37)) ((HG.out.below hw).below (gal _ _)) (one_hop _ _ _ _) (by simp))
          generalize picks.getD k 0 = pk at *
          have HB := hideg hB
          have HOwn := hideg hown
          have HWI := hideg hWI
          have hki : (k : Int) < (picks.length : Int) := by omega
          clear hB hown hWI
          by_cases e1 : placeE g a b = 0
          · have hln : (outAns g a b).length ≤ 3000 := by unfold outAns; rw [if_pos e1]; exact outsF_len e1
            rw [e1] at hOut
            generalize outAns g a b = out at *
            clear e1
            go_wp2_with fail
            refine hOut.mono ?_
            rintro r w2 ⟨u, rfl, ho2, hb2⟩
            obtain ⟨ao, ca, rfl, hA⟩ := ivAt_of_owns ho2
            have B2 := HB.out.below hb2
            have HB2 := hideg B2
            have HOwn2 := hideg (ownsRow_below HOwn.out hb2)
            clear hOut g0 g1 g2 hc0 ho2 HB HOwn hbx hb2
            have g0 := B2.c0
            have g1 := B2.c1
            have g2 := B2.c2
            have hbx := B2.bel
            clear B2
            by_cases ho : out.length = 0
            · have ho' : out = [] := List.eq_nil_of_length_eq_zero ho
              subst ho'
              go_wp2
              (try simp only [Exit.inBlock, Exit.then]); refine bodyPost_ret (results_tmp3j rfl _ _ _) rfl ?_
              exact ⟨_, l, a, b, rfl, owns_base2 HOwn2.out (by omega), by omega, HWI.out, hbx⟩
            · have ho0 : ((out.length : Int) == 0) = false := by simpa using ho
              have hR := restN_any pk out.length (by omega) (by omega) w2
              go_wp2_with fail
              refine hR.mono ?_
              rintro r w2' ⟨⟨y, hy0, hy1, rfl⟩, rfl⟩
              obtain ⟨Y, rfl⟩ : ∃ Y : Nat, y = (Y : Int) := ⟨y.toNat, by omega⟩
              have hY : Y < out.length := by omega
              rcases hA with h0 | ⟨ob, oo, rfl, hob, hoc⟩
              · subst h0; simp at hY
              obtain ⟨y0, y1⟩ := IvAt.get hY hoc
              have B3 := HB2.out.below (gal w2' (.cells #[.int .i64 out[Y].1, .int .i64 out[Y].2] 37))
              have p0 := B3.c0
              have p1 := B3.c1
              have p2 := B3.c2
              have HB3 := hideg B3
              have hGo := hGoAll.out _ B3.bel out[Y]
              have HMore : Hid (∀ n u c, goAns g a b [out[Y]] = (n, u, c, 0) → WalkIs g v t (l ++ [out[Y]]) n u) := fun n u c hg => HWI.out.more hg
              have HOwn3 := hideg (ownsRow_below HOwn2.out (gal w2' (.cells #[.int .i64 out[Y].1, .int .i64 out[Y].2] 37)))
              rw [World.size_alloc] at hGo
              unfold goW at hGo
              simp only [List.length_cons, List.length_nil, Nat.zero_add] at hGo
              generalize goAns g a b [out[Y]] = ga at *
              obtain ⟨ga1, ga2, ga3, ga4⟩ := ga
              simp only at hGo
              clear hoc hR B3 HB2 HOwn2 hGoAll
              have q0 : (w2'.alloc (.cells #[.int .i64 out[Y].1, .int .i64 out[Y].2] 37)).cell? ⟨w2'.heap.size, 0, none⟩ = some (.int .i64 out[Y].1) := new_cell rfl rfl
              have q1 : (w2'.alloc (.cells #[.int .i64 out[Y].1, .int .i64 out[Y].2] 37)).cell? ⟨w2'.heap.size, 1, none⟩ = some (.int .i64 out[Y].2) := new_cell rfl rfl
              have HQ : Hid (∀ W, Below ((w2'.alloc (.cells #[.int .i64 out[Y].1, .int .i64 out[Y].2] 37)).alloc (.cells #[.int .i64 out[Y].1, .int .i64 out[Y].2] 37)).heap.size ((w2'.alloc (.cells #[.int .i64 out[Y].1, .int .i64 out[Y].2] 37)).alloc (.cells #[.int .i64 out[Y].1, .int .i64 out[Y].2] 37)) W → W.cell? ⟨w2'.heap.size, 0, none⟩ = some (.int .i64 out[Y].1) ∧ W.cell? ⟨w2'.heap.size, 1, none⟩ = some (.int .i64 out[Y].2) ∧ w2'.heap.size < W.heap.size ∧ GBx w W w.heap.size g la ea lc ec ∧ W.ownsRow (w.heap.size + 1) 37 2 u11 l.length (encs l)) := by
                intro W hw
                have hs := hw.size
                simp only [World.size_alloc] at hs
                have hw2 := ptg (gal (w2'.alloc (.cells #[.int .i64 out[Y].1, .int .i64 out[Y].2] 37)) _) hw
                exact ⟨(hw2.cell (p := ⟨w2'.heap.size, 0, none⟩) (by simp)).trans q0, (hw2.cell (p := ⟨w2'.heap.size, 1, none⟩) (by simp)).trans q1, by omega, HB3.out.below hw2, ownsRow_below HOwn3.out hw2⟩
              go_wp2_with fail
              refine hGo.mono ?_
              rintro r w4 ⟨rfl, hb4⟩
              obtain ⟨z0, z1, z2, B4, O4⟩ := HQ.out w4 hb4
              have hbx4 := B4.bel
              have HB4 := hideg B4
              clear hGo hb4 HQ HB3 HOwn3 p0 p1 p2 q0 q1 g0 g1 g2 y0 y1 B4 hbx
              by_cases hg4 : ga4 = 0
              · subst hg4
                have HW' := hideg (HMore.out ga1 ga2 ga3 rfl)
                clear HMore HWI
                have hs4 := hbx4.size
                have hlt4 := HB4.out.lt
                have HBg : Hid (∀ (o : Obj) (w5 : World), (w4.alloc o).grownBy w5 u11.ownBlock → Below w.heap.size w w5) := fun o w5 hgr => (hbx4.alloc hbx4.size o).grown hgr (by simp; omega) (fun k hk => by have := (O4.lt k hk).1; omega)
                have HBB : Hid (∀ (o : Obj) (w5 : World), (w4.alloc o).grownBy w5 u11.ownBlock → GBx w w5 w.heap.size g la ea lc ec) := fun o w5 hgr => by
                  have hlt := HB4.out.lt
                  have hne : some w.heap.size ≠ u11.ownBlock := fun e => by have := (O4.lt _ e.symm).1; omega
                  have B5 := HB4.out.below (gal w4 o)
                  exact ⟨(hgr.cell_far ⟨w.heap.size, 0, none⟩ B5.lt hne).trans B5.c0, (hgr.cell_far ⟨w.heap.size, 1, none⟩ B5.lt hne).trans B5.c1, (hgr.cell_far ⟨w.heap.size, 2, none⟩ B5.lt hne).trans B5.c2, HBg.out o w5 hgr, Nat.lt_of_lt_of_le B5.lt hgr.size⟩
                go_wp2_with (at_builtin; refine stopHere ?_)
                refine hideg ?_
                refine wpList_append_own _ rfl _ _ 28 rfl (w.heap.size + 1) 37 i0 _ 2 16 Try.underlying28 hi hz0 hz1 hz2 rfl (by decide) _ _ _ rfl (World.ownsRow.alloc (w := w4) O4 _) ⟨w4.heap.size, 0, none⟩ 1 1 [.int .i64 out[Y].1, .int .i64 out[Y].2] rfl rfl (cells_two_new _ _ _ _ _ rfl) (by intro u hu; simp at hu; rcases hu with rfl | rfl <;> rfl) (by unfold maxLen; omega) (by omega) (by simp; omega) ?_
                intro v' w5 hown5 hgrow _
                have hb' := HBB.out _ _ hgrow
                have R : w5.ownsRow (w.heap.size + 1) 37 2 v' (l ++ [out[Y]]).length (encs (l ++ [out[Y]])) := by
                  rw [encs_appj, List.length_append]; exact hown5
                clear hgrow O4 hown5
                go_wp2
                go_roundw
                case rel => exact ⟨k + 1, l ++ [out[Y]], ga1, ga2, by omega, by rw [List.length_append]; simp; omega, rfl, rfl, by go_num, R, HW'.out, hb'⟩
                case measure => simp [intOf]; omega
              · have hg5 : (ga4 != 0) = true := by simpa using hg4
                clear hg4
                go_wp2
                (try simp only [Exit.inBlock, Exit.then]); refine bodyPost_ret (results_tmp3j rfl _ _ _) rfl ?_
                exact ⟨_, l, a, b, rfl, owns_base2 O4 (by omega), by omega, HWI.out, hbx4⟩
          · have d1 : (placeE g a b != 0) = true := by simpa using e1
            generalize placeE g a b = n at *
            clear e1
            go_wp2_with fail
            refine hOut.mono ?_
            rintro r w2 ⟨u, rfl, ho2, hb2⟩
            have hbF := (HB.out.below hb2).bel
            have HOwn2 := hideg (ownsRow_below HOwn.out hb2)
            clear hOut g0 g1 g2 hc0 ho2 HB HOwn hbx hb2
            go_wp2
            (try simp only [Exit.inBlock, Exit.then]); refine bodyPost_ret (results_tmp3j rfl _ _ _) rfl ?_
            exact ⟨_, l, a, b, rfl, owns_base2 HOwn2.out (by omega), by omega, HWI.out, hbF⟩
        · have hkl : k = picks.length := by omega
          subst hkl
          have hbF := hB.bel
          go_wp2
          (try simp only [Exit.inBlock, Exit.then]); refine bodyPost_ret (results_tmp3j rfl _ _ _) rfl ?_
          exact ⟨_, l, a, b, rfl, owns_base2 hown (by omega), by omega, hWI, hbF⟩
    · have h20' : (20 : Int) ≤ (picks.length : Int) := by omega
      have hpc20 : (20 : Int) ≤ (pc : Int) := by omega
      have hpc20' : (20 : Nat) ≤ pc := by omega
      go_enter Try.func10, Try.ntmps10
      go_wp2_with fail
      go_loopw [1, 2, 11, 26] (fun a b u i wr => ∃ (k : Nat) (l : List Hp) (a' b' : Int), k ≤ 20 ∧ l.length ≤ k ∧ a = .int .i64 a' ∧ b = .int .i64 b' ∧ i = .int .i64 k ∧ wr.ownsRow (w.heap.size + 1) 37 2 u l.length (encs l) ∧ WalkIs g v t l a' b' ∧ GBx w wr w.heap.size g la ea lc ec) (fun _ _ _ i _ => 20 - (intOf i).toNat)
      case atStart => exact ⟨0, [], v, t, by omega, by simp, rfl, rfl, rfl, World.ownsRow_nil _ _ _ _, .inl ⟨rfl, rfl, rfl⟩, B0⟩
      case round =>
        clear B0
        obtain ⟨k, l, a, b, hk, hlk, rfl, rfl, rfl, hown, hWI, hB⟩ := hrel
        by_cases hlt : k < 20
        · have g0 := hB.c0
          have g1 := hB.c1
          have g2 := hB.c2
          have hbx := hB.bel
          have hc0 : wr.cell? ⟨pb, poff + k, none⟩ = some (.int .i64 (picks.getD k 0)) := by rw [hbx.cell (p := ⟨pb, poff + k, none⟩) hpb]; exact hpcell k (by omega)
          have hOut := jOut_any g la ea lc ec a b wr (HG.out.below hbx)
          have hGoAll := hideg (fun W (hw : Below w.heap.size w W) (x : Hp) => jGo_any g la ea lc ec a b (some ⟨W.heap.size, 0, none⟩) 1 [x] (W.alloc (.cells #[.int .i64 x.1, .int .i64 x.2] 37)) ((HG.out.below hw).below (gal _ _)) (one_hop _ _ _ _) (by simp))
          generalize picks.getD k 0 = pk at *
          have HB := hideg hB
          have HOwn := hideg hown
          have HWI := hideg hWI
          have hki : (k : Int) < (20 : Int) := by omega
          clear hB hown hWI
          by_cases e1 : placeE g a b = 0
          · have hln : (outAns g a b).length ≤ 3000 := by unfold outAns; rw [if_pos e1]; exact outsF_len e1
            rw [e1] at hOut
            generalize outAns g a b = out at *
            clear e1
            go_wp2_with fail
            refine hOut.mono ?_
            rintro r w2 ⟨u, rfl, ho2, hb2⟩
            obtain ⟨ao, ca, rfl, hA⟩ := ivAt_of_owns ho2
            have B2 := HB.out.below hb2
            have HB2 := hideg B2
            have HOwn2 := hideg (ownsRow_below HOwn.out hb2)
            clear hOut g0 g1 g2 hc0 ho2 HB HOwn hbx hb2
            have g0 := B2.c0
            have g1 := B2.c1
            have g2 := B2.c2
            have hbx := B2.bel
            clear B2
            by_cases ho : out.length = 0
            · have ho' : out = [] := List.eq_nil_of_length_eq_zero ho
              subst ho'
              go_wp2
              (try simp only [Exit.inBlock, Exit.then]); refine bodyPost_ret (results_tmp3j rfl _ _ _) rfl ?_
              exact ⟨_, l, a, b, rfl, owns_base2 HOwn2.out (by omega), by omega, HWI.out, hbx⟩
            · have ho0 : ((out.length : Int) == 0) = false := by simpa using ho
              have hR := restN_any pk out.length (by omega) (by omega) w2
              go_wp2_with fail
              refine hR.mono ?_
              rintro r w2' ⟨⟨y, hy0, hy1, rfl⟩, rfl⟩
              obtain ⟨Y, rfl⟩ : ∃ Y : Nat, y = (Y : Int) := ⟨y.toNat, by omega⟩
              have hY : Y < out.length := by omega
              rcases hA with h0 | ⟨ob, oo, rfl, hob, hoc⟩
              · subst h0; simp at hY
              obtain ⟨y0, y1⟩ := IvAt.get hY hoc
              have B3 := HB2.out.below (gal w2' (.cells #[.int .i64 out[Y].1, .int .i64 out[Y].2] 37))
              have p0 := B3.c0
              have p1 := B3.c1
              have p2 := B3.c2
              have HB3 := hideg B3
              have hGo := hGoAll.out _ B3.bel out[Y]
              have HMore : Hid (∀ n u c, goAns g a b [out[Y]] = (n, u, c, 0) → WalkIs g v t (l ++ [out[Y]]) n u) := fun n u c hg => HWI.out.more hg
              have HOwn3 := hideg (ownsRow_below HOwn2.out (gal w2' (.cells #[.int .i64 out[Y].1, .int .i64 out[Y].2] 37)))
              rw [World.size_alloc] at hGo
              unfold goW at hGo
              simp only [List.length_cons, List.length_nil, Nat.zero_add] at hGo
              generalize goAns g a b [out[Y]] = ga at *
              obtain ⟨ga1, ga2, ga3, ga4⟩ := ga
              simp only at hGo
              clear hoc hR B3 HB2 HOwn2 hGoAll
              have q0 : (w2'.alloc (.cells #[.int .i64 out[Y].1, .int .i64 out[Y].2] 37)).cell? ⟨w2'.heap.size, 0, none⟩ = some (.int .i64 out[Y].1) := new_cell rfl rfl
              have q1 : (w2'.alloc (.cells #[.int .i64 out[Y].1, .int .i64 out[Y].2] 37)).cell? ⟨w2'.heap.size, 1, none⟩ = some (.int .i64 out[Y].2) := new_cell rfl rfl
              have HQ : Hid (∀ W, Below ((w2'.alloc (.cells #[.int .i64 out[Y].1, .int .i64 out[Y].2] 37)).alloc (.cells #[.int .i64 out[Y].1, .int .i64 out[Y].2] 37)).heap.size ((w2'.alloc (.cells #[.int .i64 out[Y].1, .int .i64 out[Y].2] 37)).alloc (.cells #[.int .i64 out[Y].1, .int .i64 out[Y].2] 37)) W → W.cell? ⟨w2'.heap.size, 0, none⟩ = some (.int .i64 out[Y].1) ∧ W.cell? ⟨w2'.heap.size, 1, none⟩ = some (.int .i64 out[Y].2) ∧ w2'.heap.size < W.heap.size ∧ GBx w W w.heap.size g la ea lc ec ∧ W.ownsRow (w.heap.size + 1) 37 2 u11 l.length (encs l)) := by
                intro W hw
                have hs := hw.size
                simp only [World.size_alloc] at hs
                have hw2 := ptg (gal (w2'.alloc (.cells #[.int .i64 out[Y].1, .int .i64 out[Y].2] 37)) _) hw
                exact ⟨(hw2.cell (p := ⟨w2'.heap.size, 0, none⟩) (by simp)).trans q0, (hw2.cell (p := ⟨w2'.heap.size, 1, none⟩) (by simp)).trans q1, by omega, HB3.out.below hw2, ownsRow_below HOwn3.out hw2⟩
              go_wp2_with fail
              refine hGo.mono ?_
              rintro r w4 ⟨rfl, hb4⟩
              obtain ⟨z0, z1, z2, B4, O4⟩ := HQ.out w4 hb4
              have hbx4 := B4.bel
              have HB4 := hideg B4
              clear hGo hb4 HQ HB3 HOwn3 p0 p1 p2 q0 q1 g0 g1 g2 y0 y1 B4 hbx
              by_cases hg4 : ga4 = 0
              · subst hg4
                have HW' := hideg (HMore.out ga1 ga2 ga3 rfl)
                clear HMore HWI
                have hs4 := hbx4.size
                have hlt4 := HB4.out.lt
                have HBg : Hid (∀ (o : Obj) (w5 : World), (w4.alloc o).grownBy w5 u11.ownBlock → Below w.heap.size w w5) := fun o w5 hgr => (hbx4.alloc hbx4.size o).grown hgr (by simp; omega) (fun k hk => by have := (O4.lt k hk).1; omega)
                have HBB : Hid (∀ (o : Obj) (w5 : World), (w4.alloc o).grownBy w5 u11.ownBlock → GBx w w5 w.heap.size g la ea lc ec) := fun o w5 hgr => by
                  have hlt := HB4.out.lt
                  have hne : some w.heap.size ≠ u11.ownBlock := fun e => by have := (O4.lt _ e.symm).1; omega
                  have B5 := HB4.out.below (gal w4 o)
                  exact ⟨(hgr.cell_far ⟨w.heap.size, 0, none⟩ B5.lt hne).trans B5.c0, (hgr.cell_far ⟨w.heap.size, 1, none⟩ B5.lt hne).trans B5.c1, (hgr.cell_far ⟨w.heap.size, 2, none⟩ B5.lt hne).trans B5.c2, HBg.out o w5 hgr, Nat.lt_of_lt_of_le B5.lt hgr.size⟩
                go_wp2_with (at_builtin; refine stopHere ?_)
                refine hideg ?_
                refine wpList_append_own _ rfl _ _ 28 rfl (w.heap.size + 1) 37 i0 _ 2 16 Try.underlying28 hi hz0 hz1 hz2 rfl (by decide) _ _ _ rfl (World.ownsRow.alloc (w := w4) O4 _) ⟨w4.heap.size, 0, none⟩ 1 1 [.int .i64 out[Y].1, .int .i64 out[Y].2] rfl rfl (cells_two_new _ _ _ _ _ rfl) (by intro u hu; simp at hu; rcases hu with rfl | rfl <;> rfl) (by unfold maxLen; omega) (by omega) (by simp; omega) ?_
                intro v' w5 hown5 hgrow _
                have hb' := HBB.out _ _ hgrow
                have R : w5.ownsRow (w.heap.size + 1) 37 2 v' (l ++ [out[Y]]).length (encs (l ++ [out[Y]])) := by
                  rw [encs_appj, List.length_append]; exact hown5
                clear hgrow O4 hown5
                go_wp2
                go_roundw
                case rel => exact ⟨k + 1, l ++ [out[Y]], ga1, ga2, by omega, by rw [List.length_append]; simp; omega, rfl, rfl, by go_num, R, HW'.out, hb'⟩
                case measure => simp [intOf]; omega
              · have hg5 : (ga4 != 0) = true := by simpa using hg4
                clear hg4
                go_wp2
                (try simp only [Exit.inBlock, Exit.then]); refine bodyPost_ret (results_tmp3j rfl _ _ _) rfl ?_
                exact ⟨_, l, a, b, rfl, owns_base2 O4 (by omega), by omega, HWI.out, hbx4⟩
          · have d1 : (placeE g a b != 0) = true := by simpa using e1
            generalize placeE g a b = n at *
            clear e1
            go_wp2_with fail
            refine hOut.mono ?_
            rintro r w2 ⟨u, rfl, ho2, hb2⟩
            have hbF := (HB.out.below hb2).bel
            have HOwn2 := hideg (ownsRow_below HOwn.out hb2)
            clear hOut g0 g1 g2 hc0 ho2 HB HOwn hbx hb2
            go_wp2
            (try simp only [Exit.inBlock, Exit.then]); refine bodyPost_ret (results_tmp3j rfl _ _ _) rfl ?_
            exact ⟨_, l, a, b, rfl, owns_base2 HOwn2.out (by omega), by omega, HWI.out, hbF⟩
        · have hkl : k = 20 := by omega
          subst hkl
          have hbF := hB.bel
          go_wp2
          (try simp only [Exit.inBlock, Exit.then]); refine bodyPost_ret (results_tmp3j rfl _ _ _) rfl ?_
          exact ⟨_, l, a, b, rfl, owns_base2 hown (by omega), by omega, hWI, hbF⟩

end Go.Proofs.Ythgelfnflafoiaf

namespace Go.Proofs.Ythgelfnflafoiaf
open Go.RowKit

/-- is a number that of a vertex? -/
def vtxB (g : Gr) (v : Int) : Bool := decide (0 ≤ v) && decide (v < (g.lives.length : Int))
theorem vtxB_iff (g : Gr) (v : Int) : vtxB g v = true ↔ 0 ≤ v ∧ v < (g.lives.length : Int) := by unfold vtxB; simp
theorem vtxB_in (g : Gr) (v : Int) : vtxB g v = inR v 0 ((g.lives.length : Int) - 1) := by
  rw [Bool.eq_iff_iff, vtxB_iff, inR_iff]; omega
theorem hasVertex_any (g : Gr) (la ea : Option Addr) (lc ec : Nat) (v : Int) (w : World) (hl : g.lives.length ≤ 12) :
    Calls Try.prog 35 #[.agg #[.int .i64 g.hor, .slice la g.lives.length lc, .slice ea g.edges.length ec], .int .i64 v] w fun r w' => r = .returned (.bool (vtxB g v)) ∧ Below w.heap.size w w' := by
  rw [vtxB_in]
  exact gHasV_any g.hor la ea g.lives.length lc g.edges.length ec v w hl

/-- what Fastest tells -/
def FastE (g : Gr) (v q d a e : Int) : Prop :=
  (gChk g ≠ 0 ∧ e = gChk g ∧ d = 0 ∧ a = 0) ∨ (gChk g = 0 ∧ ¬ ((0 ≤ v ∧ v < (g.lives.length : Int)) ∧ 0 ≤ q ∧ q < (g.lives.length : Int)) ∧ e = 4 ∧ d = 0 ∧ a = 0) ∨
  (gChk g = 0 ∧ ((0 ≤ v ∧ v < (g.lives.length : Int)) ∧ 0 ≤ q ∧ q < (g.lives.length : Int)) ∧ FastIs g v q d a e)

/-- the states at which one may set out, of the times up to t -/
def outM (g : Gr) (v t : Int) : Mp := fun x y => if x = v ∧ aliveB y g.lives v = true ∧ y < t then some (-y, 0, 0, 0, 0, 0, 0) else none

theorem outM_first {g : Gr} {V : Nat} (hV : V < g.lives.length) : outM g (V : Int) g.lives[V].1 = fun _ _ => none := by
  funext x y
  unfold outM
  rw [if_neg]
  rintro ⟨_, h1, h2⟩
  rw [aliveB_at _ _ _ hV] at h1
  have := (hasB_iff _ _ _).1 h1
  omega
theorem outM_next {g : Gr} {V : Nat} (hV : V < g.lives.length) {t : Int} (h1 : g.lives[V].1 ≤ t) (h2 : t < g.lives[V].2) : mset (outM g (V : Int) t) (V : Int) t (-t, 0, 0, 0, 0, 0, 0) = outM g (V : Int) (t + 1) := by
  have ha : aliveB t g.lives (V : Int) = true := by rw [aliveB_at _ _ _ hV]; exact (hasB_iff _ _ _).2 ⟨h1, h2⟩
  funext x y
  unfold mset outM
  by_cases e : x = (V : Int) ∧ y = t
  · obtain ⟨rfl, rfl⟩ := e
    rw [if_pos ⟨rfl, rfl⟩, if_pos ⟨rfl, ha, by omega⟩]
  · rw [if_neg e]
    by_cases e2 : x = (V : Int) ∧ aliveB y g.lives (V : Int) = true ∧ y < t
    · rw [if_pos e2, if_pos ⟨e2.1, e2.2.1, by omega⟩]
    · rw [if_neg e2, if_neg (fun k => e2 ⟨k.1, k.2.1, by have := fun h => e ⟨k.1, h⟩; omega⟩)]
theorem outM_last {g : Gr} {V : Nat} (hV : V < g.lives.length) (x y : Int) : (outM g (V : Int) g.lives[V].2 x y).map (·.1) = FF g (V : Int) x y := by
  unfold outM FF
  by_cases e : x = (V : Int) ∧ aliveB y g.lives (V : Int) = true
  · have h1 := e.2
    rw [aliveB_at _ _ _ hV] at h1
    have := (hasB_iff _ _ _).1 h1
    rw [if_pos ⟨e.1, e.2, by omega⟩, if_pos e]; rfl
  · rw [if_neg (fun k => e ⟨k.1, k.2.1⟩), if_neg e]; rfl

end Go.Proofs.Ythgelfnflafoiaf

namespace Go.Proofs.Ythgelfnflafoiaf

theorem Pay.rch {g : Gr} (R : Right g) {pr : Ri → Int} {v t x y p : Int} (h : Pay g pr v t x y p) : Rch g v t x y := by
  obtain ⟨ha, h⟩ := h
  induction h with
  | @base x y p h =>
    unfold F1 at h
    split at h
    · rename_i e; obtain ⟨rfl, rfl⟩ := e; exact .base ha
    · cases h
  | wait _ hal ih => exact .wait ih hal
  | ride hr _ ih => exact (mem_rides R hr).go ih
theorem Rch.pay {g : Gr} (R : Right g) (pr : Ri → Int) {v t x y : Int} (h0 : 0 ≤ v) (h : Rch g v t x y) : ∃ p, Pay g pr v t x y p := by
  induction h with
  | base ha => exact ⟨0, ha, .base (by unfold F1; rw [if_pos ⟨rfl, rfl⟩])⟩
  | wait _ hal ih =>
    obtain ⟨p, hp⟩ := ih
    exact ⟨p, hp.1, .wait hp.2 hal⟩
  | @ride t q i hi h hq ih =>
    obtain ⟨p, hp⟩ := ih
    exact ⟨_, hp.1, .ride (ride_mem R hi (h.place R h0).2.2.1 hq) hp.2⟩
/-- what has few hops costs no more than so many of the dearest -/
theorem pay_both {g : Gr} (R : Right g) {v t x y p : Int} (h : Pay g prOne v t x y p) : ∃ q, Pay g prCost v t x y q ∧ q ≤ p * 1000 := by
  obtain ⟨ha, h⟩ := h
  induction h with
  | @base x y p h =>
    refine ⟨p, ⟨ha, .base h⟩, ?_⟩
    unfold F1 at h
    split at h
    · cases h; omega
    · cases h
  | wait _ hal ih =>
    obtain ⟨q, hq, hle⟩ := ih
    exact ⟨q, ⟨ha, .wait hq.2 hal⟩, hle⟩
  | @ride p r hr _ ih =>
    obtain ⟨q, hq, hle⟩ := ih
    have := (mem_rides R hr).c0
    refine ⟨q + prCost r, ⟨ha, .ride hr hq.2⟩, ?_⟩
    unfold prCost prOne
    omega
/-- one hop is a ride -/
theorem hop_pay {g : Gr} (R : Right g) {pr : Ri → Int} {v0 t0 v t c p : Int} (h0 : 0 ≤ v0) {h : Hp} {s : Int × Int × Int} (e : hopF g (v, t, c) h = some s) (hp : Pay g pr v0 t0 v t p) : Pay g pr v0 t0 s.1 s.2.1 (p + pr (h.1, h.2, v, s.1, s.2.1, s.2.2 - c)) := by
  unfold hopF at e
  split at e
  · rename_i h1
    have h1 := (inR_iff _ _ _).1 h1
    obtain ⟨E, hE⟩ : ∃ E : Nat, h.1 = (E : Int) := ⟨h.1.toNat, by omega⟩
    have hE' : E < g.edges.length := by omega
    have hg : g.edges.getD h.1.toNat (0, 0, []) = g.edges[E] := by rw [hE, Int.toNat_natCast, List.getD_eq_getElem?_getD, List.getElem?_eq_getElem hE']; rfl
    rw [hg] at e
    split at e
    · rename_i h2
      split at e
      · cases e
      · rename_i q hq
        simp only [Option.some.injEq] at e
        subst e
        simp only at h2
        obtain ⟨k1, k2, k3, k4, _, _⟩ := lands_lt R hE' hq
        have hw := hp.waits R h0 h2.2 (by rw [← h2.1]; exact k2)
        have hd := (hw.place R h0).2.2.2.1
        rw [← h2.1] at hw
        have := Pd.ride (ride_mem R hE' hd hq) hw.2
        simp only at this
        have hc : c + q.2 - c = q.2 := by omega
        simp only
        rw [hc, hE, ← h2.1]
        exact ⟨hp.1, this⟩
    · cases e
  · cases e
/-- a journey is paid for -/
theorem go_pay {g : Gr} (R : Right g) {v0 t0 : Int} (h0 : 0 ≤ v0) : ∀ (l : List Hp) (v t c p n : Int) (s : Int × Int × Int), Pay g prCost v0 t0 v t p → Pay g prOne v0 t0 v t n → goF g (some (v, t, c)) l = some s → Pay g prCost v0 t0 s.1 s.2.1 (p + (s.2.2 - c)) ∧ Pay g prOne v0 t0 s.1 s.2.1 (n + l.length)
  | [], v, t, c, p, n, s, hp, hn, e => by
    rw [goF_nil] at e
    cases e
    simp only [List.length_nil, Int.natCast_zero, Int.add_zero, Int.sub_self]
    exact ⟨hp, hn⟩
  | h :: l, v, t, c, p, n, s, hp, hn, e => by
    rw [goF_cons, Option.bind_some] at e
    cases e1 : hopF g (v, t, c) h with
    | none => rw [e1, goF_none] at e; cases e
    | some s1 =>
      rw [e1] at e
      have k1 := hop_pay R h0 e1 hp
      have k2 := hop_pay R h0 e1 hn
      obtain ⟨q1, q2⟩ := go_pay R h0 l s1.1 s1.2.1 s1.2.2 _ _ s k1 k2 e
      unfold prCost at q1
      unfold prOne at q2
      refine ⟨?_, ?_⟩
      · rw [show p + (s.2.2 - c) = p + (s1.2.2 - c) + (s.2.2 - s1.2.2) by omega]; exact q1
      · rw [List.length_cons, show n + ((l.length + 1 : Nat) : Int) = n + 1 + l.length by omega]; exact q2
theorem go_pays {g : Gr} (R : Right g) {v t : Int} (h0 : 0 ≤ v) (ha : aliveB t g.lives v = true) {l : List Hp} {s : Int × Int × Int} (e : goF g (some (v, t, 0)) l = some s) : Pay g prCost v t s.1 s.2.1 s.2.2 ∧ Pay g prOne v t s.1 s.2.1 l.length := by
  have hb : ∀ pr, Pay g pr v t v t 0 := fun pr => ⟨ha, .base (by unfold F1; rw [if_pos ⟨rfl, rfl⟩])⟩
  have := go_pay R h0 l v t 0 0 0 s (hb _) (hb _) e
  simpa using this
/-- earliest times and least prices are told of the same vertices -/
theorem inf_same {g : Gr} (R : Right g) {pr : Ri → Int} (hpr : PrOk g pr) {v t : Int} (h0 : 0 ≤ v) {L : List Int} (h : LeastIs g pr v t L) {x : Nat} (hx : x < g.lives.length) : (L.getD x 0 = 1099511627776 ↔ (erF g v t).1.getD x 0 = 1099511627776) ∧ (L.getD x 0 ≠ 1099511627776 → 0 ≤ L.getD x 0 ∧ L.getD x 0 ≤ 100000) ∧ ((erF g v t).1.getD x 0 ≠ 1099511627776 → Rch g v t x ((erF g v t).1.getD x 0) ∧ aliveB t g.lives v = true) := by
  have hr2 : (erF g v t).1.getD x 0 ≠ 1099511627776 → Rch g v t x ((erF g v t).1.getD x 0) ∧ aliveB t g.lives v = true := fun hne => by
    by_cases ha : aliveB t g.lives v = true
    · rcases (erF_ok R h0 ha).1.is x hx with e | e
      · exact absurd e hne
      · exact ⟨e, ha⟩
    · exact absurd (by rw [erF_away ha, rep_getD _ _ _ hx]) hne
  refine ⟨⟨fun e => Classical.byContradiction fun hne => ?_, fun e => Classical.byContradiction fun hne => ?_⟩, fun hne => ?_, hr2⟩
  · obtain ⟨p, hp⟩ := (hr2 hne).1.pay R pr h0
    have h1 := h.least x hx _ _ hp
    have h2 := hp.range R hpr h0
    omega
  · rcases h.is x hx with k | ⟨y, k⟩
    · exact hne k
    · have h1 := (erF_ok R h0 k.1).2 _ _ (k.rch R)
      have h2 := (k.place R h0).2.2.2
      have h3 := R.hor
      simp only [Int.toNat_natCast] at h1
      omega
  · rcases h.is x hx with k | ⟨y, k⟩
    · exact absurd k hne
    · exact k.range R hpr h0
theorem er_le {g : Gr} (R : Right g) {v t : Int} (h0 : 0 ≤ v) {x : Nat} (hx : x < g.lives.length) : 0 ≤ (erF g v t).1.getD x 0 ∧ (erF g v t).1.getD x 0 ≤ 1099511627776 ∧ ((erF g v t).1.getD x 0 ≠ 1099511627776 → (erF g v t).1.getD x 0 < g.hor) := by
  have hh := R.hor
  by_cases ha : aliveB t g.lives v = true
  · rcases (erF_ok R h0 ha).1.is x hx with e | e
    · rw [e]; exact ⟨by omega, by omega, fun h => absurd rfl h⟩
    · have := (e.place R h0).2.2; exact ⟨by omega, by omega, fun _ => by omega⟩
  · rw [erF_away ha, rep_getD _ _ _ hx]; exact ⟨by omega, by omega, fun h => absurd rfl h⟩
/-- a lower bound of vertices that no ride goes below -/
theorem pay_bound {g : Gr} {pr : Ri → Int} {v t : Int} {b : Int → Int} (hb : b v ≤ 0) (hr : ∀ r ∈ ridesF g, b r.2.2.2.1 ≤ b r.2.2.1 + pr r) {x y p : Int} (h : Pay g pr v t x y p) : b x ≤ p := by
  obtain ⟨_, h⟩ := h
  induction h with
  | @base x y p h =>
    unfold F1 at h
    split at h
    · rename_i e; obtain ⟨rfl, _⟩ := e; cases h; exact hb
    · cases h
  | wait _ _ ih => exact ih
  | ride hm _ ih => have := hr _ hm; omega

end Go.Proofs.Ythgelfnflafoiaf

namespace Go.Proofs.Ythgelfnflafoiaf
open Go.RowKit

theorem ltGo_take {T : List Int} {l : List Ri} {k : Nat} (hk : k < l.length) : ltGo T (l.take (k + 1)) = ltT (ltGo T (l.take k)) l[k] := by
  unfold ltGo; rw [List.take_succ_eq_append_getElem hk, List.foldl_append]; rfl
/-- what latest holds while it looks at the rides -/
structure LtSt (w0 w : World) (m1 m3 n : Nat) (u : Value) (rides : List Ri) (T : List Int) : Prop where
  t : Zo w w0.heap.size m1 n n T
  r : w.ownsRow m3 61 6 u rides.length (encRs rides)
  b : Below w0.heap.size w0 w
theorem LtSt.below {w0 w w' : World} {m1 m3 n : Nat} {u : Value} {rides : List Ri} {T : List Int} (h : LtSt w0 w m1 m3 n u rides T) (hb : Below w.heap.size w w') : LtSt w0 w' m1 m3 n u rides T :=
  ⟨ownsRow_below h.t hb, ownsRow_below h.r hb, h.b.trans (hb.mono h.b.size)⟩
theorem LtSt.set {w0 w : World} {m1 m3 n : Nat} {u : Value} {rides : List Ri} {T : List Int} (h : LtSt w0 w m1 m3 n u rides T) (h13 : m1 < m3) (k : Nat) (x : Int) : LtSt w0 (w.setCell ⟨m1, k, none⟩ (.int .i64 x)) m1 m3 n u rides (T.set k x) := by
  have hm1 : w0.heap.size ≤ m1 := (World.ownsRow.lt h.t m1 rfl).1
  have hu : u.ownBlock ≠ some m1 := own_none fun k hk => Nat.lt_of_lt_of_le h13 (World.ownsRow.lt h.r k hk).1
  exact ⟨Zo.set h.t k x, ownsRow_setCell_other h.r hu _, h.b.setCell (p := ⟨m1, k, none⟩) hm1 _⟩
theorem LtSt.ride {w0 w : World} {m1 m3 n : Nat} {u : Value} {rides : List Ri} {T : List Int} (h : LtSt w0 w m1 m3 n u rides T) {k : Nat} (hk : k < rides.length) : ∃ rb cap, u = .slice (some ⟨rb, 0, none⟩) rides.length cap ∧ rb < w.heap.size ∧ RdOne w rb (k * 6) (rides.getD k ri0) := by
  have hr := h.r
  rcases hr.2 with ⟨_, h0⟩ | ⟨rb, cap, cur, e, _, hh, _⟩
  · omega
  · rw [e] at hr
    exact ⟨rb, cap, e, (Array.getElem?_eq_some_iff.1 hh).1, Ro.one hr hk⟩

set_option maxRecDepth 100000 in
set_option maxHeartbeats 400000 in
theorem latest_any (g : Gr) (la ea : Option Addr) (lc ec : Nat) (v t : Int) (w : World) (hG : GAt w la ea g) (hpl : placeE g v t = 0) :
    Calls Try.prog 31 #[.agg #[.int .i64 g.hor, .slice la g.lives.length lc, .slice ea g.edges.length ec], .int .i64 v, .int .i64 t] w fun r w' => ∃ m1, r = .returned (.slice (some ⟨m1, 0, none⟩) g.lives.length g.lives.length) ∧ Zo w' w.heap.size m1 g.lives.length g.lives.length (ltF g v t) ∧ Below w.heap.size w w' := by
  obtain ⟨hg0, ⟨hv0, hv1⟩, ht0, ht1⟩ := placeE_zero hpl
  have hR := gChk_right hg0
  have hn12 := hR.lvs
  obtain ⟨V, rfl⟩ : ∃ V : Nat, v = (V : Int) := ⟨v.toNat, by omega⟩
  have hVg : V < g.lives.length := by omega
  obtain ⟨w1, hw1⟩ : ∃ x, x = w.alloc (.cells #[.int .i64 g.hor, .slice la g.lives.length lc, .slice ea g.edges.length ec] 25) := ⟨_, rfl⟩
  have B1 : GBx w w1 w.heap.size g la ea lc ec := by rw [hw1]; exact gbx_start w g la ea lc ec 25
  obtain ⟨w2, hw2⟩ : ∃ x, x = w1.alloc (.cells #[.int .i64 (-1)] 3) := ⟨_, rfl⟩
  have B2 : GBx w w2 w.heap.size g la ea lc ec := by rw [hw2]; exact B1.below (gal w1 _)
  have hs1 : w1.heap.size = w.heap.size + 1 := by rw [hw1]; simp
  have hs2 : w2.heap.size = w.heap.size + 1 + 1 := by rw [hw2]; simp [hs1]
  have hRep := Repeat_any (-1) (w.heap.size + 1) 0 1 g.lives.length (by omega) w2 (by rw [hw2]; exact new_cell hs1.symm rfl) (by omega)
  have g1 := B2.c1
  have HG := hideg hG
  have HB2 := hideg B2
  have HRt := hideg hR
  have hw1s := hw1.symm
  have hw2s := hw2.symm
  clear hG hpl hg0 hR B1 B2 hw1 hw2
  go_enter Try.func31, Try.ntmps31
  go_wp2_with fail
  refine hRep.mono ?_
  rintro r w3 ⟨rfl, hZ3, hb3⟩
  have B3 := HB2.out.below hb3
  have hs3 := (World.ownsRow.lt hZ3 _ rfl).2
  have hZ4 := owns_base2 hZ3 (show w.heap.size ≤ w2.heap.size by omega)
  have hGA := HG.out.below B3.bel
  obtain ⟨lb, lof, rfl, hlb, hlc⟩ : ∃ b off, la = some ⟨b, off, none⟩ ∧ b < w3.heap.size ∧ (w3.cell? ⟨b, off + V * 2, none⟩ = some (.int .i64 g.lives[V].1) ∧ w3.cell? ⟨b, off + V * 2 + 1, none⟩ = some (.int .i64 g.lives[V].2)) := by
    rcases hGA.lv with h0 | ⟨b, off, rfl, hbr, hc⟩
    · rw [h0] at hVg; simp at hVg
    exact ⟨b, off, rfl, hbr, IvAt.get hVg hc⟩
  obtain ⟨lc0, lc1⟩ := hlc
  have g1' := B3.c1
  have hal := fun W => jalive_any g.lives[V].1 g.lives[V].2 t W
  rw [← aliveB_at t g.lives V hVg] at hal
  have HB3 := hideg B3
  clear hRep hw1s hw2s g1 HB2 B3 hZ3 hb3 hGA
  cases ha : aliveB t g.lives (V : Int) with
  | false =>
    rw [ha] at hal
    have HE : Hid (ltF g (V : Int) t = List.replicate g.lives.length (-1)) := by show _ = _; unfold ltF; rw [if_neg (by rw [ha]; simp)]
    clear ha
    go_wp2_with fail
    refine (hal _).mono ?_
    rintro r w5 ⟨rfl, hb5⟩
    have hZ5 := ownsRow_below hZ4 hb5
    rw [hs2] at hZ5
    have HZ5 := hideg hZ5
    have HB5 := hideg (HB3.out.below hb5).bel
    clear hal hb5 hZ4 HB3 lc0 lc1 g1' hZ5
    go_wp2
    go_ret
    exact ⟨_, rfl, by rw [HE.out]; exact HZ5.out, HB5.out⟩
  | true =>
    rw [ha] at hal
    have HE : Hid (ltF g (V : Int) t = ltGo (lt0 g (V : Int) t) (ridesF g).reverse) := by show _ = _; unfold ltF; rw [if_pos ha]
    clear ha
    go_wp2_with fail
    refine (hal _).mono ?_
    rintro r w5 ⟨rfl, hb5⟩
    have hZ5 := ownsRow_below hZ4 hb5
    have B5 := HB3.out.below hb5
    have hs5 := hb5.size
    have fz := World.ownsRow.frozenAt hZ5 V
    have cv := Zo.cell hZ5 hVg
    rw [hs2] at fz cv
    clear hal hb5 hZ4 HB3 lc0 lc1 g1'
    obtain ⟨w6, hw6⟩ : ∃ x, x = w5.setCell ⟨w.heap.size + 1 + 1, V, none⟩ (.int .i64 t) := ⟨_, rfl⟩
    have hZ6 : Zo w6 w.heap.size (w.heap.size + 1 + 1) g.lives.length g.lives.length (lt0 g (V : Int) t) := by
      rw [hw6]; rw [hs2] at hZ5
      have := Zo.set hZ5 V t
      simpa [lt0] using this
    have hb6 : Below w.heap.size w w6 := by rw [hw6]; exact B5.bel.setCell (p := ⟨w.heap.size + 1 + 1, V, none⟩) (by simp only; omega) _
    have hs6 : w5.heap.size = w6.heap.size := by rw [hw6]; simp [World.setCell]
    have k0 : w6.cell? ⟨w.heap.size, 0, none⟩ = some (.int .i64 g.hor) := by rw [hw6, cellFar (by omega)]; exact B5.c0
    have k1 : w6.cell? ⟨w.heap.size, 1, none⟩ = some (.slice (some ⟨lb, lof, none⟩) g.lives.length lc) := by rw [hw6, cellFar (by omega)]; exact B5.c1
    have k2 : w6.cell? ⟨w.heap.size, 2, none⟩ = some (.slice ea g.edges.length ec) := by rw [hw6, cellFar (by omega)]; exact B5.c2
    have hRd := Rides_any g (some ⟨lb, lof, none⟩) ea lc ec w6 (HG.out.below hb6) HRt.out
    have hw6s := hw6.symm
    clear hw6 hZ5 B5
    obtain ⟨M1, hM1⟩ : ∃ M, M = w.heap.size + 1 + 1 := ⟨_, rfl⟩
    obtain ⟨M3, hM3⟩ : ∃ M, M = w6.heap.size := ⟨_, rfl⟩
    have h13 : M1 < M3 := by omega
    go_wp2_with fail
    refine hRd.mono ?_
    rintro r w7 ⟨u, rfl, hu7, hb7⟩
    rw [← hM1]
    rw [← hM1] at hZ6
    rw [← hM3] at hu7
    have S7 : LtSt w w7 M1 M3 g.lives.length u (ridesF g) (ltGo (lt0 g (V : Int) t) ((ridesF g).reverse.take 0)) := ⟨ownsRow_below hZ6 hb7, hu7, hb6.trans (hb7.mono hb6.size)⟩
    have hok : ∀ r ∈ ridesF g, RideOk g r := fun r hr => mem_rides HRt.out hr
    have hll : (ridesF g).length ≤ 3000 := Nat.le_trans (ridesTo_len g _) (Nat.le_trans (Nat.mul_le_mul (show g.hor.toNat ≤ 100 by have := HRt.out.hor; omega) HRt.out.eds) (by omega))
    obtain ⟨ao, cap, rfl, _⟩ := rdAt_of_owns hu7
    have hhor : g.hor ≤ 100 := HRt.out.hor.2
    generalize ridesF g = rides at *
    have HOk := hideg hok
    have hwl : IntKind.i64.wrap ((rides.length : Int) - 1) = (rides.length : Int) - 1 := wrap_nj _ (by omega) (by omega)
    clear hRd hw6s hZ6 hb6 hu7 hb7 k0 k1 k2 fz cv hM1 hM3 hs6 hs5 hs3 hs2 hs1 HG HRt hok hlb
    go_wp2_with fail
    go_loopw [9] (fun i wr => ∃ k : Nat, k ≤ rides.length ∧ i = .int .i64 ((rides.length : Int) - 1 - (k : Int)) ∧ LtSt w wr M1 M3 g.lives.length (.slice ao rides.length cap) rides (ltGo (lt0 g (V : Int) t) (rides.reverse.take k))) (fun i _ => (intOf i + 1).toNat)
    case atStart => exact ⟨0, Nat.zero_le _, by simp, S7⟩
    case round =>
      clear S7 hwl
      obtain ⟨k, hk, rfl, S⟩ := hrel
      by_cases hkl : k < rides.length
      · obtain ⟨J, hJ⟩ : ∃ J : Nat, J = rides.length - 1 - k := ⟨_, rfl⟩
        have hJl : J < rides.length := by omega
        have hJi : (rides.length : Int) - 1 - (k : Int) = (J : Int) := by omega
        have HJn : Hid ((J : Int) - 1 = (rides.length : Int) - 1 - ((k + 1 : Nat) : Int)) := by show _ = _; omega
        have hJw : IntKind.i64.wrap ((J : Int) - 1) = (J : Int) - 1 := wrap_nj _ (by omega) (by omega)
        have hJli : (J : Int) < (rides.length : Int) := by omega
        rw [hJi]
        obtain ⟨rb, cap', e, hrb, hRo⟩ := S.ride hJl
        simp only [Value.slice.injEq, true_and] at e
        obtain ⟨rfl, rfl⟩ := e
        have hmem := HOk.out rides[J] (List.getElem_mem hJl)
        have hgd : rides.getD J ri0 = rides[J] := by rw [List.getD_eq_getElem?_getD, List.getElem?_eq_getElem hJl]; rfl
        have hrev : rides.reverse[k]'(by simpa using hkl) = rides[J] := by rw [List.getElem_reverse]; simp only [hJ]
        have HT := ltGo_take (T := lt0 g (V : Int) t) (l := rides.reverse) (k := k) (by simpa using hkl)
        rw [hrev] at HT
        have HT := hideg HT
        rw [hgd] at hRo
        clear hrev hJ hJi
        generalize rides[J] = rr at *
        obtain ⟨E, d, a, b, ar, c⟩ := rr
        have ha0 := hmem.a0
        have hb0 := hmem.b0
        have hd0 := hmem.d0
        have hd1 := hmem.lt
        have hd2 := hmem.hor
        simp only at ha0 hb0 hd0 hd1 hd2
        obtain ⟨A, rfl⟩ : ∃ A : Nat, a = (A : Int) := ⟨a.toNat, by omega⟩
        obtain ⟨B, rfl⟩ : ∃ B : Nat, b = (B : Int) := ⟨b.toNat, by omega⟩
        have hA : A < g.lives.length := by omega
        have hB : B < g.lives.length := by omega
        generalize ltGo (lt0 g (V : Int) t) (rides.reverse.take k) = T at *
        obtain ⟨wa, hwa⟩ : ∃ x, x = wr.alloc (.cells #[.int .i64 E, .int .i64 d, .int .i64 (A : Int), .int .i64 (B : Int), .int .i64 ar, .int .i64 c] 61) := ⟨_, rfl⟩
        have c0 := hRo.c0
        have c1 := hRo.c1
        have c2 := hRo.c2
        have c3 := hRo.c3
        have c4 := hRo.c4
        have c5 := hRo.c5
        simp only at c0 c1 c2 c3 c4 c5
        have Sa : LtSt w wa M1 M3 g.lives.length (.slice (some ⟨rb, 0, none⟩) rides.length cap) rides T := by rw [hwa]; exact S.below (gal wr _)
        have xa := Zo.cell Sa.t hA
        have xb := Zo.cell Sa.t hB
        have y0 : wa.cell? ⟨wr.heap.size, 0, none⟩ = some (.int .i64 E) := by rw [hwa]; exact new_cell rfl rfl
        have y1 : wa.cell? ⟨wr.heap.size, 1, none⟩ = some (.int .i64 d) := by rw [hwa]; exact new_cell rfl rfl
        have y2 : wa.cell? ⟨wr.heap.size, 2, none⟩ = some (.int .i64 (A : Int)) := by rw [hwa]; exact new_cell rfl rfl
        have y3 : wa.cell? ⟨wr.heap.size, 3, none⟩ = some (.int .i64 (B : Int)) := by rw [hwa]; exact new_cell rfl rfl
        have y4 : wa.cell? ⟨wr.heap.size, 4, none⟩ = some (.int .i64 ar) := by rw [hwa]; exact new_cell rfl rfl
        have hwas := hwa.symm
        have HSa := hideg Sa
        clear hRo S Sa hmem hgd hwa
        obtain ⟨x1, hx1⟩ : ∃ x, x = T.getD A 0 := ⟨_, rfl⟩
        obtain ⟨x2, hx2⟩ : ∃ x, x = T.getD B 0 := ⟨_, rfl⟩
        rw [← hx1] at xa
        rw [← hx2] at xb
        have HX1 := hideg hx1
        have HX2 := hideg hx2
        have hAi : (A : Int) < (g.lives.length : Int) := by omega
        have hBi : (B : Int) < (g.lives.length : Int) := by omega
        have HNo : Hid (¬ (ar ≤ x2) → ltGo (lt0 g (V : Int) t) (rides.reverse.take (k + 1)) = T) := by
          intro h
          rw [HT.out]
          unfold ltT
          simp only [Int.toNat_natCast]
          rw [← HX2.out, if_neg h]
        have HYes : Hid (ar ≤ x2 → ltGo (lt0 g (V : Int) t) (rides.reverse.take (k + 1)) = T.set A (if x1 < d then d else x1)) := by
          intro h
          have hmx : (if x1 < d then d else x1) = max x1 d := by split <;> omega
          rw [HT.out]
          unfold ltT
          simp only [Int.toNat_natCast]
          rw [← HX1.out, ← HX2.out, if_pos h, hmx]
        have HSn : Hid (¬ (ar ≤ x2) → ∀ N, LtSt w (wa.drewN N) M1 M3 g.lives.length (.slice (some ⟨rb, 0, none⟩) rides.length cap) rides (ltGo (lt0 g (V : Int) t) (rides.reverse.take (k + 1)))) := by
          intro h N
          rw [HNo.out h]
          exact HSa.out.below (below_drewN (Below.refl _ _) N)
        clear hx1 hx2 HT HNo
        by_cases q2 : ar ≤ x2
        · have d2 : decide (ar ≤ x2) = true := by simpa using q2
          have HE2 := hideg (HYes.out q2)
          have HSet := hideg (fun (W : World) (h : LtSt w W M1 M3 g.lives.length (.slice (some ⟨rb, 0, none⟩) rides.length cap) rides T) => h.set h13 A (if x1 < d then d else x1))
          clear HSn HYes
          go_wp2_with fail
          go_quiet (fail)
          clear xb q2 d2 c0 c1 c2 c3 c4 c5
          go_wp2_with fail
          refine wp_region_back (S := fun w3 => w3.cell? ⟨wr.heap.size, 1, none⟩ = some (.int .i64 d) ∧ w3.cell? ⟨wr.heap.size, 2, none⟩ = some (.int .i64 (A : Int)) ∧ w3.cell? ⟨M1, A, none⟩ = some (.int .i64 x1)) (by kernel_rfl) (by simp) (by kernel_rfl) (by kernel_rfl) ⟨y1, y2, xa⟩ (fun hHeld => ?_)
          generalize hw8 : (wa.drewN nq).drew = w8 at *
          have S8 : LtSt w w8 M1 M3 g.lives.length (.slice (some ⟨rb, 0, none⟩) rides.length cap) rides T := by rw [← hw8]; exact HSa.out.below (below_drewN (Below.refl _ _) (nq + 1))
          simp only [List.pop_toArray, List.dropLast, List.back!_toArray, List.getLast!]
          clear hw8 y0 y1 y2 y3 y4 xa
          refine take_lit (i := 0) (v := ?_) rfl (by kernel_rfl) (by kernel_rfl) (by kernel_rfl) (fun _ _ _ h => h) (Or.inl ⟨by rfl, ?hy0⟩) (by assumption) ?_
          case hy0 => (intro w hSw; (try dsimp only at hSw); go_simp; try with_reducible rfl)
          try simp only [Act.put, List.setIfInBounds_toArray, List.set_cons_zero, List.set_cons_succ]
          refine take_lit (i := 1) (v := ?_) rfl (by kernel_rfl) (by kernel_rfl) (by kernel_rfl) (fun _ _ _ h => h) (Or.inl ⟨by rfl, ?hy1⟩) (by assumption) ?_
          case hy1 => (intro w hSw; (try dsimp only at hSw); go_simp; try with_reducible rfl)
          try simp only [Act.put, List.setIfInBounds_toArray, List.set_cons_zero, List.set_cons_succ]
          refine take_lit (i := 2) (v := ?_) rfl (by kernel_rfl) (by kernel_rfl) (by kernel_rfl) (fun _ _ _ h => h) (Or.inl ⟨by rfl, ?hy2⟩) (by assumption) ?_
          case hy2 => (intro w hSw; (try dsimp only at hSw); go_simp; try with_reducible rfl)
          try simp only [Act.put, List.setIfInBounds_toArray, List.set_cons_zero, List.set_cons_succ]
          refine take_lit (i := 3) (v := ?_) rfl (by kernel_rfl) (by kernel_rfl) (by kernel_rfl) (fun _ _ _ h => h) (Or.inl ⟨by rfl, ?hy3⟩) (by assumption) ?_
          case hy3 => (intro w hSw; (try dsimp only at hSw); go_simp; try with_reducible rfl)
          try simp only [Act.put, List.setIfInBounds_toArray, List.set_cons_zero, List.set_cons_succ]
          refine take_lit (i := 4) (v := ?_) rfl (by kernel_rfl) (by kernel_rfl) (by kernel_rfl) (fun _ _ _ h => h) (Or.inl ⟨by rfl, ?hy4⟩) (by assumption) ?_
          case hy4 => (intro w hSw; (try dsimp only at hSw); go_simp; try with_reducible rfl)
          try simp only [Act.put, List.setIfInBounds_toArray, List.set_cons_zero, List.set_cons_succ]
          refine take_lit (i := 5) (v := ?_) rfl (by kernel_rfl) (by kernel_rfl) (by kernel_rfl) (fun _ _ _ h => h) (Or.inl ⟨by rfl, ?hy5⟩) (by assumption) ?_
          case hy5 => (intro w hSw; (try dsimp only at hSw); go_simp; try with_reducible rfl)
          try simp only [Act.put, List.setIfInBounds_toArray, List.set_cons_zero, List.set_cons_succ]
          refine take_lit (i := 6) (v := ?_) rfl (by kernel_rfl) (by kernel_rfl) (by kernel_rfl) (fun _ _ _ h => h) (Or.inl ⟨by rfl, ?hy6⟩) (by assumption) ?_
          case hy6 => (intro w hSw; (try dsimp only at hSw); go_simp; try with_reducible rfl)
          try simp only [Act.put, List.setIfInBounds_toArray, List.set_cons_zero, List.set_cons_succ]
          refine take_lit (i := 7) (v := ?_) rfl (by kernel_rfl) (by kernel_rfl) (by kernel_rfl) (fun _ _ _ h => h) (Or.inl ⟨by rfl, ?hy7⟩) (by assumption) ?_
          case hy7 => (intro w hSw; (try dsimp only at hSw); go_simp; try with_reducible rfl)
          try simp only [Act.put, List.setIfInBounds_toArray, List.set_cons_zero, List.set_cons_succ]
          refine take_lit (i := 8) (v := ?_) rfl (by kernel_rfl) (by kernel_rfl) (by kernel_rfl) (fun _ _ _ h => h) (Or.inl ⟨by rfl, ?hy8⟩) (by assumption) ?_
          case hy8 => (intro w hSw; (try dsimp only at hSw); go_simp; try with_reducible rfl)
          try simp only [Act.put, List.setIfInBounds_toArray, List.set_cons_zero, List.set_cons_succ]
          refine take_lit (i := 9) (v := ?_) rfl (by kernel_rfl) (by kernel_rfl) (by kernel_rfl) (fun _ _ _ h => h) (Or.inl ⟨by rfl, ?hy9⟩) (by assumption) ?_
          case hy9 => (intro w hSw; (try dsimp only at hSw); go_simp; try with_reducible rfl)
          try simp only [Act.put, List.setIfInBounds_toArray, List.set_cons_zero, List.set_cons_succ]
          refine take_lit (i := 10) (v := ?_) rfl (by kernel_rfl) (by kernel_rfl) (by kernel_rfl) (fun _ _ _ h => h) (Or.inl ⟨by rfl, ?hy10⟩) (by assumption) ?_
          case hy10 => (intro w hSw; (try dsimp only at hSw); go_simp; try with_reducible rfl)
          try simp only [Act.put, List.setIfInBounds_toArray, List.set_cons_zero, List.set_cons_succ]
          refine take_lit (i := 11) (v := ?_) rfl (by kernel_rfl) (by kernel_rfl) (by kernel_rfl) (fun _ _ _ h => h) (Or.inl ⟨by rfl, ?hy11⟩) (by assumption) ?_
          case hy11 => (intro w hSw; (try dsimp only at hSw); go_simp; try with_reducible rfl)
          try simp only [Act.put, List.setIfInBounds_toArray, List.set_cons_zero, List.set_cons_succ]
          refine take_lit (i := 12) (v := ?_) rfl (by kernel_rfl) (by kernel_rfl) (by kernel_rfl) (fun _ _ _ h => h) (Or.inl ⟨by rfl, ?hy12⟩) (by assumption) ?_
          case hy12 => (intro w hSw; (try dsimp only at hSw); go_simp; try with_reducible rfl)
          try simp only [Act.put, List.setIfInBounds_toArray, List.set_cons_zero, List.set_cons_succ]
          refine wpAnyH_done (by kernel_rfl) ?_ _
          refine back_last (fun K hK => ?_)
          have fA := World.ownsRow.frozenAt S8.t A
          have xA := hHeld.2.2
          have hS10 := HSet.out _ S8
          clear hHeld
          go_simp
          refine hK.out _ _ ?_
          clear hK K fA xA
          generalize w8.setCell ⟨M1, A, none⟩ (.int .i64 (if x1 < d then d else x1)) = w10 at *
          have HS10 : Hid (LtSt w w10 M1 M3 g.lives.length (.slice (some ⟨rb, 0, none⟩) rides.length cap) rides (ltGo (lt0 g (V : Int) t) (rides.reverse.take (k + 1)))) := by rw [HE2.out]; exact hS10
          clear hS10 S8 HE2 HSet
          generalize (if x1 < d then d else x1) = mx at *
          go_wp2
          go_roundw
          case rel => exact ⟨k + 1, by omega, by rw [← HJn.out], HS10.out⟩
          case measure => simp [intOf] <;> omega
        · have d2 : decide (ar ≤ x2) = false := by simpa using q2
          have HS2 := hideg (HSn.out q2)
          clear HSn HYes
          go_wp2_with fail
          go_quiet (fail)
          clear xa xb c0 c1 c2 c3 c4 c5 y0 y1 y2 y3 y4 hwas q2 d2
          go_wp2
          go_roundw
          case rel => exact ⟨k + 1, by omega, by rw [← HJn.out], HS2.out _⟩
          case measure => simp [intOf] <;> omega
      · have hke : rides.length = k := by omega
        have hm1 : (rides.length : Int) - 1 - (k : Int) = -1 := by omega
        rw [hm1]
        rw [← hke, List.take_of_length_le (by simp), ← HE.out] at S
        have HS := hideg S
        clear S hm1 hke
        go_wp2
        go_ret
        exact ⟨_, rfl, HS.out.t, HS.out.b⟩

/-- what Arrivals and Departures answer -/
def arrA (g : Gr) (v t : Int) : List Int := if placeE g v t = 0 then (erF g v t).1 else []
def depA (g : Gr) (v t : Int) : List Int := if placeE g v t = 0 then ltF g v t else []

set_option maxRecDepth 100000 in
set_option maxHeartbeats 1000000 in
theorem eArr_any (g : Gr) (la ea : Option Addr) (lc ec : Nat) (v t : Int) (w : World) (hG : GAt w la ea g) :
    Calls Try.prog 16 #[.agg #[.int .i64 g.hor, .slice la g.lives.length lc, .slice ea g.edges.length ec], .int .i64 v, .int .i64 t] w fun r w' => ∃ u, r = .returned (.tuple #[u, .int .i64 (placeE g v t)]) ∧ w'.ownsRow w.heap.size 3 1 u (arrA g v t).length ((arrA g v t).map (Value.int .i64)) ∧ Below w.heap.size w w' := by
  have B0 := gbx_start w g la ea lc ec 25
  have h1 := jcheck_any g la ea lc ec v t _ (hG.below B0.bel)
  by_cases e1 : placeE g v t = 0
  case neg =>
    have HP : Hid (arrA g v t = []) := by show _ = _; unfold arrA; rw [if_neg e1]
    have d1 : (placeE g v t != 0) = true := by simpa using e1
    generalize placeE g v t = n at *
    clear e1 hG
    go_enter Try.func16, Try.ntmps16
    go_wp2_with fail
    refine h1.mono ?_
    rintro r w1 ⟨rfl, hb1⟩
    have hbF := (B0.below hb1).bel
    clear h1 hb1 B0
    go_wp2
    (try simp only [Exit.inBlock, Exit.then]); refine bodyPost_ret (results_two_e rfl _ _ _) rfl ?_
    exact ⟨_, rfl, by rw [HP.out]; exact World.ownsRow_nil _ _ _ _, hbF⟩
  have HP : Hid (arrA g v t = (erF g v t).1) := by show _ = _; unfold arrA; rw [if_pos e1]
  have HL := hideg (erF_len g v t).1
  have h2 := fun W (hb : Below w.heap.size w W) => earliest_any g la ea lc ec v t W (hG.below hb) e1
  rw [e1] at h1 ⊢
  generalize (erF g v t).1 = T at *
  generalize (erF g v t).2 = L at *
  have HP2 := HP.out
  have HQ := hideg HP2
  clear hG e1 HP HP2
  go_enter Try.func16, Try.ntmps16
  go_wp2_with fail
  refine h1.mono ?_
  rintro r w1 ⟨rfl, hb1⟩
  have B1 := B0.below hb1
  have g0 := B1.c0
  have g1 := B1.c1
  have g2 := B1.c2
  have hbx := B1.bel
  clear h1 hb1 B0
  go_wp2_with fail
  refine (h2 _ hbx).mono ?_
  rintro r w2 ⟨m1, m2, rfl, hZ, _, hb2⟩
  have HZ := hideg (owns_base2 hZ hbx.size)
  have hbF := ptg hbx hb2
  clear h2 hZ hb2 g0 g1 g2 hbx B1
  go_wp2
  (try simp only [Exit.inBlock, Exit.then]); refine bodyPost_ret (results_two_e rfl _ _ _) rfl ?_
  exact ⟨_, rfl, by rw [HQ.out, HL.out]; exact HZ.out, hbF⟩

set_option maxRecDepth 100000 in
set_option maxHeartbeats 1000000 in
theorem eDep_any (g : Gr) (la ea : Option Addr) (lc ec : Nat) (v t : Int) (w : World) (hG : GAt w la ea g) :
    Calls Try.prog 18 #[.agg #[.int .i64 g.hor, .slice la g.lives.length lc, .slice ea g.edges.length ec], .int .i64 v, .int .i64 t] w fun r w' => ∃ u, r = .returned (.tuple #[u, .int .i64 (placeE g v t)]) ∧ w'.ownsRow w.heap.size 3 1 u (depA g v t).length ((depA g v t).map (Value.int .i64)) ∧ Below w.heap.size w w' := by
  have B0 := gbx_start w g la ea lc ec 25
  have h1 := jcheck_any g la ea lc ec v t _ (hG.below B0.bel)
  by_cases e1 : placeE g v t = 0
  case neg =>
    have HP : Hid (depA g v t = []) := by show _ = _; unfold depA; rw [if_neg e1]
    have d1 : (placeE g v t != 0) = true := by simpa using e1
    generalize placeE g v t = n at *
    clear e1 hG
    go_enter Try.func18, Try.ntmps18
    go_wp2_with fail
    refine h1.mono ?_
    rintro r w1 ⟨rfl, hb1⟩
    have hbF := (B0.below hb1).bel
    clear h1 hb1 B0
    go_wp2
    (try simp only [Exit.inBlock, Exit.then]); refine bodyPost_ret (results_two_e rfl _ _ _) rfl ?_
    exact ⟨_, rfl, by rw [HP.out]; exact World.ownsRow_nil _ _ _ _, hbF⟩
  have HP : Hid (depA g v t = ltF g v t) := by show _ = _; unfold depA; rw [if_pos e1]
  have HL := hideg (ltF_len g v t)
  have h2 := fun W (hb : Below w.heap.size w W) => latest_any g la ea lc ec v t W (hG.below hb) e1
  rw [e1] at h1 ⊢
  generalize ltF g v t = T at *
  have HP2 := HP.out
  have HQ := hideg HP2
  clear hG e1 HP HP2
  go_enter Try.func18, Try.ntmps18
  go_wp2_with fail
  refine h1.mono ?_
  rintro r w1 ⟨rfl, hb1⟩
  have B1 := B0.below hb1
  have g0 := B1.c0
  have g1 := B1.c1
  have g2 := B1.c2
  have hbx := B1.bel
  clear h1 hb1 B0
  go_wp2_with fail
  refine (h2 _ hbx).mono ?_
  rintro r w2 ⟨m1, rfl, hZ, hb2⟩
  have HZ := hideg (owns_base2 hZ hbx.size)
  have hbF := ptg hbx hb2
  clear h2 hZ hb2 g0 g1 g2 hbx B1
  go_wp2
  (try simp only [Exit.inBlock, Exit.then]); refine bodyPost_ret (results_two_e rfl _ _ _) rfl ?_
  exact ⟨_, rfl, by rw [HQ.out, HL.out]; exact HZ.out, hbF⟩

end Go.Proofs.Ythgelfnflafoiaf

namespace Go.Proofs.Ythgelfnflafoiaf
open Go.RowKit

/-- the first k and the last k of a list are turned round -/
def RevTo (l m : List Hp) (k : Nat) : Prop := m.length = l.length ∧ ∀ x, x < l.length → m.getD x (0, 0) = if x < k ∨ l.length ≤ x + k then l.getD (l.length - 1 - x) (0, 0) else l.getD x (0, 0)
theorem revTo_zero (l : List Hp) : RevTo l l 0 := ⟨rfl, fun x hx => by rw [if_neg (by omega)]⟩
theorem getD_setH (T : List Hp) (i j : Nat) (x d : Hp) (h : i < T.length) : (T.set i x).getD j d = if j = i then x else T.getD j d := by
  simp only [List.getD_eq_getElem?_getD, List.getElem?_set]
  by_cases e : i = j
  · subst e; simp [h]
  · have : ¬ j = i := fun h => e h.symm
    simp [e, this]
theorem revTo_step {l m : List Hp} {k J : Nat} (h : RevTo l m k) (hJ : J = l.length - 1 - k) (hk : k < J) : RevTo l ((m.set k (m.getD J (0, 0))).set J (m.getD k (0, 0))) (k + 1) := by
  have hl := h.1
  refine ⟨by simp [hl], fun x hx => ?_⟩
  rw [getD_setH _ _ _ _ _ (by simp [hl]; omega), getD_setH _ _ _ _ _ (by omega)]
  by_cases e1 : x = J
  · rw [if_pos e1, h.2 k (by omega), if_neg (by omega), if_pos (by omega)]
    congr 1; omega
  · rw [if_neg e1]
    by_cases e2 : x = k
    · rw [if_pos e2, h.2 J (by omega), if_neg (by omega), if_pos (by omega)]
      congr 1; omega
    · rw [if_neg e2, h.2 x hx]
      by_cases e3 : x < k ∨ l.length ≤ x + k
      · rw [if_pos e3, if_pos (by omega)]
      · rw [if_neg e3, if_neg (by omega)]
theorem revTo_end {l m : List Hp} {k : Nat} (h : RevTo l m k) (hk : l.length ≤ k + k + 1) : m = l.reverse := by
  apply List.ext_getElem (by simp [h.1])
  intro x h1 h2
  have hx : x < l.length := by rw [← h.1]; exact h1
  have := h.2 x hx
  rw [List.getD_eq_getElem?_getD, List.getElem?_eq_getElem h1, Option.getD_some] at this
  rw [this, List.getElem_reverse]
  have e : ∀ y (hy : y < l.length), l.getD y (0, 0) = l[y] := fun y hy => by rw [List.getD_eq_getElem?_getD, List.getElem?_eq_getElem hy]; rfl
  split
  · exact e _ (by omega)
  · rw [e x hx]
    congr 1
    omega
theorem encs_cons (x : Hp) (l : List Hp) : encs (x :: l) = .int .i64 x.1 :: .int .i64 x.2 :: encs l := by simp [encs, flat]
theorem encs_set : ∀ (m : List Hp) (k : Nat) (q : Hp), k < m.length → ((encs m).set (k * 2) (.int .i64 q.1)).set (k * 2 + 1) (.int .i64 q.2) = encs (m.set k q)
  | [], k, q, h => by simp at h
  | x :: m, 0, q, _ => by
    have e : (x :: m).set 0 q = q :: m := rfl
    rw [e, encs_cons, encs_cons]; rfl
  | x :: m, k + 1, q, h => by
    have ih := encs_set m k q (by simpa using h)
    have e : (x :: m).set (k + 1) q = x :: m.set k q := rfl
    rw [e, encs_cons, encs_cons, ← ih, show (k + 1) * 2 = k * 2 + 1 + 1 from by omega]
    rfl
/-- a row of hops, in memory of the call's own -/
abbrev Ho (w : World) (base gb n cap : Nat) (x : List Hp) : Prop := w.ownsRow base 37 2 (.slice (some ⟨gb, 0, none⟩) n cap) n (encs x)
theorem encs_len (l : List Hp) : (encs l).length = l.length * 2 := by
  induction l with
  | nil => rfl
  | cons x l ih => rw [encs_cons]; simp only [List.length_cons, ih]; omega
theorem Ho.len {w : World} {base gb n cap : Nat} {x : List Hp} (h : Ho w base gb n cap x) : x.length = n := by have := h.1; rw [encs_len] at this; omega
theorem encs_get (l : List Hp) (j : Nat) (h : j < l.length) : (encs l)[j * 2]? = some (.int .i64 (l.getD j (0, 0)).1) ∧ (encs l)[j * 2 + 1]? = some (.int .i64 (l.getD j (0, 0)).2) := by
  induction l generalizing j with
  | nil => simp at h
  | cons c l ih =>
    rw [encs_cons]
    cases j with
    | zero => exact ⟨rfl, rfl⟩
    | succ j =>
      have := ih j (by simpa using h)
      rw [show (j + 1) * 2 = j * 2 + 1 + 1 by omega]
      simpa using this
theorem Ho.one {w : World} {base gb n cap : Nat} {x : List Hp} (h : Ho w base gb n cap x) {k : Nat} (hk : k < n) : w.cell? ⟨gb, k * 2, none⟩ = some (.int .i64 (x.getD k (0, 0)).1) ∧ w.cell? ⟨gb, k * 2 + 1, none⟩ = some (.int .i64 (x.getD k (0, 0)).2) := by
  have hl := h.len
  obtain ⟨f0, f1⟩ := encs_get x k (by omega)
  exact ⟨by rw [World.ownsRow.cellAt h (k * 2) (by omega)]; exact f0, by rw [World.ownsRow.cellAt h (k * 2 + 1) (by omega)]; exact f1⟩
theorem Ho.set {w : World} {base gb n cap : Nat} {x : List Hp} (h : Ho w base gb n cap x) {k : Nat} (hk : k < n) (q : Hp) : Ho ((w.setCell ⟨gb, k * 2, none⟩ (.int .i64 q.1)).setCell ⟨gb, k * 2 + 1, none⟩ (.int .i64 q.2)) base gb n cap (x.set k q) := by
  have hl := h.len
  have h5 := (World.ownsRow.stored ((World.ownsRow.stored h (k * 2) (.int .i64 q.1)).1) (k * 2 + 1) (.int .i64 q.2)).1
  rw [encs_set x k q (by omega)] at h5
  exact h5

set_option maxRecDepth 100000 in
set_option maxHeartbeats 1000000 in
theorem Reverse_any (base gb cap : Nat) (l : List Hp) (w : World) (h : Ho w base gb l.length cap l) (hl : l.length ≤ 4000) :
    Calls Try.prog 36 #[.slice (some ⟨gb, 0, none⟩) l.length cap] w fun r w' => (∃ v, r = .returned v) ∧ Ho w' base gb l.length cap l.reverse ∧ Below base w w' := by
  have hbg : base ≤ gb := (World.ownsRow.lt h _ rfl).1
  have hwl : IntKind.i64.wrap ((l.length : Int) - 1) = (l.length : Int) - 1 := wrap_nj _ (by omega) (by omega)
  have HH := hideg h
  clear h
  go_enter Try.func36, Try.ntmps36
  go_wp2_with fail
  go_loopw [2, 3] (fun i j wr => ∃ (k : Nat) (m : List Hp), k ≤ l.length ∧ i = .int .i64 k ∧ j = .int .i64 ((l.length : Int) - 1 - (k : Int)) ∧ RevTo l m k ∧ Ho wr base gb l.length cap m ∧ Below base w wr) (fun i j _ => (intOf j + 1 - intOf i).toNat)
  case atStart => exact ⟨0, l, Nat.zero_le _, rfl, by simp, revTo_zero l, HH.out, Below.refl _ _⟩
  case round =>
    clear HH hwl
    obtain ⟨k, m, hk, rfl, rfl, hR, hO, hb⟩ := hrel
    have hml := hO.len
    by_cases hkJ : (k : Int) < (l.length : Int) - 1 - (k : Int)
    · obtain ⟨J, hJ⟩ : ∃ J : Nat, J = l.length - 1 - k := ⟨_, rfl⟩
      have hJi : (l.length : Int) - 1 - (k : Int) = (J : Int) := by omega
      have HJn : Hid ((J : Int) - 1 = (l.length : Int) - 1 - ((k + 1 : Nat) : Int)) := by show _ = _; omega
      have hkJn : k < J := by omega
      have hkl : k < l.length := by omega
      have hJl : J < l.length := by omega
      rw [hJi] at hkJ ⊢
      have HR2 := hideg (revTo_step hR hJ hkJn)
      have hO1 := hideg (fun (p q : Hp) => (hO.set hkl p).set hJl q)
      obtain ⟨ck0, ck1⟩ := hO.one hkl
      obtain ⟨cj0, cj1⟩ := hO.one hJl
      have fz := fun j => World.ownsRow.frozenAt hO j
      have hkli : (k : Int) < (l.length : Int) := by omega
      have hJli : (J : Int) < (l.length : Int) := by omega
      have hw1 : IntKind.i64.wrap ((k : Int) + 1) = (k : Int) + 1 := wrap_nj _ (by omega) (by omega)
      have hw2 : IntKind.i64.wrap ((J : Int) - 1) = (J : Int) - 1 := wrap_nj _ (by omega) (by omega)
      generalize m.getD k (0, 0) = P at *
      generalize m.getD J (0, 0) = Q at *
      clear hJ hJi hR
      have hBel : Hid (∀ x y z v, Below base w ((((wr.setCell ⟨gb, k * 2, none⟩ x).setCell ⟨gb, k * 2 + 1, none⟩ y).setCell ⟨gb, J * 2, none⟩ z).setCell ⟨gb, J * 2 + 1, none⟩ v).drew) := fun x y z v => ((((hb.setCell (p := ⟨gb, k * 2, none⟩) hbg x).setCell (p := ⟨gb, k * 2 + 1, none⟩) hbg y).setCell (p := ⟨gb, J * 2, none⟩) hbg z).setCell (p := ⟨gb, J * 2 + 1, none⟩) hbg v).drew
      obtain ⟨p1, p2⟩ := P
      obtain ⟨q1, q2⟩ := Q
      simp only at ck0 ck1 cj0 cj1 HR2
      go_wp2_with fail
      go_region
      have HF : Hid (Ho ((((wr.setCell ⟨gb, k * 2, none⟩ (.int .i64 q1)).setCell ⟨gb, k * 2 + 1, none⟩ (.int .i64 q2)).setCell ⟨gb, J * 2, none⟩ (.int .i64 p1)).setCell ⟨gb, J * 2 + 1, none⟩ (.int .i64 p2)).drew base gb l.length cap ((m.set k (q1, q2)).set J (p1, p2)) ∧ Below base w ((((wr.setCell ⟨gb, k * 2, none⟩ (.int .i64 q1)).setCell ⟨gb, k * 2 + 1, none⟩ (.int .i64 q2)).setCell ⟨gb, J * 2, none⟩ (.int .i64 p1)).setCell ⟨gb, J * 2 + 1, none⟩ (.int .i64 p2)).drew) := ⟨(hO1.out (q1, q2) (p1, p2)).drew, hBel.out _ _ _ _⟩
      clear hO1 hBel hO fz ck0 ck1 cj0 cj1
      generalize ((((wr.setCell ⟨gb, k * 2, none⟩ (.int .i64 q1)).setCell ⟨gb, k * 2 + 1, none⟩ (.int .i64 q2)).setCell ⟨gb, J * 2, none⟩ (.int .i64 p1)).setCell ⟨gb, J * 2 + 1, none⟩ (.int .i64 p2)).drew = w9 at *
      go_wp2
      go_roundw
      case rel => exact ⟨k + 1, _, by omega, by go_num, by rw [← HJn.out], HR2.out, HF.out.1, HF.out.2⟩
      case measure => simp [intOf] <;> omega
    · have hend : l.length ≤ k + k + 1 := by omega
      have HE : Hid (Ho wr base gb l.length cap l.reverse) := by rw [← revTo_end hR hend]; exact hO
      have hnk : ¬ (k : Int) < (l.length : Int) - 1 - (k : Int) := hkJ
      clear hR hO hend
      go_wp2_with fail
      refine bodyPost_end (results_none rfl _ _ _) rfl ⟨⟨_, rfl⟩, HE.out, hb⟩

set_option maxRecDepth 100000 in
theorem Reverse_nil (w : World) : Calls Try.prog 36 #[.slice none 0 0] w fun r w' => (∃ v, r = .returned v) ∧ w' = w := by
  go_enter Try.func36, Try.ntmps36
  go_wp2_with fail
  go_loopw [2, 3] (fun i j wr => i = .int .i64 0 ∧ j = .int .i64 (-1) ∧ wr = w) (fun i j _ => (intOf j + 1 - intOf i).toNat)
  case atStart => exact ⟨rfl, by simp, rfl⟩
  case round =>
    obtain ⟨rfl, rfl, rfl⟩ := hrel
    go_wp2_with fail
    refine bodyPost_end (results_none rfl _ _ _) rfl ⟨⟨_, rfl⟩, rfl⟩

end Go.Proofs.Ythgelfnflafoiaf

namespace Go.Proofs.Ythgelfnflafoiaf
open Go.RowKit

theorem Try.infoHopE : (Try.prog.info? 37).map (fun i => (i.zero, i.size, i.bytes)) = some (some (.agg #[.int .i64 0, .int .i64 0]), 2, 16) := by kernel_rfl
/-- the way back from a vertex, along the last rides: hop by hop -/
def trF (L : List Ri) (v : Int) : Nat → Int → List Hp
  | 0, _ => []
  | f + 1, x => if x = v then [] else ((L.getD x.toNat (0, 0, 0, 0, 0, 0)).1, (L.getD x.toNat (0, 0, 0, 0, 0, 0)).2.1) :: trF L v f (L.getD x.toNat (0, 0, 0, 0, 0, 0)).2.2.1
theorem trF_at (L : List Ri) (v : Int) (f : Nat) : trF L v f v = [] := by cases f <;> simp [trF]
theorem trF_step (L : List Ri) {v x : Int} (f : Nat) (h : x ≠ v) : trF L v (f + 1) x = ((L.getD x.toNat (0, 0, 0, 0, 0, 0)).1, (L.getD x.toNat (0, 0, 0, 0, 0, 0)).2.1) :: trF L v f (L.getD x.toNat (0, 0, 0, 0, 0, 0)).2.2.1 := by rw [trF, if_neg h]
/-- what Way tells -/
def WayIs (g : Gr) (v t q e : Int) (l : List Hp) : Prop :=
  (placeE g v t ≠ 0 ∧ e = placeE g v t ∧ l = []) ∨
  (placeE g v t = 0 ∧ (¬ (0 ≤ q ∧ q < g.lives.length) ∨ (erF g v t).1.getD q.toNat 0 = 1099511627776) ∧ e = 4 ∧ l = []) ∨
  (placeE g v t = 0 ∧ (0 ≤ q ∧ q < g.lives.length) ∧ (erF g v t).1.getD q.toNat 0 ≠ 1099511627776 ∧ e = 0 ∧ WayTo g (erF g v t).1 v q l ∧ l = (trF (erF g v t).2 v 300 q).reverse)

set_option maxRecDepth 100000 in
set_option maxHeartbeats 400000 in
theorem eWay_any (g : Gr) (la ea : Option Addr) (lc ec : Nat) (v t q : Int) (w : World) (hG : GAt w la ea g) :
    Calls Try.prog 23 #[.agg #[.int .i64 g.hor, .slice la g.lives.length lc, .slice ea g.edges.length ec], .int .i64 v, .int .i64 t, .int .i64 q] w fun r w' => ∃ u e l, r = .returned (.tuple #[u, .int .i64 e]) ∧ WayIs g v t q e l ∧ w'.ownsRow w.heap.size 37 2 u l.length (encs l) ∧ Below w.heap.size w w' := by
  obtain ⟨i0, hi, hz0, hz1, hz2⟩ := info_parts Try.infoHopE
  have B0 := gbx_start w g la ea lc ec 25
  have h1 := jcheck_any g la ea lc ec v t _ (hG.below B0.bel)
  by_cases e1 : placeE g v t = 0
  case neg =>
    have HP : Hid (WayIs g v t q (placeE g v t) []) := .inl ⟨e1, rfl, rfl⟩
    have d1 : (placeE g v t != 0) = true := by simpa using e1
    generalize placeE g v t = n at *
    clear e1 hG
    go_enter Try.func23, Try.ntmps23
    go_wp2_with fail
    refine h1.mono ?_
    rintro r w1 ⟨rfl, hb1⟩
    have hbF := (B0.below hb1).bel
    clear h1 hb1 B0
    go_wp2
    (try simp only [Exit.inBlock, Exit.then]); refine bodyPost_ret (results_two_e rfl _ _ _) rfl ?_
    exact ⟨_, _, _, rfl, HP.out, World.ownsRow_nil _ _ _ _, hbF⟩
  have HP2 : Hid ((¬ (0 ≤ q ∧ q < g.lives.length) ∨ (erF g v t).1.getD q.toNat 0 = 1099511627776) → WayIs g v t q 4 []) := fun h => .inr (.inl ⟨e1, h, rfl, rfl⟩)
  have HP3 : Hid ((0 ≤ q ∧ q < g.lives.length) → (erF g v t).1.getD q.toNat 0 ≠ 1099511627776 → ∀ l, WayTo g (erF g v t).1 v q l → l = (trF (erF g v t).2 v 300 q).reverse → WayIs g v t q 0 l) := fun h1 h2 l h h' => .inr (.inr ⟨e1, h1, h2, rfl, h, h'⟩)
  have h2 := fun W (hb : Below w.heap.size w W) => earliest_any g la ea lc ec v t W (hG.below hb) e1
  obtain ⟨hg0, ⟨hv0, hv1⟩, ht0, ht1⟩ := placeE_zero e1
  have hR := gChk_right hg0
  have hn12 := hR.lvs
  have hhor := hR.hor
  have HEr : Hid (aliveB t g.lives v = true → ErOk g v t (erF g v t)) := fun ha => (erF_ok hR hv0 ha).1
  have HAw : Hid (¬ aliveB t g.lives v = true → (erF g v t).1 = List.replicate g.lives.length 1099511627776) := fun ha => erF_away ha
  rw [e1] at h1
  have HRt := hideg hR
  clear hG e1 hg0 hR
  have hvq := fun W => gHasV_any g.hor la ea g.lives.length lc g.edges.length ec q W hn12
  by_cases bq : inR q 0 ((g.lives.length : Int) - 1) = true
  case neg =>
    rw [Bool.not_eq_true] at bq
    have HW := hideg (HP2.out (.inl (fun h => by rw [(inR_iff q 0 ((g.lives.length : Int) - 1)).2 (by omega)] at bq; cases bq)))
    rw [bq] at hvq
    clear HP2 HP3 h2 HEr HAw bq
    go_enter Try.func23, Try.ntmps23
    go_wp2_with fail
    refine h1.mono ?_
    rintro r w1 ⟨rfl, hb1⟩
    have B1 := B0.below hb1
    have g0 := B1.c0
    have g1 := B1.c1
    have g2 := B1.c2
    clear h1 hb1 B0
    go_wp2_with fail
    refine (hvq _).mono ?_
    rintro r w2 ⟨rfl, hb2⟩
    have hbF := (B1.below hb2).bel
    clear hvq hb2 B1 g0 g1 g2
    go_wp2
    (try simp only [Exit.inBlock, Exit.then]); refine bodyPost_ret (results_two_e rfl _ _ _) rfl ?_
    exact ⟨_, _, _, rfl, HW.out, World.ownsRow_nil _ _ _ _, hbF⟩
  have hq01 := (inR_iff q 0 ((g.lives.length : Int) - 1)).1 bq
  rw [bq] at hvq
  clear bq
  obtain ⟨Y, rfl⟩ : ∃ Y : Nat, q = (Y : Int) := ⟨q.toNat, by omega⟩
  have hY : Y < g.lives.length := by omega
  have hlT := (erF_len g v t).1
  have hlL := (erF_len g v t).2
  simp only [Int.toNat_natCast] at HP2 HP3
  obtain ⟨T, hT⟩ : ∃ T, T = (erF g v t).1 := ⟨_, rfl⟩
  obtain ⟨L, hL⟩ : ∃ L, L = (erF g v t).2 := ⟨_, rfl⟩
  have hTL : erF g v t = (T, L) := by rw [hT, hL]
  rw [← hT] at h2 HP2 HP3 HAw hlT
  rw [← hL] at h2 hlL HP3
  rw [hTL] at HEr
  clear hT hL hTL
  obtain ⟨y, hy⟩ : ∃ y, y = T.getD Y 0 := ⟨_, rfl⟩
  rw [← hy] at HP2 HP3
  by_cases e2 : y = 1099511627776
  · have HW := hideg (HP2.out (.inr e2))
    subst e2
    clear HP2 HP3 HEr HAw
    go_enter Try.func23, Try.ntmps23
    go_wp2_with fail
    refine h1.mono ?_
    rintro r w1 ⟨rfl, hb1⟩
    have B01 := B0.below hb1
    have g0 := B01.c0
    have g1 := B01.c1
    have g2 := B01.c2
    clear h1 hb1 B0
    go_wp2_with fail
    refine (hvq _).mono ?_
    rintro r w11 ⟨rfl, hb11⟩
    have B1 := B01.below hb11
    clear hvq hb11 B01 g0 g1 g2
    have g0 := B1.c0
    have g1 := B1.c1
    have g2 := B1.c2
    have hbx := B1.bel
    go_wp2_with fail
    refine (h2 _ hbx).mono ?_
    rintro r w2 ⟨m1, m2, rfl, hZ, _, hb2⟩
    have cY := hZ.cell hY
    rw [← hy] at cY
    have hbF := ptg hbx hb2
    clear h2 hZ hb2 g0 g1 g2 hbx B1 hy
    go_wp2
    (try simp only [Exit.inBlock, Exit.then]); refine bodyPost_ret (results_two_e rfl _ _ _) rfl ?_
    exact ⟨_, _, _, rfl, HW.out, World.ownsRow_nil _ _ _ _, hbF⟩
  have d2 : (y == 1099511627776) = false := by simpa using e2
  have hal : aliveB t g.lives v = true := by
    refine Classical.byContradiction fun h => e2 ?_
    rw [hy, HAw.out h, rep_getD _ _ _ hY]
  have HE := hideg (HEr.out hal)
  have HW := hideg (HP3.out ⟨by omega, by omega⟩ e2)
  have HY : Hid (T.getD Y 0 ≠ 1099511627776) := by rw [← hy]; exact e2
  clear HP2 HP3 HEr HAw hal e2
  obtain ⟨V, rfl⟩ : ∃ V : Nat, v = (V : Int) := ⟨v.toNat, by omega⟩
  go_enter Try.func23, Try.ntmps23
  go_wp2_with fail
  refine h1.mono ?_
  rintro r w1 ⟨rfl, hb1⟩
  have B01 := B0.below hb1
  have g0 := B01.c0
  have g1 := B01.c1
  have g2 := B01.c2
  clear h1 hb1 B0
  go_wp2_with fail
  refine (hvq _).mono ?_
  rintro r w11 ⟨rfl, hb11⟩
  have B1 := B01.below hb11
  clear hvq hb11 B01 g0 g1 g2
  have g0 := B1.c0
  have g1 := B1.c1
  have g2 := B1.c2
  have hbx := B1.bel
  go_wp2_with fail
  refine (h2 _ hbx).mono ?_
  rintro r w2 ⟨m1, m2, rfl, hZ, hLr, hb2⟩
  have cY := hZ.cell hY
  rw [← hy] at cY
  have HbF := hideg (ptg hbx hb2)
  have HLr := hideg hLr
  have HS1 := hideg hbx.size
  clear h2 hZ hb2 g0 g1 g2 hbx B1 hy hLr hlT hlL
  go_wp2_with fail
  go_loopw [13, 14] (fun u x wr => ∃ (X : Nat) (l : List Hp), X < g.lives.length ∧ x = .int .i64 X ∧ T.getD X 0 ≠ 1099511627776 ∧ WayTo g T X Y l.reverse ∧ (∀ f, trF L (V : Int) (f + l.length) (Y : Int) = l ++ trF L (V : Int) f (X : Int)) ∧ wr.ownsRow w2.heap.size 37 2 u l.length (encs l) ∧ Below w2.heap.size w2 wr) (fun _ x _ => (T.getD (intOf x).toNat 0).toNat)
  case atStart => exact ⟨Y, [], hY, rfl, HY.out, wayTo_nil g T Y, fun f => rfl, World.ownsRow_nil _ _ _ _, Below.refl _ _⟩
  case round =>
    clear cY d2
    obtain ⟨X, l, hX, rfl, hXi, hW, hTr, hown, hb⟩ := hrel
    have HTr := hideg hTr
    clear hTr
    have hTx : 0 ≤ T.getD X 0 ∧ T.getD X 0 < g.hor := by
      rcases HE.out.is X hX with e | e
      · exact absurd e hXi
      · have := e.place HRt.out (by omega); exact this.2.2
    have hTy : T.getD Y 0 < g.hor := by
      rcases HE.out.is Y hY with e | e
      · exact absurd e HY.out
      · have := e.place HRt.out (by omega); exact this.2.2.2
    have hll : l.length ≤ 200 := by
      have := hW.len
      simp only [Int.toNat_natCast, List.length_reverse] at this
      omega
    by_cases hXV : X = V
    · subst hXV
      have HWl := hideg (HW.out _ hW (by
        have h9 := HTr.out (300 - l.length)
        rw [trF_at, List.append_nil, show 300 - l.length + l.length = 300 by omega] at h9
        rw [h9]))
      have hbF : Below w.heap.size w wr := HbF.out.trans (hb.mono HbF.out.size)
      clear hW hXi hTx hTy
      rcases hown.2 with ⟨hu, h0⟩ | ⟨gb, cap, cur, hu, hgb, hh, h3, h4, h5, h6⟩
      · have hl0 : l = [] := List.eq_nil_of_length_eq_zero h0
        subst hl0
        subst hu
        have hRv := fun W => Reverse_nil W
        clear hown h0
        go_wp2_with fail
        refine (hRv _).mono ?_
        rintro r w5 ⟨⟨vv, rfl⟩, rfl⟩
        clear hRv
        go_wp2
        (try simp only [Exit.inBlock, Exit.then]); refine bodyPost_ret (results_two_e rfl _ _ _) rfl ?_
        exact ⟨_, _, _, rfl, HWl.out, World.ownsRow_nil _ _ _ _, hbF⟩
      · subst hu
        have hRv := Reverse_any w2.heap.size gb cap l wr hown (by omega)
        clear hown hh h6 h5 h3 h4 hgb
        go_wp2_with fail
        refine hRv.mono ?_
        rintro r w5 ⟨⟨vv, rfl⟩, hO5, hb5⟩
        have HO5 : Hid (w5.ownsRow w.heap.size 37 2 (.slice (some ⟨gb, 0, none⟩) l.length cap) l.reverse.length (encs l.reverse)) := by
          rw [List.length_reverse]; exact owns_base2 hO5 HbF.out.size
        have HB5 := hideg (HbF.out.trans ((hb.trans hb5).mono HbF.out.size))
        clear hRv hO5 hb5
        go_wp2
        (try simp only [Exit.inBlock, Exit.then]); refine bodyPost_ret (results_two_e rfl _ _ _) rfl ?_
        exact ⟨_, _, _, rfl, HWl.out, HO5.out, HB5.out⟩
    · have hXVi : ((X : Int) != (V : Int)) = true := by simp; omega
      obtain ⟨rOk, rTo, rAr, rFr⟩ := HE.out.way X hX hXi (by omega)
      simp only at rOk rTo rAr rFr
      have hLx := (HLr.out.one hX)
      unfold ri0 at hLx
      have HTs := hideg (fun f => trF_step L (v := (V : Int)) (x := (X : Int)) f (by omega))
      simp only [Int.toNat_natCast] at HTs
      generalize L.getD X (0, 0, 0, 0, 0, 0) = rr at *
      obtain ⟨E, d, a, b, ar, c⟩ := rr
      simp only at rTo rAr rFr
      have ha0 := rOk.a0
      simp only at ha0
      obtain ⟨A, rfl⟩ : ∃ A : Nat, a = (A : Int) := ⟨a.toNat, by omega⟩
      have hA : A < g.lives.length := by omega
      obtain ⟨hW2, hlt⟩ := hW.cons rOk rTo (by simpa using rAr) (by simpa using rFr)
      simp only [Int.toNat_natCast] at hlt hW2
      have HW2 : Hid (WayTo g T (A : Int) (Y : Int) (l ++ [(E, d)]).reverse) := by rw [List.reverse_append]; exact hW2
      have hAi : T.getD A 0 ≠ 1099511627776 := by omega
      have HTr2 : Hid (∀ f, trF L (V : Int) (f + (l ++ [(E, d)]).length) (Y : Int) = (l ++ [(E, d)]) ++ trF L (V : Int) f (A : Int)) := fun f => by
        have h9 := HTr.out (f + 1)
        have h10 := HTs.out f
        simp only at h10
        rw [h10] at h9
        rw [List.length_append, List.length_singleton, show f + (l.length + 1) = f + 1 + l.length by omega, h9, List.append_assoc]
        rfl
      clear HTs HTr
      have hTA : 0 ≤ T.getD A 0 := by
        rcases HE.out.is A hA with e | e
        · exact absurd e hAi
        · have := e.place HRt.out (by omega); exact this.2.2.1
      have hm2 := (World.ownsRow.lt HLr.out _ rfl).2
      have L5 := hLx.below hm2 hb
      have c0 := L5.c0
      have c1 := L5.c1
      have c2 := L5.c2
      simp only at c0 c1 c2
      have hXi2 : (X : Int) < (g.lives.length : Int) := by omega
      have hXn : (X : Int) ≠ (V : Int) := by omega
      have HBg : Hid (∀ (o : Obj) (w5 : World), (wr.alloc o).grownBy w5 u13.ownBlock → Below w2.heap.size w2 w5) := fun o w5 hgr => (hb.alloc hb.size o).grown hgr (by have := hb.size; simp at this ⊢; omega) (fun k hk => (hown.lt k hk).1)
      have HC : Hid (∀ w5, Below w2.heap.size w2 w5 → w5.cell? ⟨m2, X * 6 + 2, none⟩ = some (.int .i64 (A : Int))) := fun w5 h => (hLx.below hm2 h).c2
      have hs2 := hb.size
      have HT : Hid ((T.getD A 0).toNat < (T.getD X 0).toNat) := by show _ < _; omega
      clear hLx L5 rOk rTo rAr rFr hW hW2 hTy HE
      go_wp2_with (at_builtin; refine stopHereR ?_)
      refine hideg ?_
      refine wpList_append_own _ rfl _ _ 28 rfl w2.heap.size 37 i0 _ 2 16 Try.underlying28 hi hz0 hz1 hz2 rfl (by decide) _ _ _ rfl (World.ownsRow.alloc (w := wr) hown _) ⟨wr.heap.size, 0, none⟩ 1 1 [.int .i64 E, .int .i64 d] rfl rfl (cells_two_new _ _ _ _ _ (by simp)) (by intro u hu; simp at hu; rcases hu with rfl | rfl <;> rfl) (by unfold maxLen; omega) (by omega) (by simp; omega) ?_
      intro v' w5 hown5 hgrow _
      have hb' := HBg.out _ _ hgrow
      have c2' := HC.out _ hb'
      have R5 : w5.ownsRow w2.heap.size 37 2 v' (l ++ [(E, d)]).length (encs (l ++ [(E, d)])) := by
        rw [show encs (l ++ [(E, d)]) = encs l ++ [.int .i64 E, .int .i64 d] from by simp [encs, flat], List.length_append]; exact hown5
      have HR5 := hideg R5
      clear hgrow hown5 c0 c1 c2 HBg HC R5
      go_wp2
      go_roundw
      case rel => exact ⟨A, _, hA, rfl, hAi, HW2.out, HTr2.out, HR5.out, hb'⟩
      case measure => simpa [intOf] using HT.out

end Go.Proofs.Ythgelfnflafoiaf

namespace Go.Proofs.Ythgelfnflafoiaf
open Go.RowKit

theorem take_succI (l : List Int) (k : Nat) (h : k < l.length) : l.take (k + 1) = l.take k ++ [l[k]] := List.take_succ_eq_append_getElem h

set_option maxHeartbeats 2000000 in
theorem EqualI_any (ao bo : Option Addr) (ca cb : Nat) (a b : List Int) (w : World) (hA : ZsAt w ao a) (hB : ZsAt w bo b) (hl : a.length ≤ 9223372036854775807) :
    Calls Try.prog 21 #[.slice ao a.length ca, .slice bo b.length cb] w fun e w' => e = .returned (.bool (decide (a = b))) ∧ Below w.heap.size w w' := by
  by_cases hlen : a.length = b.length
  · have HLN : Hid (a.length = b.length) := hlen
    rw [← hlen]
    have hne : ((a.length : Int) != (a.length : Int)) = false := by simp
    clear hlen
    go_enter Try.func21, Try.ntmps21
    go_wp2
    go_loopw [5, 13] (fun _ i wr => ∃ k : Nat, k ≤ a.length ∧ i = .int .i64 k ∧ a.take k = b.take k ∧ Below w.heap.size w wr) (fun _ i _ => a.length - (intOf i).toNat)
    case atStart => exact ⟨0, Nat.zero_le _, rfl, rfl, Below.refl _ _⟩
    case round =>
      obtain ⟨k, hk, rfl, hh, hb⟩ := hrel
      have HH : Hid (a.take k = b.take k) := hh
      clear hh
      by_cases hlt : k < a.length
      · have hlt' : k < b.length := by have := HLN.out; omega
        rcases hA.below hb with h0 | ⟨b1, o1, rfl, hb1, hc1⟩
        · subst h0; simp at hlt
        rcases hB.below hb with h0 | ⟨b2, o2, rfl, hb2, hc2⟩
        · subst h0; simp at hlt'
        have c0 := hc1 k hlt
        have d0 := hc2 k hlt'
        rw [List.getD_eq_getElem?_getD, List.getElem?_eq_getElem hlt, Option.getD_some] at c0
        rw [List.getD_eq_getElem?_getD, List.getElem?_eq_getElem hlt', Option.getD_some] at d0
        clear hc1 hc2 hA hB
        by_cases g : a[k] = b[k]
        · have HC : Hid (a.take (k + 1) = b.take (k + 1)) := by show _ = _; rw [take_succI a k hlt, take_succI b k hlt', HH.out, g]
          have e1 : (a[k] != b[k]) = false := by simpa using g
          clear g
          go_wp2
          go_quiet (fail)
          go_wp2
          go_roundw
          case rel => exact ⟨k + 1, by omega, by go_num, HC.out, below_drewN hb _⟩
          case measure => simp [intOf]; omega
        · have HC : Hid (decide (a = b) = false) := by
            show _ = _
            rw [decide_eq_false_iff_not]
            intro h; subst h; exact g rfl
          have e1 : (a[k] != b[k]) = true := by simpa using g
          clear g
          go_wp2
          go_quiet (fail)
          go_wp2
          go_ret
          exact ⟨retp_bool HC.out.symm, below_drewN hb _⟩
      · have hkl : k = a.length := by omega
        have HC : Hid (decide (a = b) = true) := by
          show _ = _
          have := HH.out
          rw [hkl, List.take_length, HLN.out, List.take_length] at this
          rw [this]; simp
        go_wp2
        go_ret
        exact ⟨retp_bool HC.out.symm, hb⟩
  · have hne : ((a.length : Int) != (b.length : Int)) = true := by simp; omega
    have HC : Hid (decide (a = b) = false) := by
      show _ = _
      rw [decide_eq_false_iff_not]
      intro h; subst h; exact hlen rfl
    clear hlen
    go_enter Try.func21, Try.ntmps21
    go_wp2
    go_ret
    exact ⟨retp_bool HC.out.symm, Below.refl _ _⟩

end Go.Proofs.Ythgelfnflafoiaf

namespace Go.Proofs.Ythgelfnflafoiaf
open Go.RowKit

theorem pair_arr : arrA gPair 0 0 = [0, 4] := by decide +kernel
theorem pair_dep : depA gPair 1 5 = [2, 5] := by decide +kernel
theorem pair_p0 : placeE gPair 0 0 = 0 := by decide +kernel
theorem pair_p1 : placeE gPair 1 5 = 0 := by decide +kernel

theorem two_ints (w : World) (T : TypeId) (a b : Int) : ZsAt (w.alloc (.cells #[.int .i64 a, .int .i64 b] T)) (some ⟨w.heap.size, 0, none⟩) [a, b] := by
  refine .inr ⟨_, _, rfl, by simp, fun j hj => ?_⟩
  have hj' : j = 0 ∨ j = 1 := by simp at hj; omega
  rcases hj' with rfl | rfl
  · exact new_cell rfl rfl
  · exact new_cell rfl rfl

set_option maxRecDepth 100000 in
set_option maxHeartbeats 400000 in
theorem early0_any (w : World) : Calls Try.prog 15 #[] w fun r w' => r = .returned (.bool true) ∧ Below w.heap.size w w' := by
  have h1 := fun la ea W (hG : GAt W la ea gPair) => eArr_any gPair la ea 2 1 0 0 W hG
  have h2 := fun la ea W (hG : GAt W la ea gPair) => eDep_any gPair la ea 2 1 1 5 W hG
  rw [pair_arr, pair_p0] at h1
  rw [pair_dep, pair_p1] at h2
  have hp := fun W => pair_any W
  generalize gPair = gp at *
  have HP := hideg hp
  have H1 := hideg h1
  have H2 := hideg h2
  clear hp h1 h2
  go_enter Try.func15, Try.ntmps15
  go_wp2_with fail
  refine (HP.out _).mono ?_
  rintro r w1 ⟨la, ea, rfl, hG1, hb1⟩
  go_wp2_with fail
  refine (H1.out la ea _ hG1).mono ?_
  rintro r w2 ⟨u2, rfl, ho2, hb2⟩
  have hbb := ptg hb1 hb2
  clear hb1 hb2 hG1
  go_wp2_with fail
  refine (HP.out _).mono ?_
  rintro r w3 ⟨la3, ea3, rfl, hG3, hb3⟩
  have ho2 := ownsRow_below ho2 hb3
  go_wp2_with fail
  refine (H2.out la3 ea3 _ hG3).mono ?_
  rintro r w4 ⟨u4, rfl, ho4, hb4⟩
  have ho2 := ownsRow_below ho2 hb4
  have hbF := ptg hbb (ptg hb3 hb4)
  clear hb3 hb4 hbb hG3 HP H1 H2
  obtain ⟨a2, c2, rfl, z2⟩ := zsAt_of_owns ho2
  obtain ⟨a4, c4, rfl, z4⟩ := zsAt_of_owns ho4
  have hE1 := EqualI_any a2 (some ⟨w4.heap.size, 0, none⟩) c2 2 [0, 4] [0, 4] (w4.alloc (.cells #[.int .i64 0, .int .i64 4] 3)) (z2.below (gal _ _)) (two_ints _ _ _ _) (by simp)
  have hE2 := fun W (hb : Below w4.heap.size w4 W) => EqualI_any a4 (some ⟨W.heap.size, 0, none⟩) c4 2 [2, 5] [2, 5] (W.alloc (.cells #[.int .i64 2, .int .i64 5] 3)) (z4.below (ptg hb (gal _ _))) (two_ints _ _ _ _) (by simp)
  rw [show decide (([0, 4] : List Int) = [0, 4]) = true from by decide] at hE1
  rw [show decide (([2, 5] : List Int) = [2, 5]) = true from by decide] at hE2
  simp only [List.length_cons, List.length_nil, Nat.zero_add] at hE1 hE2
  have HE2 := hideg hE2
  clear hE2 z2 z4 ho2 ho4
  go_wp2_with fail
  refine hE1.mono ?_
  rintro r w5 ⟨rfl, hb5⟩
  have hb45 := ptg (gal w4 _) hb5
  have hE3 := HE2.out _ hb45
  have hbF5 := ptg hbF hb45
  clear hE1 hb5 HE2 hb45 hbF
  go_wp2_with fail
  refine hE3.mono ?_
  rintro r w6 ⟨rfl, hb6⟩
  have hbF6 := ptg hbF5 (ptg (gal w5 _) hb6)
  clear hE3 hb6 hbF5
  go_wp2
  go_ret
  exact ⟨rfl, hbF6⟩

/-- who starts later, where one could have waited, comes no earlier -/
theorem arr_later {g : Gr} (R : Right g) {v a b : Int} (h0 : 0 ≤ v) (hab : a ≤ b) (ha : aliveB a g.lives v = true) (x : Nat) (hx : x < g.lives.length) : (erF g v a).1.getD x 0 ≤ (erF g v b).1.getD x 0 := by
  obtain ⟨E, L⟩ := erF_ok R h0 ha
  have hle : (erF g v a).1.getD x 0 ≤ 1099511627776 := by
    rcases E.is x hx with e | e
    · omega
    · have := (e.place R h0).2.2.2; have := R.hor; omega
  by_cases hb : aliveB b g.lives v = true
  · obtain ⟨E2, _⟩ := erF_ok R h0 hb
    rcases E2.is x hx with e | e
    · rw [e]; exact hle
    · have := L x _ (((Rch.base ha).waits R hab hb).trans e)
      simpa using this
  · rw [erF_away hb, rep_getD _ _ _ hx]; exact hle
/-- by way of another vertex one comes no earlier -/
theorem arr_via {g : Gr} (R : Right g) {v t : Int} (h0 : 0 ≤ v) {m : Nat} (hm : m < g.lives.length) (hf : (erF g v t).1.getD m 0 ≠ 1099511627776) :
    (aliveB t g.lives v = true) ∧ (0 ≤ (erF g v t).1.getD m 0 ∧ (erF g v t).1.getD m 0 < g.hor) ∧ (erF g v t).1.getD v.toNat 0 = t ∧ ∀ x, x < g.lives.length → (erF g v t).1.getD x 0 ≤ (erF g m ((erF g v t).1.getD m 0)).1.getD x 0 := by
  have ha : aliveB t g.lives v = true := by
    refine Classical.byContradiction fun h => hf ?_
    rw [erF_away h, rep_getD _ _ _ hm]
  obtain ⟨E, L⟩ := erF_ok R h0 ha
  rcases E.is m hm with e | e
  · exact absurd e hf
  have hp := e.place R h0
  refine ⟨ha, hp.2.2, E.at0, fun x hx => ?_⟩
  obtain ⟨E2, _⟩ := erF_ok R (v := (m : Int)) (t := (erF g v t).1.getD m 0) (by omega) (e.alive R)
  rcases E2.is x hx with k | k
  · rw [k]
    rcases E.is x hx with q | q
    · omega
    · have := (q.place R h0).2.2.2; have := R.hor; omega
  · have := L x _ (e.trans k)
    simpa using this
/-- one comes by an end just if the latest time to be there is not earlier -/
theorem arr_back {g : Gr} (R : Right g) {v t q d : Int} (h0 : 0 ≤ v) (hq : 0 ≤ q) (hv1 : v < g.lives.length) (hq1 : q < g.lives.length) (ha : aliveB t g.lives v = true) (hb : aliveB d g.lives q = true) : (erF g v t).1.getD q.toNat 0 ≤ d ↔ t ≤ (ltF g q d).getD v.toNat 0 := by
  obtain ⟨E, L⟩ := erF_ok R h0 ha
  obtain ⟨F, M⟩ := ltF_ok R hq hb
  have hd := (alive_hor R hb).2
  have ht := (alive_hor R ha).2
  have hh := R.hor
  constructor
  · intro h
    rcases E.is q.toNat (by omega) with e | e
    · omega
    · rw [show ((q.toNat : Nat) : Int) = q by omega] at e
      exact M v t h0 (e.waits R h hb)
  · intro h
    rcases F.is v.toNat (by omega) with e | e
    · omega
    · rw [show ((v.toNat : Nat) : Int) = v by omega] at e
      exact L q d (((Rch.base ha).waits R h e.src).trans e)

end Go.Proofs.Ythgelfnflafoiaf

namespace Go.Proofs.Ythgelfnflafoiaf

theorem fastE_chk {g : Gr} {v q d a e : Int} (h : FastE g v q d a e) (h0 : gChk g ≠ 0) : d = 0 ∧ a = 0 ∧ e = gChk g := by
  rcases h with ⟨_, h1, h2, h3⟩ | ⟨h1, _⟩ | ⟨h1, _⟩
  · exact ⟨h2, h3, h1⟩
  · exact absurd h1 h0
  · exact absurd h1 h0
theorem fastE_out {g : Gr} {v q d a e : Int} (h : FastE g v q d a e) (h0 : gChk g = 0) (hn : ¬ ((0 ≤ v ∧ v < (g.lives.length : Int)) ∧ 0 ≤ q ∧ q < (g.lives.length : Int))) : d = 0 ∧ a = 0 ∧ e = 4 := by
  rcases h with ⟨h1, _⟩ | ⟨_, _, h1, h2, h3⟩ | ⟨_, h1, _⟩
  · exact absurd h0 h1
  · exact ⟨h2, h3, h1⟩
  · exact absurd h1 hn
theorem fastE_in {g : Gr} {v q d a e : Int} (h : FastE g v q d a e) (h0 : gChk g = 0) (hn : (0 ≤ v ∧ v < (g.lives.length : Int)) ∧ 0 ≤ q ∧ q < (g.lives.length : Int)) : FastIs g v q d a e := by
  rcases h with ⟨h1, _⟩ | ⟨_, h1, _⟩ | ⟨_, _, h1⟩
  · exact absurd h0 h1
  · exact absurd hn h1
  · exact h1
theorem leastE_ok {g : Gr} {pr : Ri → Int} {v t : Int} {L : List Int} (h : LeastE g pr v t L) (h0 : placeE g v t = 0) : LeastIs g pr v t L := by
  rcases h with ⟨h1, _⟩ | ⟨_, h1⟩
  · exact absurd h0 h1
  · exact h1
theorem leastE_bad {g : Gr} {pr : Ri → Int} {v t : Int} {L : List Int} (h : LeastE g pr v t L) (h0 : placeE g v t ≠ 0) : L = [] := by
  rcases h with ⟨_, h1⟩ | ⟨h1, _⟩
  · exact h1
  · exact absurd h1 h0


end Go.Proofs.Ythgelfnflafoiaf

namespace Go.Proofs.Ythgelfnflafoiaf
open Go.RowKit

theorem pair_least : LeastIs gPair prCost 0 0 [0, 7] := by
  have ha : aliveB 0 gPair.lives 0 = true := by decide
  have hb : Pay gPair prCost 0 0 0 0 0 := ⟨ha, .base (by unfold F1; rw [if_pos ⟨rfl, rfl⟩])⟩
  have h1 : Pay gPair prCost 0 0 0 (0 + 1) 0 := ⟨ha, .wait hb.2 (by decide)⟩
  have hm : ((0 : Int), (1 : Int), (0 : Int), (1 : Int), (4 : Int), (7 : Int)) ∈ ridesF gPair := by decide +kernel
  have h2 : Pay gPair prCost 0 0 1 4 7 := ⟨ha, Pd.ride hm h1.2⟩
  have hr : ∀ r ∈ ridesF gPair, (if r.2.2.2.1 = 1 then (7 : Int) else 0) ≤ (if r.2.2.1 = 1 then (7 : Int) else 0) + prCost r := by decide +kernel
  refine ⟨rfl, fun x hx => ?_, fun x hx t p hp => ?_⟩
  · have hx' : x = 0 ∨ x = 1 := by simp [gPair] at hx; omega
    rcases hx' with rfl | rfl
    · exact .inr ⟨0, hb⟩
    · exact .inr ⟨4, h2⟩
  · have hx' : x = 0 ∨ x = 1 := by simp [gPair] at hx; omega
    have := pay_bound (b := fun x => if x = 1 then (7 : Int) else 0) (by decide) hr hp
    rcases hx' with rfl | rfl
    · simpa using this
    · simpa using this
theorem pair_chk : gChk gPair = 0 := by decide +kernel
theorem pair_costs {L : List Int} (h : LeastE gPair prCost 0 0 L) : L = [0, 7] := least_unique (gChk_right pair_chk) (prCost_ok (gChk_right pair_chk)) (by omega) (leastE_ok h pair_p0) pair_least

set_option maxRecDepth 100000 in
set_option maxHeartbeats 1000000 in
theorem cheapBounds_walk (g : Gr) (la ea : Option Addr) (lc ec : Nat) (v t : Int) (w : World) (hG : GAt w la ea g) :
    Calls Try.prog 8 #[.agg #[.int .i64 g.hor, .slice la g.lives.length lc, .slice ea g.edges.length ec], .int .i64 v, .int .i64 t] w fun r w' => r = .returned (.bool true) ∧ Below w.heap.size w w' := by
  have B0 := gbx_start w g la ea lc ec 25
  have hp := fun W => pair_any W
  have HP1 := hideg (fun la ea W (hG : GAt W la ea gPair) => cCosts_any gPair la ea 2 1 0 0 W hG)
  rw [pair_p0] at HP1
  have HPc : Hid (∀ L, LeastE gPair prCost 0 0 L → L = [0, 7]) := fun L h => pair_costs h
  generalize gPair = gp at *
  have HC := hideg (fun W (hb : Below w.heap.size w W) => cCosts_any g la ea lc ec v t W (hG.below hb))
  have HH := hideg (fun W (hb : Below w.heap.size w W) => cHops_any g la ea lc ec v t W (hG.below hb))
  have HA := hideg (fun W (hb : Below w.heap.size w W) => eArr_any g la ea lc ec v t W (hG.below hb))
  have HW := hideg (fun (x : Nat) W (hb : Below w.heap.size w W) => eWay_any g la ea lc ec v t x W (hG.below hb))
  have HGo := hideg (fun ho hc l W (hb : Below w.heap.size w W) (hI : IvAt W ho l) (hl : l.length ≤ 500) => jGo_any g la ea lc ec v t ho hc l W (hG.below hb) hI (by omega))
  clear hG
  have HPp := hideg hp
  clear hp
  go_enter Try.func8, Try.ntmps8
  go_wp2_with fail
  refine (HPp.out _).mono ?_
  rintro r w1 ⟨la1, ea1, rfl, hG1, hb1⟩
  have B1 := B0.below hb1
  have h2 := HP1.out la1 ea1 w1 hG1
  clear hb1 B0 hG1 HPp HP1
  go_wp2_with fail
  refine h2.mono ?_
  rintro r w2 ⟨u2, L2, rfl, hE2, ho2, hb2⟩
  have e2 := HPc.out L2 hE2
  subst e2
  have B2 := B1.below hb2
  obtain ⟨a2, c2, rfl, z2⟩ := zsAt_of_owns ho2
  have hE1 := EqualI_any a2 (some ⟨w2.heap.size, 0, none⟩) c2 2 [0, 7] [0, 7] (w2.alloc (.cells #[.int .i64 0, .int .i64 7] 3)) (z2.below (gal _ _)) (two_ints _ _ _ _) (by simp)
  rw [show decide (([0, 7] : List Int) = [0, 7]) = true from by decide] at hE1
  simp only [List.length_cons, List.length_nil, Nat.zero_add] at hE1
  clear h2 hb2 B1 hE2 HPc ho2 z2
  go_wp2_with fail
  refine hE1.mono ?_
  rintro r w3 ⟨rfl, hb3⟩
  have B3 := B2.below (ptg (gal w2 _) hb3)
  have h4 := HC.out w3 B3.bel
  clear hE1 hb3 B2 HC
  have g0 := B3.c0
  have g1 := B3.c1
  have g2 := B3.c2
  go_wp2_with fail
  refine h4.mono ?_
  rintro r w4 ⟨uC, LC, rfl, hEC, hoC, hb4⟩
  have B4 := B3.below hb4
  have h5 := HH.out w4 B4.bel
  clear h4 hb4 B3 HH g0 g1 g2
  have g0 := B4.c0
  have g1 := B4.c1
  have g2 := B4.c2
  go_wp2_with fail
  refine h5.mono ?_
  rintro r w5 ⟨uH, LH, rfl, hEH, hoH, hb5⟩
  have B5 := B4.below hb5
  have hoC := ownsRow_below hoC hb5
  have h6 := HA.out w5 B5.bel
  clear h5 hb5 B4 HA g0 g1 g2
  have g0 := B5.c0
  have g1 := B5.c1
  have g2 := B5.c2
  go_wp2_with fail
  refine h6.mono ?_
  rintro r w6 ⟨uA, rfl, hoA, hb6⟩
  have B6 := B5.below hb6
  have hoC := ownsRow_below hoC hb6
  have hoH := ownsRow_below hoH hb6
  clear h6 hb6 B5 g0 g1 g2
  by_cases e1 : placeE g v t = 0
  case neg =>
    have d1 : (placeE g v t != 0) = true := by simpa using e1
    have d2 : (placeE g v t == placeE g v t) = true := by simp
    generalize placeE g v t = n at *
    have hbF := B6.bel
    clear e1 hEC hEH hoC hoH hoA B6 HW HGo
    go_wp2
    go_ret
    exact ⟨rfl, hbF⟩
  obtain ⟨hg0, ⟨hv0, hv1⟩, ht0, ht1⟩ := placeE_zero e1
  have hR := gChk_right hg0
  have hlen := hR.lvs
  have hhor := hR.hor
  have hC := leastE_ok hEC e1
  have hH := leastE_ok hEH e1
  have eA : arrA g v t = (erF g v t).1 := by unfold arrA; rw [if_pos e1]
  rw [eA, (erF_len g v t).1] at hoA
  rw [hC.len] at hoC
  rw [hH.len] at hoH
  have hn0 : 0 < g.lives.length := by omega
  rcases hoC.2 with ⟨_, h0⟩ | ⟨gC, cC, curC, rfl, _⟩
  · omega
  rcases hoH.2 with ⟨_, h0⟩ | ⟨gH, cH, curH, rfl, _⟩
  · omega
  rcases hoA.2 with ⟨_, h0⟩ | ⟨gA, cA, curA, rfl, _⟩
  · omega
  have lC := (World.ownsRow.lt hoC _ rfl).2
  have lH := (World.ownsRow.lt hoH _ rfl).2
  have lA := (World.ownsRow.lt hoA _ rfl).2
  have HCc := hideg (fun W (hb : Below w6.heap.size w6 W) (k : Nat) (hk : k < g.lives.length) => (hb.cell (p := ⟨gC, k, none⟩) lC).trans (Zo.cell hoC hk))
  have HHc := hideg (fun W (hb : Below w6.heap.size w6 W) (k : Nat) (hk : k < g.lives.length) => (hb.cell (p := ⟨gH, k, none⟩) lH).trans (Zo.cell hoH hk))
  have HAc := hideg (fun W (hb : Below w6.heap.size w6 W) (k : Nat) (hk : k < g.lives.length) => (hb.cell (p := ⟨gA, k, none⟩) lA).trans (Zo.cell hoA hk))
  -- what is told of one vertex
  have HV : Hid (∀ k, k < g.lives.length → (((LC.getD k 0 = 1099511627776 ∧ LH.getD k 0 = 1099511627776) ∧ (erF g v t).1.getD k 0 = 1099511627776) ∨ ((LC.getD k 0 ≠ 1099511627776 ∧ LH.getD k 0 ≠ 1099511627776) ∧ (erF g v t).1.getD k 0 ≠ 1099511627776 ∧ 0 ≤ LH.getD k 0 ∧ LH.getD k 0 ≤ 100000 ∧ LC.getD k 0 ≤ LH.getD k 0 * 1000 ∧ ∀ e l, WayIs g v t (k : Int) e l → e = 0 ∧ l.length ≤ 200 ∧ ∃ c, goAns g v t l = ((k : Int), (erF g v t).1.getD k 0, c, 0) ∧ LC.getD k 0 ≤ c ∧ LH.getD k 0 ≤ l.length))) := fun k hk => by
    obtain ⟨i1, i2, i3⟩ := inf_same hR (prCost_ok hR) hv0 hC hk
    obtain ⟨j1, j2, _⟩ := inf_same hR (prOne_ok g) hv0 hH hk
    by_cases hi : (erF g v t).1.getD k 0 = 1099511627776
    · exact .inl ⟨⟨i1.2 hi, j1.2 hi⟩, hi⟩
    · have hcn : LC.getD k 0 ≠ 1099511627776 := fun h => hi (i1.1 h)
      have hhn : LH.getD k 0 ≠ 1099511627776 := fun h => hi (j1.1 h)
      obtain ⟨hrch, hal⟩ := i3 hi
      refine .inr ⟨⟨hcn, hhn⟩, hi, (j2 hhn).1, (j2 hhn).2, ?_, fun e l hW => ?_⟩
      · rcases hH.is k hk with h | ⟨y, h⟩
        · exact absurd h hhn
        · obtain ⟨q, hq, hle⟩ := pay_both hR h
          have := hC.least k hk _ _ hq
          omega
      · rcases hW with ⟨h, _⟩ | ⟨_, h, _⟩ | ⟨_, _, _, rfl, hW, _⟩
        · exact absurd e1 h
        · rcases h with h | h
          · exact absurd ⟨by omega, by omega⟩ h
          · simp only [Int.toNat_natCast] at h; exact absurd h hi
        · have hE := (erF_ok hR hv0 hal).1
          have hl : l.length ≤ 200 := by
            have h1 := hW.len
            rw [hE.at0] at h1
            simp only [Int.toNat_natCast] at h1
            have h2 := (er_le hR (t := t) hv0 hk).2.2 hi
            omega
          obtain ⟨c, hgo⟩ := hW.go 0
          rw [hE.at0] at hgo
          simp only [Int.toNat_natCast] at hgo
          have hga := goAns_ok (s := (v, t, 0)) hg0 ⟨hv0, hv1, hal⟩ rfl (by omega) hgo
          obtain ⟨p1, p2⟩ := go_pays hR hv0 hal hgo
          exact ⟨rfl, hl, c, hga, hC.least k hk _ _ p1, hH.least k hk _ _ p2⟩
  generalize (erF g v t).1 = T at *
  rw [e1]
  have HB6 := hideg B6
  clear hEC hEH hC hH eA hoC hoH hoA B6 hR hg0 e1 hv0 hv1 ht0 ht1
  go_wp2_with fail
  go_loopw [76] (fun i wr => ∃ k : Nat, k ≤ g.lives.length ∧ i = .int .i64 k ∧ Below w6.heap.size w6 wr) (fun i _ => g.lives.length - (intOf i).toNat)
  case atStart => exact ⟨0, Nat.zero_le _, rfl, Below.refl _ _⟩
  case round =>
    obtain ⟨k, hk, rfl, hb⟩ := hrel
    by_cases hkl : k < g.lives.length
    · have hki : (k : Int) < (g.lives.length : Int) := by omega
      have hkw : IntKind.i64.wrap ((k : Int) + 1) = (k : Int) + 1 := wrap_nj _ (by omega) (by omega)
      have xC := HCc.out wr hb k hkl
      have xH := HHc.out wr hb k hkl
      have xA := HAc.out wr hb k hkl
      have hV := HV.out k hkl
      have HC7 := hideg (fun W (hW : Below w6.heap.size w6 W) => HCc.out W hW k hkl)
      have HH7 := hideg (fun W (hW : Below w6.heap.size w6 W) => HHc.out W hW k hkl)
      have HA7 := hideg (fun W (hW : Below w6.heap.size w6 W) => HAc.out W hW k hkl)
      have HWk := hideg (HW.out k)
      generalize LC.getD k 0 = cx at *
      generalize LH.getD k 0 = hx at *
      generalize T.getD k 0 = ax at *
      rcases hV with ⟨⟨rfl, rfl⟩, rfl⟩ | ⟨⟨hc, hh⟩, ha, hh0, hh1, hch, hW7⟩
      · have HBk : Hid (∀ N, Below w6.heap.size w6 (wr.drewN N)) := fun N => below_drewN hb N
        clear HC7 HH7 HA7 HWk hb
        go_wp2_with fail
        go_quiet (fail)
        go_wp2
        go_roundw
        case rel => exact ⟨k + 1, by omega, by go_num, HBk.out _⟩
        case measure => simp [intOf]; omega
      · have dc : (cx == 1099511627776) = false := by simpa using hc
        have dh : (hx == 1099511627776) = false := by simpa using hh
        have da : (ax == 1099511627776) = false := by simpa using ha
        have HW7 := hideg hW7
        have HBk : Hid (∀ N, Below w6.heap.size w6 (wr.drewN N)) := fun N => below_drewN hb N
        clear hW7
        go_wp2_with fail
        go_quiet (fail)
        generalize hwd : wr.drewN nq = wd
        have hbd : Below w6.heap.size w6 wd := by rw [← hwd]; exact HBk.out nq
        have xA' := HA7.out wd hbd
        have Bd := HB6.out.below hbd
        have h7 := HWk.out wd Bd.bel
        clear xC xH xA hwd HBk hb
        have g0 := Bd.c0
        have g1 := Bd.c1
        have g2 := Bd.c2
        go_wp2_with fail
        refine h7.mono ?_
        rintro r w7 ⟨u7, e7, l7, rfl, hI7, ho7, hb7⟩
        obtain ⟨rfl, hl7, c7, hga, hle1, hle2⟩ := HW7.out e7 l7 hI7
        obtain ⟨ho, hc7, rfl, hIv⟩ := ivAt_of_owns ho7
        have B7 := Bd.below hb7
        have hbx := hbd.trans (hb7.mono hbd.size)
        have h8 := HGo.out ho hc7 l7 w7 B7.bel hIv (by omega)
        rw [hga] at h8
        unfold goW at h8
        simp only at h8
        clear h7 hb7 hI7 ho7 hIv hga g0 g1 g2 xA' Bd hbd
        have g0 := B7.c0
        have g1 := B7.c1
        have g2 := B7.c2
        go_wp2_with fail
        refine h8.mono ?_
        rintro r w8 ⟨rfl, hb8⟩
        have hb8' := hbx.trans (hb8.mono hbx.size)
        have xC := HC7.out w8 hb8'
        have xH := HH7.out w8 hb8'
        have xA := HA7.out w8 hb8'
        have d1 : (ax != ax) = false := by simp
        have d2 : decide (c7 < cx) = false := by simp; omega
        have d3 : decide ((l7.length : Int) < hx) = false := by simp; omega
        have hw9 : IntKind.i64.wrap (hx * 1000) = hx * 1000 := wrap_nj _ (by omega) (by omega)
        have d4 : decide (hx * 1000 < cx) = false := by simp; omega
        have HBk : Hid (∀ N, Below w6.heap.size w6 (w8.drewN N)) := fun N => below_drewN hb8' N
        clear h8 hb8 hb8' hbx B7 g0 g1 g2 HC7 HH7 HA7 HWk HW7
        go_wp2_with fail
        go_quiet (fail)
        clear xC xH xA
        go_wp2
        go_roundw
        case rel => exact ⟨k + 1, by omega, by go_num, HBk.out _⟩
        case measure => simp [intOf]; omega
    · have hbF := HB6.out.bel.trans (hb.mono HB6.out.bel.size)
      go_wp2
      go_ret
      exact ⟨rfl, hbF⟩

end Go.Proofs.Ythgelfnflafoiaf

namespace Go.Proofs.Ythgelfnflafoiaf
open Go.ChangeShapes Go.WideShapes Go.ChangeAt Go.RowKit Go.Deep

theorem Try.own : ownKnob Try.prog.godebug = none := by kernel_rfl
theorem Try.laidOut : laidOutB Try.prog = true := by kernel_rfl
theorem Try.cellsIvl : Try.prog.cellsOf 55 = 2 := by kernel_rfl
theorem Try.cellsInt : Try.prog.cellsOf 3 = 1 := by kernel_rfl

theorem open_ivs {H : Type} {enc : TypeId × Value → H} {W : World} {a : Option Addr} {len cap : Nat} {d : DataW H} {ps : List MemPlace}
    (h : DataW.Trod enc Try.prog W 0 (fun _ => true) true 22 (.slice a len cap) d ps) : ∃ l : List (Int × Int), l.length = len ∧ IvAt W a l ∧ len ≤ cap ∧ cap ≤ 9223372036854775807 := by
  obtain ⟨fuel, hf⟩ := h
  rcases open_slice_pairs Try.underlying22 Try.underlying55 Try.cellsIvl rfl rfl Try.cellsInt Try.cellsInt hf with ⟨hcs, _⟩ | ⟨x, l, c, m, n, V0, V1, D0, D1, P0, P1, hcs, _, hl, hm, hmm, _, hcell⟩
  · simp [Value.cells] at hcs
    obtain ⟨rfl, rfl, rfl⟩ := hcs
    exact ⟨[], rfl, .inl rfl, Nat.le_refl _, by omega⟩
  · simp [Value.cells] at hcs
    obtain ⟨rfl, rfl, rfl⟩ := hcs
    simp only [if_true] at hmm
    subst hmm
    have each : ∀ i, i < len → ∃ q : Int × Int, W.cell? (x.add (i * 2)) = some (.int .i64 q.1) ∧ W.cell? (x.add (i * 2 + 1)) = some (.int .i64 q.2) := by
      intro i hi
      obtain ⟨h0, h1, t0, t1⟩ := hcell i (by omega)
      obtain ⟨z0, e0, _, _⟩ := DataW.trod_int Try.underlying3 t0
      obtain ⟨z1, e1, _, _⟩ := DataW.trod_int Try.underlying3 t1
      simp only [List.cons.injEq, and_true] at e0 e1
      exact ⟨(z0, z1), by rw [h0, e0], by rw [h1, e1]⟩
    obtain ⟨q, hq⟩ := choose_lt each
    refine ⟨(List.range len).map q, by simp, ?_, hl, by unfold maxLen at hm; omega⟩
    by_cases h0 : len = 0
    · subst h0; exact .inl (by simp)
    · obtain ⟨b, off, spot⟩ := x
      have hc0 := (hq 0 (by omega)).1
      have hspot : spot = none := by simpa [Addr.add] using World.cell?_spot hc0
      subst hspot
      have hlt := World.block_lt_of_cell? W _ hc0
      refine .inr ⟨b, off, rfl, by simpa [Addr.add] using hlt, fun j hj => ?_⟩
      simp only [List.length_map, List.length_range] at hj
      have hg : ((List.range len).map q).getD j (0, 0) = q j := by simp [List.getD_eq_getElem?_getD, hj]
      rw [hg]
      have := hq j hj
      rw [add_plain, add_plain] at this
      simpa [Nat.add_assoc] using this

end Go.Proofs.Ythgelfnflafoiaf

namespace Go.Proofs.Ythgelfnflafoiaf
open Go.ChangeShapes Go.WideShapes Go.ChangeAt Go.RowKit Go.Deep

theorem Try.cellsLeg : Try.prog.cellsOf 70 = 4 := by kernel_rfl
theorem Try.cellsEdge : Try.prog.cellsOf 73 = 3 := by kernel_rfl
theorem Try.cellsGraph : Try.prog.cellsOf 25 = 3 := by kernel_rfl
theorem Try.cellsLegs : Try.prog.cellsOf 71 = 1 := by kernel_rfl
theorem Try.cellsIvls : Try.prog.cellsOf 22 = 1 := by kernel_rfl
theorem Try.cellsEdges : Try.prog.cellsOf 23 = 1 := by kernel_rfl

theorem open_ivs_c {H : Type} {enc : TypeId × Value → H} {W : World} {fuel : Nat} {cs : List Value} {d : DataW H} {ps : List MemPlace}
    (hf : DataW.trod enc Try.prog W 0 (fun _ => true) true fuel 22 cs = some (d, ps)) : ∃ a cap, ∃ l : List (Int × Int), cs = [.slice a l.length cap] ∧ IvAt W a l ∧ l.length ≤ cap ∧ cap ≤ 9223372036854775807 := by
  have h : ∃ a n c, cs = [.slice a n c] := by
    rcases open_slice Try.underlying22 hf with ⟨hcs, _⟩ | ⟨x, l, c, m, n, D, Pl, hcs, _⟩
    · exact ⟨_, _, _, hcs⟩
    · exact ⟨_, _, _, hcs⟩
  obtain ⟨a, n, c, rfl⟩ := h
  obtain ⟨l, rfl, h1, h2, h3⟩ := open_ivs (a := a) (len := n) (cap := c) ⟨fuel, hf⟩
  exact ⟨a, c, l, rfl, h1, h2, h3⟩

set_option maxRecDepth 100000 in
theorem open_legs_c {H : Type} {enc : TypeId × Value → H} {W : World} {fuel : Nat} {cs : List Value} {d : DataW H} {ps : List MemPlace}
    (hf : DataW.trod enc Try.prog W 0 (fun _ => true) true fuel 71 cs = some (d, ps)) : ∃ a cap, ∃ l : List Lg, cs = [.slice a l.length cap] ∧ LgAt W a l ∧ l.length ≤ cap ∧ cap ≤ 9223372036854775807 := by
  rcases open_slice Try.underlying71 hf with ⟨hcs, _⟩ | ⟨x, len, cap, m, n, D, Pl, hcs, _, hl, hm, hmm, _, hx⟩
  · exact ⟨none, 0, [], hcs, .inl rfl, Nat.le_refl _, by omega⟩
  · simp only [if_true] at hmm
    subst hmm
    have each : ∀ i, i < len → ∃ q : Lg, W.cell? (x.add (i * 4)) = some (.int .i64 q.1) ∧ W.cell? (x.add (i * 4 + 1)) = some (.int .i64 q.2.1) ∧ W.cell? (x.add (i * 4 + 2)) = some (.int .i64 q.2.2.1) ∧ W.cell? (x.add (i * 4 + 3)) = some (.int .i64 q.2.2.2) := by
      intro i hi
      obtain ⟨cs', h1, h2⟩ := hx i (by omega)
      rw [Try.cellsLeg] at h1
      obtain ⟨_, hlen, hcell⟩ := World.cells?_some h1
      obtain ⟨xs, k, hk, hxy, _, hxl, hff⟩ := DataW.trod_struct Try.underlying70 h2
      match xs, hxl, cs', hlen with
      | [y0, y1, y2, y3], _, [v0, v1, v2, v3], _ =>
        have g0 := hff 0 _ rfl
        have g1 := hff 1 _ rfl
        have g2 := hff 2 _ rfl
        have g3 := hff 3 _ rfl
        simp [Try.cellsInt] at g0 g1 g2 g3
        have e0 := hcell 0 (by omega)
        have e1 := hcell 1 (by omega)
        have e2 := hcell 2 (by omega)
        have e3 := hcell 3 (by omega)
        rw [add_add] at e0 e1 e2 e3
        obtain ⟨z0, f0, _, _⟩ := DataW.trod_int Try.underlying3 g0
        obtain ⟨z1, f1, _, _⟩ := DataW.trod_int Try.underlying3 g1
        obtain ⟨z2, f2, _, _⟩ := DataW.trod_int Try.underlying3 g2
        obtain ⟨z3, f3, _, _⟩ := DataW.trod_int Try.underlying3 g3
        simp only [List.cons.injEq, and_true] at f0 f1 f2 f3
        subst f0
        subst f1
        subst f2
        subst f3
        exact ⟨(z0, z1, z2, z3), by simpa using e0, by simpa using e1, by simpa using e2, by simpa using e3⟩
    obtain ⟨q, hq⟩ := choose_lt each
    refine ⟨some x, m, (List.range len).map q, by rw [hcs]; simp, ?_, by simpa using hl, by unfold maxLen at hm; omega⟩
    by_cases h0 : len = 0
    · subst h0; exact .inl (by simp)
    · obtain ⟨b, off, spot⟩ := x
      have hc0 := (hq 0 (by omega)).1
      have hspot : spot = none := by simpa [Addr.add] using World.cell?_spot hc0
      subst hspot
      have hlt := World.block_lt_of_cell? W _ hc0
      refine .inr ⟨b, off, rfl, by simpa [Addr.add] using hlt, fun j hj => ?_⟩
      simp only [List.length_map, List.length_range] at hj
      have hg : ((List.range len).map q).getD j (0, 0, 0, 0) = q j := by simp [List.getD_eq_getElem?_getD, hj]
      rw [hg]
      have := hq j hj
      rw [add_plain, add_plain, add_plain, add_plain] at this
      simpa [Nat.add_assoc] using this

set_option maxRecDepth 100000 in
theorem open_eds_c {H : Type} {enc : TypeId × Value → H} {W : World} {fuel : Nat} {cs : List Value} {d : DataW H} {ps : List MemPlace}
    (hf : DataW.trod enc Try.prog W 0 (fun _ => true) true fuel 23 cs = some (d, ps)) : ∃ a cap, ∃ l : List Ed, cs = [.slice a l.length cap] ∧ EdAt W a l ∧ l.length ≤ cap ∧ cap ≤ 9223372036854775807 := by
  rcases open_slice Try.underlying23 hf with ⟨hcs, _⟩ | ⟨x, len, cap, m, n, D, Pl, hcs, _, hl, hm, hmm, _, hx⟩
  · exact ⟨none, 0, [], hcs, .inl rfl, Nat.le_refl _, by omega⟩
  · simp only [if_true] at hmm
    subst hmm
    have each : ∀ i, i < len → ∃ q : Ed, W.cell? (x.add (i * 3)) = some (.int .i64 q.1) ∧ W.cell? (x.add (i * 3 + 1)) = some (.int .i64 q.2.1) ∧ ∃ la lc, W.cell? (x.add (i * 3 + 2)) = some (.slice la q.2.2.length lc) ∧ LgAt W la q.2.2 ∧ q.2.2.length ≤ lc ∧ lc ≤ 9223372036854775807 := by
      intro i hi
      obtain ⟨cs', h1, h2⟩ := hx i (by omega)
      rw [Try.cellsEdge] at h1
      obtain ⟨_, hlen, hcell⟩ := World.cells?_some h1
      obtain ⟨xs, k, hk, hxy, _, hxl, hff⟩ := DataW.trod_struct Try.underlying73 h2
      match xs, hxl, cs', hlen with
      | [y0, y1, y2], _, [v0, v1, v2], _ =>
        have g0 := hff 0 _ rfl
        have g1 := hff 1 _ rfl
        have g2 := hff 2 _ rfl
        simp [Try.cellsInt, Try.cellsLegs] at g0 g1 g2
        have e0 := hcell 0 (by omega)
        have e1 := hcell 1 (by omega)
        have e2 := hcell 2 (by omega)
        rw [add_add] at e0 e1 e2
        obtain ⟨z0, f0, _, _⟩ := DataW.trod_int Try.underlying3 g0
        obtain ⟨z1, f1, _, _⟩ := DataW.trod_int Try.underlying3 g1
        obtain ⟨la, lc, ls, f2, hL, hn, hm'⟩ := open_legs_c (d := y2.1) (ps := y2.2) g2
        simp only [List.cons.injEq, and_true] at f0 f1 f2
        subst f0
        subst f1
        subst f2
        exact ⟨(z0, z1, ls), by simpa using e0, by simpa using e1, la, lc, by simpa using e2, hL, hn, hm'⟩
    obtain ⟨q, hq⟩ := choose_lt each
    refine ⟨some x, m, (List.range len).map q, by rw [hcs]; simp, ?_, by simpa using hl, by unfold maxLen at hm; omega⟩
    by_cases h0 : len = 0
    · subst h0; exact .inl (by simp)
    · obtain ⟨b, off, spot⟩ := x
      have hc0 := (hq 0 (by omega)).1
      have hspot : spot = none := by simpa [Addr.add] using World.cell?_spot hc0
      subst hspot
      have hlt := World.block_lt_of_cell? W _ hc0
      refine .inr ⟨b, off, rfl, by simpa [Addr.add] using hlt, fun j hj => ?_⟩
      simp only [List.length_map, List.length_range] at hj
      have hg : ((List.range len).map q)[j]'(by simpa using hj) = q j := by simp
      rw [hg]
      obtain ⟨r0, r1, la, lc, r2, r3⟩ := hq j hj
      rw [add_plain] at r0 r1 r2
      exact ⟨by simpa [Nat.add_assoc] using r0, by simpa [Nat.add_assoc] using r1, la, lc, by simpa [Nat.add_assoc] using r2, r3⟩

theorem three_ofG {α : Type} {cs : Array α} (h : cs.size = 3) : ∃ x y z, cs = #[x, y, z] := by
  obtain ⟨l⟩ := cs
  match l, h with
  | [x, y, z], _ => exact ⟨x, y, z, rfl⟩

set_option maxRecDepth 100000 in
theorem open_graph {H : Type} {enc : TypeId × Value → H} {W : World} {r : Reach} {b0 : Nat} {v : Value} {d : DataW H} {ps : List MemPlace}
    (hv : Value.okWide Try.prog W r b0 25 v) (h : DataW.Trod enc Try.prog W 0 (fun _ => true) true 25 v d ps) :
    ∃ (g : Gr) (la ea : Option Addr) (lc ec : Nat), v = .agg #[.int .i64 g.hor, .slice la g.lives.length lc, .slice ea g.edges.length ec] ∧ GAt W la ea g ∧ g.lives.length ≤ lc ∧ lc ≤ 9223372036854775807 := by
  obtain ⟨cs, rfl, hsz⟩ := okWide_struct Try.underlying25 hv
  obtain ⟨v0, v1, v2, rfl⟩ := three_ofG (hsz.trans Try.cellsGraph)
  obtain ⟨fuel, h2⟩ := h
  obtain ⟨xs, k, hk, hxy, _, hxl, hff⟩ := DataW.trod_struct Try.underlying25 h2
  match xs, hxl with
  | [y0, y1, y2], _ =>
    have g0 := hff 0 _ rfl
    have g1 := hff 1 _ rfl
    have g2 := hff 2 _ rfl
    simp [Try.cellsInt, Try.cellsIvls, Try.cellsEdges, Value.cells] at g0 g1 g2
    obtain ⟨z0, f0, _, _⟩ := DataW.trod_int Try.underlying3 g0
    obtain ⟨la, lc, ls, f1, hL, hn, hm⟩ := open_ivs_c (d := y1.1) (ps := y1.2) g1
    obtain ⟨ea, ec, es, f2, hE, hn2, hm2⟩ := open_eds_c (d := y2.1) (ps := y2.2) g2
    simp only [List.cons.injEq, and_true] at f0 f1 f2
    subst f0
    subst f1
    subst f2
    exact ⟨⟨z0, ls, es⟩, la, ea, lc, ec, rfl, ⟨hL, hE, by simp only; omega, by simp only; omega⟩, hn, hm⟩

end Go.Proofs.Ythgelfnflafoiaf

namespace Go.Proofs.Ythgelfnflafoiaf
open Go.ChangeShapes Go.WideShapes Go.ChangeAt Go.RowKit Go.Deep

set_option maxRecDepth 100000 in
theorem Try.cellsHop : Try.prog.cellsOf 37 = 2 := by kernel_rfl

set_option maxRecDepth 100000 in
theorem open_hops {H : Type} {enc : TypeId × Value → H} {W : World} {a : Option Addr} {len cap : Nat} {d : DataW H} {ps : List MemPlace}
    (h : DataW.Trod enc Try.prog W 0 (fun _ => true) true 28 (.slice a len cap) d ps) : ∃ l : List (Int × Int), l.length = len ∧ IvAt W a l ∧ len ≤ cap ∧ cap ≤ 9223372036854775807 := by
  obtain ⟨fuel, hf⟩ := h
  rcases open_slice_pairs Try.underlying28 Try.underlying37 Try.cellsHop rfl rfl Try.cellsInt Try.cellsInt hf with ⟨hcs, _⟩ | ⟨x, l, c, m, n, V0, V1, D0, D1, P0, P1, hcs, _, hl, hm, hmm, _, hcell⟩
  · simp [Value.cells] at hcs
    obtain ⟨rfl, rfl, rfl⟩ := hcs
    exact ⟨[], rfl, .inl rfl, Nat.le_refl _, by omega⟩
  · simp [Value.cells] at hcs
    obtain ⟨rfl, rfl, rfl⟩ := hcs
    simp only [if_true] at hmm
    subst hmm
    have each : ∀ i, i < len → ∃ q : Int × Int, W.cell? (x.add (i * 2)) = some (.int .i64 q.1) ∧ W.cell? (x.add (i * 2 + 1)) = some (.int .i64 q.2) := by
      intro i hi
      obtain ⟨h0, h1, t0, t1⟩ := hcell i (by omega)
      obtain ⟨z0, e0, _, _⟩ := DataW.trod_int Try.underlying3 t0
      obtain ⟨z1, e1, _, _⟩ := DataW.trod_int Try.underlying3 t1
      simp only [List.cons.injEq, and_true] at e0 e1
      exact ⟨(z0, z1), by rw [h0, e0], by rw [h1, e1]⟩
    obtain ⟨q, hq⟩ := choose_lt each
    refine ⟨(List.range len).map q, by simp, ?_, hl, by unfold maxLen at hm; omega⟩
    by_cases h0 : len = 0
    · subst h0; exact .inl (by simp)
    · obtain ⟨b, off, spot⟩ := x
      have hc0 := (hq 0 (by omega)).1
      have hspot : spot = none := by simpa [Addr.add] using World.cell?_spot hc0
      subst hspot
      have hlt := World.block_lt_of_cell? W _ hc0
      refine .inr ⟨b, off, rfl, by simpa [Addr.add] using hlt, fun j hj => ?_⟩
      simp only [List.length_map, List.length_range] at hj
      have hg : ((List.range len).map q).getD j (0, 0) = q j := by simp [List.getD_eq_getElem?_getD, hj]
      rw [hg]
      have := hq j hj
      rw [add_plain, add_plain] at this
      simpa [Nat.add_assoc] using this

set_option maxRecDepth 100000 in
theorem two_ofH {α : Type} {cs : Array α} (h : cs.size = 2) : ∃ x y, cs = #[x, y] := by
  obtain ⟨l⟩ := cs
  match l, h with
  | [x, y], _ => exact ⟨x, y, rfl⟩
set_option maxRecDepth 100000 in
theorem open_hop {H : Type} {enc : TypeId × Value → H} {W : World} {r : Reach} {b0 : Nat} {v : Value} {d : DataW H} {ps : List MemPlace}
    (hv : Value.okWide Try.prog W r b0 37 v) (h : DataW.Trod enc Try.prog W 0 (fun _ => true) true 37 v d ps) : ∃ p : Int × Int, v = .agg #[.int .i64 p.1, .int .i64 p.2] := by
  obtain ⟨cs, rfl, hsz⟩ := okWide_struct Try.underlying37 hv
  obtain ⟨v0, v1, rfl⟩ := two_ofH (hsz.trans Try.cellsHop)
  obtain ⟨fuel, h2⟩ := h
  obtain ⟨xs, k, hk, hxy, _, hxl, hff⟩ := DataW.trod_struct Try.underlying37 h2
  match xs, hxl with
  | [y0, y1], _ =>
    have g0 := hff 0 _ rfl
    have g1 := hff 1 _ rfl
    simp [Try.cellsInt, Value.cells] at g0 g1
    obtain ⟨z0, f0, _, _⟩ := DataW.trod_int Try.underlying3 g0
    obtain ⟨z1, f1, _, _⟩ := DataW.trod_int Try.underlying3 g1
    simp only [List.cons.injEq, and_true] at f0 f1
    subst f0
    subst f1
    exact ⟨(z0, z1), rfl⟩

set_option maxRecDepth 100000 in
theorem open_zs {H : Type} {enc : TypeId × Value → H} {W : World} {a : Option Addr} {len cap : Nat} {d : DataW H} {ps : List MemPlace}
    (h : DataW.Trod enc Try.prog W 0 (fun _ => true) true 26 (.slice a len cap) d ps) : ∃ l : List Int, l.length = len ∧ ZsAt W a l ∧ len ≤ cap ∧ cap ≤ 9223372036854775807 := by
  obtain ⟨fuel, hf⟩ := h
  rcases open_slice Try.underlying26 hf with ⟨hcs, _⟩ | ⟨x, l, c, m, n, D, Pl, hcs, _, hl, hm, hmm, _, hx⟩
  · simp [Value.cells] at hcs
    obtain ⟨rfl, rfl, rfl⟩ := hcs
    exact ⟨[], rfl, .inl rfl, Nat.le_refl _, by omega⟩
  · simp [Value.cells] at hcs
    obtain ⟨rfl, rfl, rfl⟩ := hcs
    simp only [if_true] at hmm
    subst hmm
    have each : ∀ i, i < len → ∃ q : Int, W.cell? (x.add i) = some (.int .i64 q) := by
      intro i hi
      obtain ⟨cs', h1, h2⟩ := hx i (by omega)
      rw [Try.cellsInt, Nat.mul_one] at h1
      obtain ⟨_, hlen, hcell⟩ := World.cells?_some h1
      obtain ⟨z0, f0, _, _⟩ := DataW.trod_int Try.underlying3 h2
      subst f0
      have e0 := hcell 0 (by simp)
      exact ⟨z0, by simpa [add_add] using e0⟩
    obtain ⟨q, hq⟩ := choose_lt each
    refine ⟨(List.range len).map q, by simp, ?_, hl, by unfold maxLen at hm; omega⟩
    by_cases h0 : len = 0
    · subst h0; exact .inl (by simp)
    · obtain ⟨b, off, spot⟩ := x
      have hc0 := hq 0 (by omega)
      have hspot : spot = none := by simpa [Addr.add] using World.cell?_spot hc0
      subst hspot
      have hlt := World.block_lt_of_cell? W _ hc0
      refine .inr ⟨b, off, rfl, by simpa [Addr.add] using hlt, fun j hj => ?_⟩
      simp only [List.length_map, List.length_range] at hj
      have := hq j hj
      rw [add_plain] at this
      simpa [hj] using this

end Go.Proofs.Ythgelfnflafoiaf

namespace Go.Proofs.Ythgelfnflafoiaf
open Go.ChangeShapes Go.WideShapes Go.ChangeAt Go.RowKit

set_option maxRecDepth 100000 in
theorem cheapBounds_lifted (os : Os) (started : os.Started) (H : Type) (enc : TypeId × Value → H) :
    ReturnsInHanded {} Try.checked os 8 .any (Rows.cheapBoundsSpec.pre6 enc Try.prog Try.f8 Rows.cheapBoundsRow.domain false) (Rows.cheapBoundsSpec.post enc Try.prog Try.f8 false true false false) := by
  refine returnsInHanded_of_change (C := Try.checked) Try.own started (by kernel_rfl) Try.func8
    (ChangeSpec.witness6 (enc := enc) (C := Try.checked) false ⟨#[], #[.agg #[.int .i64 0, .slice none 0 0, .slice none 0 0], .int .i64 0, .int .i64 0], []⟩ 8 (by kernel_rfl) (by kernel_rfl) (by kernel_rfl) (by kernel_rfl)) ?_
  intro W base args ds gs before hval0 hW hcnd _
  have hval : ∀ (j : Nat) t v, Try.f8.params[j]? = some t → args[j]? = some v → Value.okWide Try.prog W .any base t v := hval0
  have hW' := hW
  obtain ⟨p, q, hA0, hV, rfl, hfz, hnd⟩ := hW
  have hA : DataW.TrodAll enc Try.prog W 0 (fun _ => true) true Try.f8.params.toList args.toList ds p := hA0
  rw [Try.params8] at hA hval
  obtain ⟨v0, vs0, d0, ds0, p0, q0, hargs, rfl, rfl, h0, r0⟩ := trodAll_cons hA
  obtain ⟨v1, vs1, d1, ds1, p1, q1, rfl, rfl, rfl, h1, r1⟩ := trodAll_cons r0
  obtain ⟨v2, vs2, d2, ds2, p2, q2, rfl, rfl, rfl, h2, r2⟩ := trodAll_cons r1
  obtain ⟨rfl, rfl, rfl⟩ := trodAll_nil r2
  obtain rfl : args = #[v0, v1, v2] := by cases args; simp_all
  obtain ⟨rfl, rfl⟩ := trodVars_none hV
  have k0 := h0
  have lt0 : ∀ x ∈ p0, x.block < W.heap.size := by obtain ⟨m, hm⟩ := k0; exact DataW.trod_lt m _ _ _ hm
  obtain ⟨g0, la0, ea0, lc0, ec0, rfl, hG0, hl0, hm0⟩ := open_graph (hval 0 25 v0 rfl rfl) h0
  obtain ⟨t1, rfl, rfl, rfl, wt1⟩ := open_int Try.underlying3 (hval 1 3 v1 rfl rfl) h1
  obtain ⟨t2, rfl, rfl, rfl, wt2⟩ := open_int Try.underlying3 (hval 2 3 v2 rfl rfl) h2
  clear hA0 hval0
  refine (cheapBounds_walk g0 la0 ea0 lc0 ec0 t1 t2 W hG0).mono fun e W' ⟨he, bel⟩ => ?_
  subst he
  exact ⟨_, rfl, _, _, _, [], _, [], hW', trodAll_mk1 (shut_bool Try.underlying4 _), (trodAll_cons_mk (Below.trod Try.laidOut (by kernel_rfl) (of_decide_eq_true (by kernel_rfl)) k0 bel lt0) (trodAll_cons_mk (shut_int Try.underlying3 wt1) (trodAll_cons_mk (shut_int Try.underlying3 wt2) trodAll_mk0))), rfl, bel.frame _, fun h => by cases h⟩

theorem cheapBounds_holds : Rows.CheapBoundsSaid :=
  OpenClaim.holds_of_wide 8 Try.f8 rfl rfl rfl rfl rfl rfl rfl ⟨rfl, rfl, rfl, rfl, rfl⟩ rfl rfl rfl rfl rfl (by kernel_rfl) Try.func8 (by kernel_rfl)
    (of_decide_eq_true (by kernel_rfl)) (by unfold Func.isWrapper; first | (rw [if_pos (by decide +kernel)]; kernel_rfl) | (rw [if_neg (by decide +kernel)]; exact ⟨rfl, rfl⟩))
    (fun os started H enc _ => cheapBounds_lifted os started H enc)

end Go.Proofs.Ythgelfnflafoiaf
