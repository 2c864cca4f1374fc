/-
  Several texts in one: RSum, RArr, RArrF, RDep, ErRef, ErIdx, RGo, LawEWays, ChMath, ChMap, ChA, ChB, ChC, ChD, ChE, ChMat2, JpD.
-/
import Derived.Maps.OwnSet
import Derived.DeepKeys4
import Derived.Shelf.Abstract
import Derived.Test.YtkgbgkcbflicmacPk1
import Derived.Test.YtkgbgkcbflicmacPk2

namespace Go.Proofs.Ytkgbgkcbflicmac
open Go.RowKit

set_option maxRecDepth 100000 in
set_option maxHeartbeats 16000000 in
theorem Sums_any (g : Gr) (la ea : Option Addr) (lc ec : Nat) (v t : Int) (w : World) (hG : GAt w la ea g) (hpl : placeE g v t = 0) :
    Calls Try.prog 7 #[.agg #[.int .i64 g.hor, .slice la g.lives.length lc, .slice ea g.edges.length ec], .int .i64 v, .int .i64 t] w fun r w' => ∃ goC cC goH cH bc bh X Y, r = .returned (.tuple #[.slice (some ⟨goC, 0, none⟩) g.lives.length cC, .slice (some ⟨goH, 0, none⟩) g.lives.length cH]) ∧ TabM w' w.heap.size goC bc g.hor.toNat X ∧ TabM w' w.heap.size goH bh g.hor.toNat Y ∧ bc.length = g.lives.length ∧ bh.length = g.lives.length ∧ SumIs g v t X Y ∧ Below w.heap.size w w' := by
  obtain ⟨i0, hi, hz0, hz1, hz2⟩ := info_parts Try.infoInt
  obtain ⟨i1, hi', hy0, hy1, hy2⟩ := info_parts Try.infoInts
  obtain ⟨hg0, ⟨hv0, hv1⟩, ht0, ht1⟩ := placeE_zero hpl
  have hR := gChk_right hg0
  obtain ⟨V, rfl⟩ : ∃ V : Nat, v = (V : Int) := ⟨v.toNat, by omega⟩
  obtain ⟨T0, rfl⟩ : ∃ T0 : Nat, t = (T0 : Int) := ⟨t.toNat, by omega⟩
  obtain ⟨H, hH⟩ : ∃ H : Nat, H = g.hor.toNat := ⟨_, rfl⟩
  obtain ⟨n, hn⟩ : ∃ n : Nat, n = g.lives.length := ⟨_, rfl⟩
  have hHi : g.hor = (H : Int) := by have := hR.hor; omega
  have hH1 : 1 ≤ H ∧ H ≤ 100 := by have := hR.hor; omega
  have hn12 : n ≤ 12 := by have := hR.lvs; omega
  have hVn : V < n := by omega
  have hTH : T0 < H := by omega
  have hed := hR.eds
  obtain ⟨w1, hw1⟩ : ∃ x, x = w.alloc (.cells #[.int .i64 g.hor, .slice la g.lives.length lc, .slice ea g.edges.length ec] 25) := ⟨_, rfl⟩
  have B1 : GBox w w1 w.heap.size g la ea lc ec := by rw [hw1]; exact gbox_start w g la ea lc ec _
  have HB1 := hideg B1
  have HG := hideg hG
  have HRt := hideg hR
  have HHi := hideg hHi
  have HN := hideg hn
  have HHd := hideg hH
  have hw1s := hw1.symm
  have hbox : ∀ W, Below w1.heap.size w1 W → W.cell? ⟨w.heap.size, 0, none⟩ = some (.int .i64 (H : Int)) ∧ W.cell? ⟨w.heap.size, 1, none⟩ = some (.slice la n lc) ∧ W.cell? ⟨w.heap.size, 2, none⟩ = some (.slice ea g.edges.length ec) := fun W h => by
    have := B1.below h
    exact ⟨by rw [← hHi]; exact this.c0, by rw [hn]; exact this.c1, this.c2⟩
  have HBX := hideg hbox
  have hal0 : ∀ (vv : Nat) (tt : Int) (W : World), vv < n → Below w1.heap.size w1 W → Calls Try.prog 21 #[.agg #[.int .i64 (H : Int), .slice la n lc, .slice ea g.edges.length ec], .int .i64 vv, .int .i64 tt] W fun r w' => r = .returned (.bool (aliveB tt g.lives vv)) ∧ Below W.heap.size W w' := fun vv tt W hvv h => by
    have := Alive_any (H : Int) la ea lc g.edges.length ec g.lives vv tt W ((hG.below (B1.below h).bel).lv) (by omega) (by omega)
    rw [← hn] at this
    exact this
  have HAl := hideg hal0
  have hld0 : ∀ (ii : Nat) (tt : Int) (W : World) (hii : ii < g.edges.length), Below w1.heap.size w1 W → Calls Try.prog 23 #[.agg #[.int .i64 (H : Int), .slice la n lc, .slice ea g.edges.length ec], .int .i64 ii, .int .i64 tt] W fun r w' => r = .returned (landsV (lands g g.edges[ii] tt)) ∧ Below W.heap.size W w' := fun ii tt W hii h => by
    have := Lands_any g la ea lc ec ii tt W (hG.below (B1.below h).bel) hR hii
    rw [← hn, hHi] at this
    exact this
  have HLd := hideg hld0
  rw [← hn, ← hH]
  rw [hHi, ← hn] at hw1s
  rw [hHi]
  clear hG hpl hg0 hR hv1 ht1 hw1 B1 hHi hn hH hbox hal0 hld0
  go_enter Try.func7, Try.ntmps7
  go_wp2_with fail
  clear hw1s
  go_loopw [6, 7, 8] (fun uc uh i wr => ∃ (k : Nat) (bc bh : List (Nat × Nat)), k ≤ n ∧ i = .int .i64 k ∧ Hf w1 H uc uh bc bh k k wr) (fun _ _ i _ => n - (intOf i).toNat)
  case atStart => exact ⟨0, [], [], Nat.zero_le _, rfl, hf_start w1 H⟩
  case round =>
    obtain ⟨k, bc, bh, hk, rfl, hF⟩ := hrel
    obtain ⟨b0, b1, b2⟩ := HBX.out wr hF.bel
    by_cases hkn : k < n
    · obtain ⟨wo, hwo⟩ : ∃ x, x = wr := ⟨_, rfl⟩
      have HF := hideg hF
      rw [← hwo] at HF b0 b1 b2 ⊢
      clear hF hwo b2
      go_wp2_with fail
      go_loopw [9, 10, 11] (fun ua ub i wr => ∃ (j : Nat), j ≤ H ∧ i = .int .i64 j ∧ wr.ownsRow wo.heap.size 3 1 ua j ((infR j).map (Value.int .i64)) ∧ wr.ownsRow wo.heap.size 3 1 ub j ((infR j).map (Value.int .i64)) ∧ (ua.ownBlock = none ∨ ub.ownBlock = none ∨ ua.ownBlock ≠ ub.ownBlock) ∧ Below wo.heap.size wo wr) (fun _ _ i _ => H - (intOf i).toNat)
      case atStart => exact ⟨0, Nat.zero_le _, rfl, World.ownsRow_nil _ _ _ _, World.ownsRow_nil _ _ _ _, .inl rfl, Below.refl _ _⟩
      case round =>
        clear b0 b1
        obtain ⟨j, hj, rfl, hoa, hob, hap, hb⟩ := hrel
        have hsz := hb.size
        obtain ⟨b0, b1, _⟩ := HBX.out wr (HF.out.bel.trans (hb.mono HF.out.bel.size))
        by_cases hjH : j < H
        · have HI := hideg (infR_succ j)
          have HAP := hideg hap
          have HBb := hideg hb
          clear hap hb
          have HMid : Hid (∀ (ua' : Value) (w3 : World), (wr.alloc (.cells #[.int .i64 1099511627776] 3)).grownBy w3 u9.ownBlock → (ua'.ownBlock = u9.ownBlock ∨ ua'.ownBlock = some (wr.alloc (.cells #[.int .i64 1099511627776] 3)).heap.size) → w3.ownsRow wo.heap.size 3 1 u10 j ((infR j).map (Value.int .i64)) ∧ Below wo.heap.size wo w3 ∧ (ua'.ownBlock = none ∨ u10.ownBlock = none ∨ ua'.ownBlock ≠ u10.ownBlock)) := by
            intro ua' w3 hgr3 hat3
            refine ⟨?_, (HBb.out.alloc hsz _).grown hgr3 (by simp; omega) (fun q hq => (hoa.lt q hq).1), ?_⟩
            · refine World.ownsRow.kept (World.ownsRow.alloc (w := wr) hob _) hgr3 ?_
              rcases HAP.out with e | e | e
              · rw [e]
                cases u10.ownBlock with
                | none => exact .inl rfl
                | some q => right; intro h; cases h
              · exact .inl e
              · exact .inr (fun h => e h.symm)
            · rcases hat3 with e | e
              · rw [e]; exact HAP.out
              · right
                cases hq : u10.ownBlock with
                | none => exact .inl rfl
                | some q =>
                  right
                  rw [e]
                  intro h
                  have h2 := (hob.lt q hq).2
                  have h3 := Option.some.inj h
                  simp at h3
                  omega
          clear hob HAP
          go_wp2_with (first
            | (at_builtin; refine wpList_append_own_at _ rfl _ _ 28 rfl wo.heap.size 3 i0 (.int .i64 0) 1 8 Try.underlying28 hi hz0 hz1 hz2 rfl (by decide) u9 _ _ rfl (World.ownsRow.alloc (w := wr) hoa _) ⟨wr.heap.size, 0, none⟩ 1 1 [.int .i64 1099511627776] rfl rfl (cell_one_new _ _ _) (by intro u hu; simp at hu; subst hu; rfl) (by unfold maxLen; omega) (by omega) (by simp; omega) ?_; intro ua' w3 hoa3 hgr3 _ hat3; have HM3 := HMid.out ua' w3 hgr3 hat3; have hob3 := HM3.1; have hsz3 := HM3.2.1.size)
            | (at_builtin; revert hob3; intro hob3; refine wpList_append_own_at _ rfl _ _ 28 rfl wo.heap.size 3 i0 (.int .i64 0) 1 8 Try.underlying28 hi hz0 hz1 hz2 rfl (by decide) u10 _ _ rfl (World.ownsRow.alloc (w := w3) hob3 _) ⟨w3.heap.size, 0, none⟩ 1 1 [.int .i64 1099511627776] rfl rfl (cell_one_new _ _ _) (by intro u hu; simp at hu; subst hu; rfl) (by unfold maxLen; omega) (by omega) (by simp; omega) ?_; intro ub' w4 hob4 hgr4 _ hat4))
          have hap3 := HM3.2.2
          have hb3 := HM3.2.1
          have hoa4 : w4.ownsRow wo.heap.size 3 1 ua' (j + 1) ((infR j).map (Value.int .i64) ++ [.int .i64 1099511627776]) := by
            refine World.ownsRow.kept (World.ownsRow.alloc (w := w3) hoa3 _) hgr4 ?_
            rcases hap3 with e | e | e
            · exact .inl e
            · rw [e]
              cases ua'.ownBlock with
              | none => exact .inl rfl
              | some q => right; intro h; cases h
            · exact .inr e
          have hb4 : Below wo.heap.size wo w4 := (hb3.alloc hsz3 _).grown hgr4 (by simp; omega) (fun q hq => (hob3.lt q hq).1)
          have HAP4 : Hid (ua'.ownBlock = none ∨ ub'.ownBlock = none ∨ ua'.ownBlock ≠ ub'.ownBlock) := by
            rcases hat4 with e | e
            · rw [e]; exact hap3
            · cases hq : ua'.ownBlock with
              | none => exact .inl rfl
              | some q =>
                right; right
                rw [e]
                intro h
                have h2 := (hoa3.lt q hq).2
                have h3 := Option.some.inj h
                simp at h3
                omega
          rw [← HI.out] at hoa4 hob4
          clear hoa hoa3 hob3 hgr3 hat3 hgr4 hat4 hap3 hb3 HM3 HMid
          go_wp2
          go_roundw
          case rel => exact ⟨j + 1, by omega, by go_num, hoa4, hob4, HAP4.out, hb4⟩
          case measure => simp [intOf]; omega
        · have hje : H = j := by omega
          subst hje
          have FW := HF.out.below hb
          have hsw := FW.bel.size
          have hso := HF.out.bel.size
          rcases hoa.2 with ⟨_, h0⟩ | ⟨ga, ca, cura, e1, _⟩
          · omega
          rcases hob.2 with ⟨_, h0⟩ | ⟨gb, cb, curb, e2, _⟩
          · omega
          subst e1
          subst e2
          have hga := hoa.lt ga rfl
          have hgb := hob.lt gb rfl
          have hab : ga ≠ gb := by
            rcases hap with e | e | e
            · cases e
            · cases e
            · intro h; exact e (by rw [h]; rfl)
          have za : Zo wr w1.heap.size ga H ca (infR H) := owns_base2 hoa hso
          have zb : Zo wr w1.heap.size gb H cb (infR H) := owns_base2 hob hso
          have hna : ga ∉ bc.map Prod.fst ++ bh.map Prod.fst := fun h => by have := HF.out.old ga h; omega
          have hnb : gb ∉ bc.map Prod.fst ++ bh.map Prod.fst := fun h => by have := HF.out.old gb h; omega
          have hnb' : gb ∉ (bc ++ [(ga, ca)]).map Prod.fst ++ bh.map Prod.fst := by
            simp only [List.map_append, List.map_cons, List.map_nil, List.mem_append, List.mem_singleton, not_or] at hnb ⊢
            exact ⟨⟨hnb.1, fun h => hab h.symm⟩, hnb.2⟩
          have HMid : Hid (∀ (uc' : Value) (w3 : World), w3.ownsRow w1.heap.size 28 1 uc' (k + 1) (sls H bc ++ [.slice (some ⟨ga, 0, none⟩) H ca]) → (wr.alloc (.cells #[.slice (some ⟨ga, 0, none⟩) H ca] 28)).grownBy w3 u6.ownBlock → (uc'.ownBlock = u6.ownBlock ∨ uc'.ownBlock = some (wr.alloc (.cells #[.slice (some ⟨ga, 0, none⟩) H ca] 28)).heap.size) → Hf w1 H uc' u7 (bc ++ [(ga, ca)]) bh (k + 1) k w3 ∧ Zo w3 w1.heap.size gb H cb (infR H)) := fun uc' w3 h1 h2 h3 => ⟨FW.appC za hna h1 h2 h3, zo_kept (zb.below (pal _ _)) (ownsRow_below FW.oc (pal _ _)) h2⟩
          have HNB := hideg hnb'
          have foc := FW.oc
          clear hoa hob hap hb hga hgb hab za zb hna hnb hnb' HF
          go_wp2_with (first
            | (at_builtin; refine wpList_append_own_at _ rfl _ _ 29 rfl w1.heap.size 28 i1 (.slice none 0 0) 1 24 Try.underlying29 hi' hy0 hy1 hy2 rfl (by decide) u6 _ _ rfl (World.ownsRow.alloc (w := wr) foc _) ⟨wr.heap.size, 0, none⟩ 1 1 [.slice (some ⟨ga, 0, none⟩) H ca] rfl rfl (cell_one_new _ _ _) (by intro u hu; simp at hu; subst hu; rfl) (by unfold maxLen; omega) (by omega) (by simp; omega) ?_; intro uc' w3 hoc3 hgr3 _ hat3; have HM3 := HMid.out uc' w3 hoc3 hgr3 hat3; have foh := HM3.1.oh; have hsz3 := HM3.1.bel.size)
            | (at_builtin; revert foh; intro foh; refine wpList_append_own_at _ rfl _ _ 29 rfl w1.heap.size 28 i1 (.slice none 0 0) 1 24 Try.underlying29 hi' hy0 hy1 hy2 rfl (by decide) u7 _ _ rfl (World.ownsRow.alloc (w := w3) foh _) ⟨w3.heap.size, 0, none⟩ 1 1 [.slice (some ⟨gb, 0, none⟩) H cb] rfl rfl (cell_one_new _ _ _) (by intro u hu; simp at hu; subst hu; rfl) (by unfold maxLen; omega) (by omega) (by simp; omega) ?_; intro uh' w4 hoh4 hgr4 _ hat4))
          have F4 := HM3.1.appH HM3.2 HNB.out hoh4 hgr4 hat4
          clear foc foh hoc3 hgr3 hat3 HM3 hoh4 hgr4 hat4 HMid
          go_wp2
          go_roundw
          case rel => exact ⟨k + 1, _, _, by omega, by go_num, F4⟩
          case measure => simp [intOf]; omega
    · have hke : n = k := by omega
      subst hke
      obtain ⟨w2, hw2⟩ : ∃ x, x = wr := ⟨_, rfl⟩
      rw [← hw2] at hF b0 b1 b2 ⊢
      clear hw2
      rcases hF.oc.2 with ⟨_, h0⟩ | ⟨goC, cC, curC, e1, _⟩
      · omega
      rcases hF.oh.2 with ⟨_, h0⟩ | ⟨goH, cH, curH, e2, _⟩
      · omega
      subst e1
      subst e2
      obtain ⟨TC, TH, hD⟩ := hf_tab hF
      have hb2 := hF.bel
      have HD := hideg hD
      have HGE : Hid (∀ vv, vv < n → w1.heap.size ≤ bk bc vv ∧ w1.heap.size ≤ bk bh vv) := fun vv hvv => ⟨(World.ownsRow.lt (TC.inn vv (by rw [hD.lc]; exact hvv)) _ rfl).1, (World.ownsRow.lt (TH.inn vv (by rw [hD.lh]; exact hvv)) _ rfl).1⟩
      have HTC := hideg TC
      have HTH := hideg TH
      have hA1 := HAl.out V T0 w2 hVn hb2
      clear hF TC TH hD hk hkn
      go_wp2_with fail
      refine hA1.mono ?_
      rintro r w3 ⟨rfl, hb3⟩
      have hbb3 : Below w1.heap.size w1 w3 := hb2.trans (hb3.mono hb2.size)
      have TC3 := HTC.out.below hb3
      have TH3 := HTH.out.below hb3
      clear hA1 hb3 hb2 b0 b1 b2
      have HTC3 := hideg TC3
      have HTH3 := hideg TH3
      clear HTC HTH TC3 TH3
      cases halv : aliveB (T0 : Int) g.lives (V : Int) with
      | false =>
        have HAlv := hideg halv
        clear halv
        have hTt : ∀ v' t', v' < n → t' < H → tat (infT n H) v' t' = firstT g (V : Int) (T0 : Int) v' t' := fun v' t' h1 h2 => by
          rw [infT_at n H v' t' h1 h2]
          unfold firstT
          rw [if_neg (fun h => by have := HAlv.out; rw [h.1] at this; cases this)]
        have HSh := hideg (infT_shp n H)
        obtain ⟨X0, hX0⟩ : ∃ X, X = infT n H := ⟨_, rfl⟩
        rw [← hX0] at HTC3 HTH3 hTt HSh
        have HTt := hideg hTt
        obtain ⟨w4, hw4⟩ : ∃ x, x = w3 := ⟨_, rfl⟩
        rw [← hw4] at HTC3 HTH3 hbb3 ⊢
        clear hTt hw4 hX0
        go_wp2_with fail
        have hmf : ∀ (fn : Fn) (first cap : Array Value) (w : World), (Instr.makeFunc fn first cap).run Try.prog w = .ok (.func fn first cap) w := fun _ _ _ _ => rfl
        have eg : ∀ args w, (callFunc 22 args).run Try.prog w = .ok (.enter 22 args) w := enters_of Try.func22 (by kernel_rfl) rfl
        have HokC : Hid (∀ a ∈ allA g id H, JOk n H a) := by intro a ha; have := allA_ok HRt.out (pr := id) (fun c h0 h1 => ⟨h0, h1⟩) H (by rw [HHi.out]; omega) a ha; rw [← HN.out, ← HHd.out] at this; exact this
        have HokH : Hid (∀ a ∈ allA g (fun _ => 1) H, JOk n H a) := by intro a ha; have := allA_ok HRt.out (pr := fun _ => 1) (fun c h0 h1 => ⟨by omega, by omega⟩) H (by rw [HHi.out]; omega) a ha; rw [← HN.out, ← HHd.out] at this; exact this
        have Hf0 : Hid (∀ v' t', v' < n → t' < H → 0 ≤ firstT g (V : Int) (T0 : Int) v' t') := fun v' t' _ _ => firstT_lo g _ _ v' t'
        have Hf1 : Hid (∀ v' t', v' < n → t' < H → firstT g (V : Int) (T0 : Int) v' t' ≤ 1099511627776) := fun v' t' _ _ => firstT_hi g _ _ v' t'
        have HS0 := hideg (ss_box HTC3.out HTH3.out HD.out hbb3 true)
        have HSum : Hid (∀ X Y, JBest n H (firstT g (V : Int) (T0 : Int)) (allA g id H) X → JBest n H (firstT g (V : Int) (T0 : Int)) (allA g (fun _ => 1) H) Y → Tm n H X → Tm n H Y → Pr n H X Y → SumIs g (V : Int) (T0 : Int) X Y) := by
          intro X Y h1 h2 h3 h4 h5
          rw [HN.out, HHd.out] at h1 h2 h3 h4 h5
          exact ⟨h1, h2, h3, h4, h5⟩
        have HJ0 : Hid (∀ arcs, JMid n H (firstT g (V : Int) (T0 : Int)) arcs X0) := fun arcs => jmid_first HSh.out HTt.out
        have HT0 : Hid (Tm n H X0) := tm_first HTt.out (firstT_two g _ _)
        have HBw : Hid (∀ W, Below w1.heap.size w1 W → Below w.heap.size w W) := fun W h => (HB1.out.below h).bel
        clear hbb3 HTC3 HTH3 HSh HTt
        go_loopw [12] (fun pm wr => ∃ (Bm : Nat) (X Y : Tb) (ch : Bool), pm = .pointer (some ⟨Bm, 0, none⟩) ∧ SS w1 n H goC goH bc bh Bm X Y ch wr ∧ JMid n H (firstT g (V : Int) (T0 : Int)) (allA g id H) X ∧ JMid n H (firstT g (V : Int) (T0 : Int)) (allA g (fun _ => 1) H) Y ∧ Tm n H X ∧ Tm n H Y ∧ Pr n H X Y ∧ (ch = false → JBest n H (firstT g (V : Int) (T0 : Int)) (allA g id H) X ∧ JBest n H (firstT g (V : Int) (T0 : Int)) (allA g (fun _ => 1) H) Y)) (fun pm wr => 2 * (tsum (rdT wr bc H) + tsum (rdT wr bh H)) + flagAt wr pm)
        case atStart => exact ⟨w4.heap.size, X0, X0, true, rfl, HS0.out, HJ0.out _, HJ0.out _, HT0.out, HT0.out, pr_self n H X0, fun h => by cases h⟩
        case round =>
          clear HS0 HJ0 HT0
          obtain ⟨Bm, X, Y, ch, rfl, hS, hMX, hMY, hTX, hTY, hP, hBest⟩ := hrel
          have cm := hS.cell
          have fm := hS.frz
          cases ch with
          | false =>
            obtain ⟨bX, bY⟩ := hBest rfl
            have HR := hideg (HSum.out X Y bX bY hTX hTY hP)
            have HS := hideg hS
            clear hS hMX hMY hTX hTY hP hBest bX bY
            go_wp2
            go_ret2
            exact ⟨goC, cC, goH, cH, bc, bh, X, Y, rfl, HS.out.c.base HB1.out.bel.size, HS.out.y.base HB1.out.bel.size, HD.out.lc, HD.out.lh, HR.out, HBw.out _ HS.out.bel⟩
          | true =>
            have hS5 := hS.clear HD.out false
            have hR0 : RS w1 n H goC goH bc bh Bm (firstT g (V : Int) (T0 : Int)) (allA g id H) (allA g (fun _ => 1) H) X Y [] [] (wr.setCell ⟨Bm, 0, none⟩ (.bool false)) := ⟨X, Y, false, false, hS5, tn_start hMX, tn_start hMY, hTX, hTY, hP⟩
            have HR0 := hideg hR0
            have hmeas : 2 * (tsum (rdT wr bc H) + tsum (rdT wr bh H)) + flagAt wr (.pointer (some ⟨Bm, 0, none⟩)) = 2 * (tsum X + tsum Y) + 1 := by
              rw [hS.c.rd (by rw [hMX.shp.rows, HD.out.lc]), hS.y.rd (by rw [hMY.shp.rows, HD.out.lh]), hS.flag]; rfl
            have HMs := hideg hmeas
            clear hS hS5 hMX hMY hTX hTY hP hBest hR0 hmeas
            obtain ⟨w5, hw5⟩ : ∃ x, x = wr.setCell ⟨Bm, 0, none⟩ (.bool false) := ⟨_, rfl⟩
            rw [← hw5] at HR0
            have hw5s := hw5.symm
            clear hw5
            go_wp2_with fail
            clear hw5s
            go_loopw [14] (fun tt wr => ∃ k : Nat, k ≤ H ∧ tt = .int .i64 k ∧ RS w1 n H goC goH bc bh Bm (firstT g (V : Int) (T0 : Int)) (allA g id H) (allA g (fun _ => 1) H) X Y (allA g id k) (allA g (fun _ => 1) k) wr) (fun tt _ => H - (intOf tt).toNat)
            case atStart => exact ⟨0, Nat.zero_le _, rfl, HR0.out⟩
            case round =>
              clear HR0
              obtain ⟨k, hk, rfl, hRS⟩ := hrel
              have hbk : Below w1.heap.size w1 wr := by obtain ⟨_, _, _, _, S, _⟩ := hRS; exact S.bel
              obtain ⟨b0, b1, b2⟩ := HBX.out wr hbk
              have HRS := hideg hRS
              by_cases hkH : k < H
              · obtain ⟨wa, hwa⟩ : ∃ x, x = wr := ⟨_, rfl⟩
                rw [← hwa] at HRS b0 b1 b2 ⊢
                clear hRS hwa hbk
                have hkw : IntKind.i64.wrap ((k : Int) + 1) = (k : Int) + 1 := wrap_nr _ (by omega) (by omega)
                have HSt5 : Hid (RS w1 n H goC goH bc bh Bm (firstT g (V : Int) (T0 : Int)) (allA g id H) (allA g (fun _ => 1) H) X Y (allA g id k ++ waitA g k 0) (allA g (fun _ => 1) k ++ waitA g k 0) wa) := by
                  show RS _ _ _ _ _ _ _ _ _ _ _ _ _ _ _ _
                  rw [waitA, List.append_nil, List.append_nil]; exact HRS.out
                clear HRS
                go_wp2_with fail
                go_loopw [15] (fun vv wr => ∃ j : Nat, j ≤ n ∧ vv = .int .i64 j ∧ RS w1 n H goC goH bc bh Bm (firstT g (V : Int) (T0 : Int)) (allA g id H) (allA g (fun _ => 1) H) X Y (allA g id k ++ waitA g k j) (allA g (fun _ => 1) k ++ waitA g k j) wr) (fun vv _ => n - (intOf vv).toNat)
                case atStart => exact ⟨0, Nat.zero_le _, rfl, HSt5.out⟩
                case round =>
                  clear HSt5 b0 b1 b2
                  obtain ⟨j, hj, rfl, hRS⟩ := hrel
                  have hbk : Below w1.heap.size w1 wr := by obtain ⟨_, _, _, _, S, _⟩ := hRS; exact S.bel
                  obtain ⟨b0, b1, b2⟩ := HBX.out wr hbk
                  by_cases hjn : j < n
                  · obtain ⟨P, Q, cC', cH', hS, hTC, hTH, hTP, hTQ, hPQ⟩ := hRS
                    have c0 := hS.c.out j (by rw [HD.out.lc]; exact hjn)
                    have c1 := hS.c.cell (t := k) (by rw [HD.out.lc]; exact hjn) hkH
                    have hjl : j < g.lives.length := by rw [← HN.out]; exact hjn
                    have hji : (j : Int) < (n : Int) := by omega
                    have hki : (k : Int) < (H : Int) := by omega
                    have HS := hideg hS
                    have HTC := hideg hTC
                    have HTH := hideg hTH
                    have HTP := hideg hTP
                    have HTQ := hideg hTQ
                    have HPQ := hideg hPQ
                    clear hS hTC hTH hTP hTQ hPQ
                    by_cases hinf : tat P j k < 1099511627776
                    · have d1 : decide (tat P j k < 1099511627776) = true := by simpa using hinf
                      have hne : tat P j k ≠ 1099511627776 := by omega
                      by_cases hk1 : k + 1 < H
                      · have d2 : decide ((k : Int) + 1 < (H : Int)) = true := by simp; omega
                        have hA := HAl.out j ((k : Int) + 1) wr hjn hbk
                        cases hal : aliveB ((k : Int) + 1) g.lives (j : Int) with
                        | false =>
                          have HW := hideg (waitA_no (g := g) (t := k) (k := j) (fun h => by rw [hal] at h; cases h.2))
                          rw [hal] at hA
                          clear hal
                          go_wp2_with fail
                          refine hA.mono ?_
                          rintro r w6 ⟨rfl, hb6⟩
                          have HRn : Hid (RS w1 n H goC goH bc bh Bm (firstT g (V : Int) (T0 : Int)) (allA g id H) (allA g (fun _ => 1) H) X Y (allA g id k ++ waitA g k (j + 1)) (allA g (fun _ => 1) k ++ waitA g k (j + 1)) w6) := by
                            show RS _ _ _ _ _ _ _ _ _ _ _ _ _ _ _ _
                            rw [HW.out, List.append_nil]; exact ⟨P, Q, cC', cH', HS.out.below hb6, HTC.out, HTH.out, HTP.out, HTQ.out, HPQ.out⟩
                          clear hA hb6 c0 c1 b0 b1 b2
                          go_wp2
                          go_roundw
                          case rel => exact ⟨j + 1, by omega, by go_num, HRn.out⟩
                          case measure => simp [intOf]; omega
                        | true =>
                          have hcond : ((k : Int) + 1 < g.hor) ∧ aliveB ((k : Int) + 1) g.lives (j : Int) = true := ⟨by rw [HHi.out]; omega, hal⟩
                          have HW := hideg (waitA_yes hcond)
                          have HmC := hideg (wait_mem (pr := id) (H := H) hkH hjl hcond)
                          have HmH := hideg (wait_mem (pr := fun _ => 1) (H := H) hkH hjl hcond)
                          rw [hal] at hA
                          clear hal hcond
                          go_wp2_with fail
                          refine hA.mono ?_
                          rintro r w6 ⟨rfl, hb6⟩
                          have S6 := HS.out.below hb6
                          obtain ⟨S7, RS8⟩ := ss_put S6 HTC.out HTH.out HTP.out HTQ.out HPQ.out HD.out HmC.out HmH.out HokC.out HokH.out Hf0.out ⟨rfl, rfl, rfl, rfl⟩ hH1.2 (show src P (j, k, j, k + 1, 0) ≠ 1099511627776 from hne) HGE.out
                          simp only [src, dst, Int.add_zero] at S7 RS8
                          have hp1 := sums1_any w1.heap.size goC cC bc H P j (k + 1) (tat P j k) Bm _ w6 S6.c (by rw [HD.out.lc]; exact hjn) hk1 S6.m (S6.far.2.2 j hjn).1
                          have hp2 := sums1_any w1.heap.size goH cH bh H Q j (k + 1) (tat Q j k) Bm _ _ S7.y (by rw [HD.out.lh]; exact hjn) hk1 S7.m (S7.far.2.2 j hjn).2
                          rw [HD.out.lc, show ((k + 1 : Nat) : Int) = (k : Int) + 1 from by omega] at hp1
                          rw [HD.out.lh, show ((k + 1 : Nat) : Int) = (k : Int) + 1 from by omega] at hp2
                          have x0 := S6.c.out j (by rw [HD.out.lc]; exact hjn)
                          have x1 := S6.c.cell (t := k) (by rw [HD.out.lc]; exact hjn) hkH
                          have y0 := S7.y.out j (by rw [HD.out.lh]; exact hjn)
                          have y1 := S7.y.cell (t := k) (by rw [HD.out.lh]; exact hjn) hkH
                          have HS7 := hideg S7
                          rw [List.append_assoc, List.append_assoc, ← HW.out] at RS8
                          have HRn := hideg RS8
                          generalize putW w6 (bk bc j) (k + 1) Bm (tat P j k) (tat P j (k + 1)) = w7 at *
                          clear hA hb6 c0 c1 b0 b1 b2 S6 S7 RS8
                          go_wp2_with fail
                          go_at_fn 22
                          refine hp1.mono ?_
                          rintro r w7' ⟨rfl, hw7⟩
                          have hw7s := hw7.symm
                          subst hw7s
                          clear hw7 hp1 x0 x1
                          go_wp2_with fail
                          go_at_fn 22
                          refine hp2.mono ?_
                          rintro r w8 ⟨rfl, hw8⟩
                          rw [← hw8] at HRn
                          clear hw8 hp2 y0 y1
                          go_wp2
                          go_roundw
                          case rel => exact ⟨j + 1, by omega, by go_num, HRn.out⟩
                          case measure => simp [intOf]; omega
                      · have d2 : decide ((k : Int) + 1 < (H : Int)) = false := by simp; omega
                        have HW := hideg (waitA_no (g := g) (t := k) (k := j) (fun h => by have := h.1; rw [HHi.out] at this; omega))
                        have HRn : Hid (RS w1 n H goC goH bc bh Bm (firstT g (V : Int) (T0 : Int)) (allA g id H) (allA g (fun _ => 1) H) X Y (allA g id k ++ waitA g k (j + 1)) (allA g (fun _ => 1) k ++ waitA g k (j + 1)) wr) := by
                          show RS _ _ _ _ _ _ _ _ _ _ _ _ _ _ _ _
                          rw [HW.out, List.append_nil]; exact ⟨P, Q, cC', cH', HS.out, HTC.out, HTH.out, HTP.out, HTQ.out, HPQ.out⟩
                        go_wp2
                        go_roundw
                        case rel => exact ⟨j + 1, by omega, by go_num, HRn.out⟩
                        case measure => simp [intOf]; omega
                    · have d1 : decide (tat P j k < 1099511627776) = false := by simpa using hinf
                      have hPi : tat P j k = 1099511627776 := by rcases HTP.out j k hjn hkH with e | e; exact e; omega
                      have hQi : tat Q j k = 1099511627776 := (HPQ.out j k hjn hkH).1 hPi
                      have HRn : Hid (RS w1 n H goC goH bc bh Bm (firstT g (V : Int) (T0 : Int)) (allA g id H) (allA g (fun _ => 1) H) X Y (allA g id k ++ waitA g k (j + 1)) (allA g (fun _ => 1) k ++ waitA g k (j + 1)) wr) := by
                        show RS _ _ _ _ _ _ _ _ _ _ _ _ _ _ _ _
                        by_cases hcond : ((k : Int) + 1 < g.hor) ∧ aliveB ((k : Int) + 1) g.lives (j : Int) = true
                        · rw [waitA_yes hcond, ← List.append_assoc, ← List.append_assoc]
                          exact ⟨P, Q, cC', cH', HS.out, tn_inf HTC.out (HokC.out _ (wait_mem hkH hjl hcond)) Hf1.out hPi, tn_inf HTH.out (HokH.out _ (wait_mem hkH hjl hcond)) Hf1.out hQi, HTP.out, HTQ.out, HPQ.out⟩
                        · rw [waitA_no hcond, List.append_nil]; exact ⟨P, Q, cC', cH', HS.out, HTC.out, HTH.out, HTP.out, HTQ.out, HPQ.out⟩
                      clear hinf hPi hQi
                      go_wp2
                      go_roundw
                      case rel => exact ⟨j + 1, by omega, by go_num, HRn.out⟩
                      case measure => simp [intOf]; omega
                  · clear b0 b1 b2
                    have hje : n = j := by omega
                    subst hje
                    obtain ⟨b0, b1, b2⟩ := HBX.out wr hbk
                    have HRS := hideg hRS
                    obtain ⟨wa2, hwa2⟩ : ∃ x, x = wr := ⟨_, rfl⟩
                    rw [← hwa2] at HRS b0 b1 b2 ⊢
                    clear hRS hwa2 hbk
                    have HSt6 : Hid (RS w1 n H goC goH bc bh Bm (firstT g (V : Int) (T0 : Int)) (allA g id H) (allA g (fun _ => 1) H) X Y (allA g id k ++ (waitA g k n ++ legA g id k 0)) (allA g (fun _ => 1) k ++ (waitA g k n ++ legA g (fun _ => 1) k 0)) wa2) := by
                      show RS _ _ _ _ _ _ _ _ _ _ _ _ _ _ _ _
                      rw [legA, legA, List.append_nil]; exact HRS.out
                    clear HRS
                    go_wp2_with fail
                    go_loopw [16] (fun ii wr => ∃ i : Nat, i ≤ g.edges.length ∧ ii = .int .i64 i ∧ RS w1 n H goC goH bc bh Bm (firstT g (V : Int) (T0 : Int)) (allA g id H) (allA g (fun _ => 1) H) X Y (allA g id k ++ (waitA g k n ++ legA g id k i)) (allA g (fun _ => 1) k ++ (waitA g k n ++ legA g (fun _ => 1) k i)) wr) (fun ii _ => g.edges.length - (intOf ii).toNat)
                    case atStart => exact ⟨0, Nat.zero_le _, rfl, HSt6.out⟩
                    case round =>
                      clear HSt6 b0 b1 b2
                      obtain ⟨i, hi6, rfl, hRS⟩ := hrel
                      have hbk : Below w1.heap.size w1 wr := by obtain ⟨_, _, _, _, S, _⟩ := hRS; exact S.bel
                      obtain ⟨b0, b1, b2⟩ := HBX.out wr hbk
                      by_cases hie : i < g.edges.length
                      · rcases (HG.out.below (HB1.out.below hbk).bel).ed with h0 | ⟨eb, eo, rfl, hebr, hec⟩
                        · rw [h0] at hie; simp at hie
                        obtain ⟨c0, c1, lo, lcap, c2, _⟩ := hec i hie
                        obtain ⟨hA, hB, _⟩ := HRt.out.ends g.edges[i] (List.getElem_mem hie)
                        obtain ⟨A, eA⟩ : ∃ A : Nat, g.edges[i].1 = (A : Int) := ⟨g.edges[i].1.toNat, by omega⟩
                        obtain ⟨B, eB⟩ : ∃ A : Nat, g.edges[i].2.1 = (A : Int) := ⟨g.edges[i].2.1.toNat, by omega⟩
                        have hAn : A < n := by have := HN.out; omega
                        have hBn : B < n := by have := HN.out; omega
                        have hii : (i : Int) < (g.edges.length : Int) := by omega
                        have hAi : (A : Int) < (n : Int) := by omega
                        have hBi : (B : Int) < (n : Int) := by omega
                        have hki : (k : Int) < (H : Int) := by omega
                        rw [eA] at c0
                        rw [eB] at c1
                        generalize hll : g.edges[i].2.2.length = ll at c2
                        have gx := pal wr (.cells #[.int .i64 (A : Int), .int .i64 (B : Int), .slice lo ll lcap] 51)
                        have hL := HLd.out i (k : Int) _ hie (hbk.trans (gx.mono hbk.size))
                        have hx0 : (wr.alloc (.cells #[.int .i64 (A : Int), .int .i64 (B : Int), .slice lo ll lcap] 51)).cell? ⟨wr.heap.size, 0, none⟩ = some (.int .i64 (A : Int)) := by simp
                        have hx1 : (wr.alloc (.cells #[.int .i64 (A : Int), .int .i64 (B : Int), .slice lo ll lcap] 51)).cell? ⟨wr.heap.size, 1, none⟩ = some (.int .i64 (B : Int)) := by simp
                        have hz6 : (wr.alloc (.cells #[.int .i64 (A : Int), .int .i64 (B : Int), .slice lo ll lcap] 51)).heap.size = wr.heap.size + 1 := by simp
                        obtain ⟨z0, z1, z2⟩ := HBX.out _ (hbk.trans (gx.mono hbk.size))
                        have HZ : Hid (∀ W, Below (wr.alloc (.cells #[.int .i64 (A : Int), .int .i64 (B : Int), .slice lo ll lcap] 51)).heap.size (wr.alloc (.cells #[.int .i64 (A : Int), .int .i64 (B : Int), .slice lo ll lcap] 51)) W → Below wr.heap.size wr W ∧ W.cell? ⟨wr.heap.size, 0, none⟩ = some (.int .i64 (A : Int)) ∧ W.cell? ⟨wr.heap.size, 1, none⟩ = some (.int .i64 (B : Int)) ∧ wr.heap.size < W.heap.size) := fun W h => ⟨ptw gx h, (h.cell (p := ⟨wr.heap.size, 0, none⟩) (by simp)).trans hx0, (h.cell (p := ⟨wr.heap.size, 1, none⟩) (by simp)).trans hx1, by have := h.size; rw [hz6] at this; omega⟩
                        have HRS := hideg hRS
                        unfold landsV at hL
                        clear hec hebr hA hB gx hRS hx0 hx1 hz6 hbk
                        obtain ⟨w6, hw6⟩ : ∃ x, x = wr.alloc (.cells #[.int .i64 (A : Int), .int .i64 (B : Int), .slice lo ll lcap] 51) := ⟨_, rfl⟩
                        rw [← hw6] at hL HZ z0 z1 z2
                        have hw6s := hw6.symm
                        clear hw6
                        cases hs : lands g g.edges[i] (k : Int) with
                        | none =>
                          have HW := hideg (legA_no (pr := id) hie hs)
                          have HW' := hideg (legA_no (pr := fun _ => 1) hie hs)
                          rw [hs] at hL
                          simp only [Option.getD_none, Option.isSome_none] at hL
                          clear hs eA eB hll
                          go_wp2_with fail
                          clear hw6s
                          refine hL.mono ?_
                          rintro r w7 ⟨rfl, hb7⟩
                          have HRn : Hid (RS w1 n H goC goH bc bh Bm (firstT g (V : Int) (T0 : Int)) (allA g id H) (allA g (fun _ => 1) H) X Y (allA g id k ++ (waitA g k n ++ legA g id k (i + 1))) (allA g (fun _ => 1) k ++ (waitA g k n ++ legA g (fun _ => 1) k (i + 1))) w7) := by
                            show RS _ _ _ _ _ _ _ _ _ _ _ _ _ _ _ _
                            rw [HW.out, HW'.out, List.append_nil, List.append_nil]; exact HRS.out.below (HZ.out _ hb7).1
                          clear hL hb7 b0 b1 b2 c0 c1 c2 z0 z1 z2
                          go_wp2
                          go_roundw
                          case rel => exact ⟨i + 1, by omega, by go_num, HRn.out⟩
                          case measure => simp [intOf]; omega
                        | some q =>
                          have HW := hideg (legA_yes (pr := id) hie hs)
                          have HW' := hideg (legA_yes (pr := fun _ => 1) hie hs)
                          have HmC := hideg (leg_mem (pr := id) (H := H) hkH hie hs)
                          have HmH := hideg (leg_mem (pr := fun _ => 1) (H := H) hkH hie hs)
                          obtain ⟨to, pc⟩ := q
                          rw [hs] at hL
                          simp only [Option.getD_some, Option.isSome_some] at hL
                          clear hs
                          rw [eA, eB] at HW HW' HmC HmH
                          simp only [Int.toNat_natCast] at HW HW' HmC HmH
                          have okC := HokC.out _ HmC.out
                          have ok1 := okC.t'
                          have ok2 := okC.lt
                          have ok3 := okC.p0
                          have ok4 := okC.p1
                          simp only [id] at ok1 ok2 ok3 ok4
                          obtain ⟨T, rfl⟩ : ∃ T : Nat, to = (T : Int) := ⟨to.toNat, by omega⟩
                          simp only [Int.toNat_natCast] at HW HW' HmC HmH ok1 ok2
                          have hTi : (T : Int) < (H : Int) := by omega
                          clear okC eA eB hll
                          go_wp2_with fail
                          clear hw6s
                          refine hL.mono ?_
                          rintro r w7 ⟨rfl, hb7⟩
                          obtain ⟨hb67, y0, y1, yl⟩ := HZ.out _ hb7
                          have hfar : bk bc B < wr.heap.size ∧ Bm < wr.heap.size := by obtain ⟨_, _, _, _, S0, _⟩ := HRS.out; exact ⟨(World.ownsRow.lt (S0.c.inn B (by rw [HD.out.lc]; exact hBn)) _ rfl).2, S0.lt⟩
                          obtain ⟨P, Q, cC', cH', hS, hTC, hTH, hTP, hTQ, hPQ⟩ := HRS.out.below hb67
                          have x0 := hS.c.out A (by rw [HD.out.lc]; exact hAn)
                          have x1 := hS.c.cell (t := k) (by rw [HD.out.lc]; exact hAn) hkH
                          have HS := hideg hS
                          have HTC := hideg hTC
                          have HTH := hideg hTH
                          have HTP := hideg hTP
                          have HTQ := hideg hTQ
                          have HPQ := hideg hPQ
                          clear hS hTC hTH hTP hTQ hPQ hL hb7 b0 b1 b2 c0 c1 c2 z0 z1 z2 HZ HRS
                          by_cases hinf : tat P A k < 1099511627776
                          · have d1 : decide (tat P A k < 1099511627776) = true := by simpa using hinf
                            have hne : tat P A k ≠ 1099511627776 := by omega
                            have hPlo : 0 ≤ tat P A k ∧ tat P A k ≤ 1000 * (k : Int) := by rcases HTP.out A k hAn hkH with e | e; exact absurd e hne; exact e
                            have hQne : tat Q A k ≠ 1099511627776 := fun e => hne ((HPQ.out A k hAn hkH).2 e)
                            have hQlo : 0 ≤ tat Q A k ∧ tat Q A k ≤ 1000 * (k : Int) := by rcases HTQ.out A k hAn hkH with e | e; exact absurd e hQne; exact e
                            have hwP : IntKind.i64.wrap (tat P A k + pc) = tat P A k + pc := wrap_nr _ (by omega) (by omega)
                            have hwQ : IntKind.i64.wrap (tat Q A k + 1) = tat Q A k + 1 := wrap_nr _ (by omega) (by omega)
                            go_wp2_with fail
                            have lA := (World.ownsRow.lt (HS.out.c.inn A (by rw [HD.out.lc]; exact hAn)) _ rfl).2
                            have lgo := HS.out.c.lt
                            have hne2 : Nonempty (HeldIn w7) := ⟨⟨_, Below.refl _ _⟩⟩
                            have f0 : ∀ s : HeldIn w7, s.w.cell? ⟨wr.heap.size, 0, none⟩ = some (.int .i64 (A : Int)) := fun s => (s.h.cell (p := ⟨wr.heap.size, 0, none⟩) yl).trans y0
                            have f1 : ∀ s : HeldIn w7, s.w.cell? ⟨wr.heap.size, 1, none⟩ = some (.int .i64 (B : Int)) := fun s => (s.h.cell (p := ⟨wr.heap.size, 1, none⟩) yl).trans y1
                            have f2 := fun s : HeldIn w7 => (s.h.cell (p := ⟨goC, A, none⟩) lgo).trans x0
                            have f3 := fun s : HeldIn w7 => (s.h.cell (p := ⟨bk bc A, k, none⟩) lA).trans x1
                            refine wp_region_held_back _ (Below.refl _ _) (by kernel_rfl) (by simp) (by kernel_rfl) (by kernel_rfl) (by kernel_rfl) ?_
                            simp only [List.pop_toArray, List.dropLast, List.back!_toArray, List.getLast!]
                            repeat (go_big_quiet_step (fail))
                            refine wpQuiet_nil ?_
                            rintro _ ⟨s, rfl⟩
                            refine back_last (fun K hK => ?_)
                            go_simp
                            have S6 := HS.out.below s.h
                            have SP := S6.putC HD.out HTC.out.mid.shp.rows (v := B) (t := T) hBn (tat P A k + pc) (HGE.out B hBn).1
                            have hp1 := sums1_any w1.heap.size goC cC bc H P B T (tat P A k + pc) Bm _ s.w S6.c (by rw [HD.out.lc]; exact hBn) ok1 S6.m (S6.far.2.2 B hBn).1
                            rw [HD.out.lc] at hp1
                            have k0 := f0 s
                            have k1 := f1 s
                            have yls : wr.heap.size < s.w.heap.size := Nat.lt_of_lt_of_le yl s.h.size
                            refine hp1.mono ?_
                            rintro r w8 ⟨rfl, hw8⟩
                            refine hK.out _ _ ?_
                            have m0 : w8.cell? ⟨wr.heap.size, 0, none⟩ = some (.int .i64 (A : Int)) := by rw [hw8]; exact (putW_far _ _ _ _ _ _ yls (by omega) (by omega)).trans k0
                            have m1 : w8.cell? ⟨wr.heap.size, 1, none⟩ = some (.int .i64 (B : Int)) := by rw [hw8]; exact (putW_far _ _ _ _ _ _ yls (by omega) (by omega)).trans k1
                            have yl8 : wr.heap.size < w8.heap.size := by rw [hw8]; exact Nat.lt_of_lt_of_le yls (putW_size _ _ _ _ _ _)
                            rw [← hw8] at SP
                            have x0' := SP.y.out A (by rw [HD.out.lh]; exact hAn)
                            have x1' := SP.y.cell (t := k) (by rw [HD.out.lh]; exact hAn) hkH
                            have lA' := (World.ownsRow.lt (SP.y.inn A (by rw [HD.out.lh]; exact hAn)) _ rfl).2
                            have lgo' := SP.y.lt
                            have HS8 := hideg SP
                            clear hw8 hp1 SP S6 k0 k1 yls hK K f0 f1 f2 f3 hne2 y0 y1 yl x0 x1 lA lgo
                            clear s
                            have hne3 : Nonempty (HeldIn w8) := ⟨⟨_, Below.refl _ _⟩⟩
                            have f0 : ∀ s : HeldIn w8, s.w.cell? ⟨wr.heap.size, 0, none⟩ = some (.int .i64 (A : Int)) := fun s => (s.h.cell (p := ⟨wr.heap.size, 0, none⟩) yl8).trans m0
                            have f1 : ∀ s : HeldIn w8, s.w.cell? ⟨wr.heap.size, 1, none⟩ = some (.int .i64 (B : Int)) := fun s => (s.h.cell (p := ⟨wr.heap.size, 1, none⟩) yl8).trans m1
                            have f2 := fun s : HeldIn w8 => (s.h.cell (p := ⟨goH, A, none⟩) lgo').trans x0'
                            have f3 := fun s : HeldIn w8 => (s.h.cell (p := ⟨bk bh A, k, none⟩) lA').trans x1'
                            go_wp2_with fail
                            refine wp_region_held_back _ (Below.refl _ _) (by kernel_rfl) (by simp) (by kernel_rfl) (by kernel_rfl) (by kernel_rfl) ?_
                            simp only [List.pop_toArray, List.dropLast, List.back!_toArray, List.getLast!]
                            repeat (go_big_quiet_step (fail))
                            refine wpQuiet_nil ?_
                            rintro _ ⟨s, rfl⟩
                            refine back_last (fun K hK => ?_)
                            go_simp
                            have S9 := HS8.out.below s.h
                            have hRn := ss_putB (a := (A, k, B, T, pc)) (b := (A, k, B, T, 1)) S9 HTC.out HTH.out HTP.out HTQ.out HPQ.out HD.out HmC.out HmH.out HokC.out HokH.out Hf0.out ⟨rfl, rfl, rfl, rfl⟩ hH1.2 (show src P (A, k, B, T, pc) ≠ 1099511627776 from hne) HGE.out
                            have hp2 := sums1_any w1.heap.size goH cH bh H Q B T (tat Q A k + 1) Bm _ s.w S9.y (by rw [HD.out.lh]; exact hBn) ok1 S9.m (S9.far.2.2 B hBn).2
                            rw [HD.out.lh] at hp2
                            refine hp2.mono ?_
                            rintro r w9 ⟨rfl, hw9⟩
                            refine hK.out _ _ ?_
                            have HRn : Hid (RS w1 n H goC goH bc bh Bm (firstT g (V : Int) (T0 : Int)) (allA g id H) (allA g (fun _ => 1) H) X Y (allA g id k ++ (waitA g k n ++ legA g id k (i + 1))) (allA g (fun _ => 1) k ++ (waitA g k n ++ legA g (fun _ => 1) k (i + 1))) w9) := by
                              show RS _ _ _ _ _ _ _ _ _ _ _ _ _ _ _ _
                              rw [HW.out, HW'.out, ← List.append_assoc (waitA g k n), ← List.append_assoc (waitA g k n), ← List.append_assoc (allA g id k), ← List.append_assoc (allA g (fun _ => 1) k), hw9]
                              exact hRn
                            clear hw9 hp2 hRn S9 hK K f0 f1 f2 f3 hne3 m0 m1 yl8 x0' x1' lA' lgo'
                            clear s
                            go_wp2
                            go_roundw
                            case rel => exact ⟨i + 1, by omega, by go_num, HRn.out⟩
                            case measure => simp [intOf]; omega
                          · have d1 : decide (tat P A k < 1099511627776) = false := by simpa using hinf
                            have hPi : tat P A k = 1099511627776 := by rcases HTP.out A k hAn hkH with e | e; exact e; omega
                            have hQi : tat Q A k = 1099511627776 := (HPQ.out A k hAn hkH).1 hPi
                            have HRn : Hid (RS w1 n H goC goH bc bh Bm (firstT g (V : Int) (T0 : Int)) (allA g id H) (allA g (fun _ => 1) H) X Y (allA g id k ++ (waitA g k n ++ legA g id k (i + 1))) (allA g (fun _ => 1) k ++ (waitA g k n ++ legA g (fun _ => 1) k (i + 1))) w7) := by
                              show RS _ _ _ _ _ _ _ _ _ _ _ _ _ _ _ _
                              rw [HW.out, HW'.out, ← List.append_assoc, ← List.append_assoc, ← List.append_assoc, ← List.append_assoc]
                              exact ⟨P, Q, cC', cH', HS.out, tn_inf (by rw [List.append_assoc]; exact HTC.out) (HokC.out _ HmC.out) Hf1.out hPi, tn_inf (by rw [List.append_assoc]; exact HTH.out) (HokH.out _ HmH.out) Hf1.out hQi, HTP.out, HTQ.out, HPQ.out⟩
                            clear hinf hPi hQi
                            go_wp2
                            go_roundw
                            case rel => exact ⟨i + 1, by omega, by go_num, HRn.out⟩
                            case measure => simp [intOf]; omega
                      · have hil : g.edges.length = i := by omega
                        have HRn : Hid (RS w1 n H goC goH bc bh Bm (firstT g (V : Int) (T0 : Int)) (allA g id H) (allA g (fun _ => 1) H) X Y (allA g id (k + 1)) (allA g (fun _ => 1) (k + 1)) wr) := by
                          show RS _ _ _ _ _ _ _ _ _ _ _ _ _ _ _ _
                          rw [allA, allA, ← HN.out, hil]; exact hRS
                        have hd6 : decide ((i : Int) < (g.edges.length : Int)) = false := by simp; omega
                        clear hRS
                        go_wp2
                        go_roundw
                        case rel => exact ⟨k + 1, by omega, by go_num, HRn.out⟩
                        case measure => simp [intOf]; omega
              · have hke : H = k := by omega
                subst hke
                obtain ⟨P, Q, cC', cH', hS, hTC, hTH, hTP, hTQ, hPQ⟩ := hRS
                have cm := hS.cell
                have fm := hS.frz
                have HFin : Hid ((∃ (Bm : Nat) (X Y : Tb) (ch : Bool), Value.pointer (some ⟨wr.heap.size, 0, none⟩) = .pointer (some ⟨Bm, 0, none⟩) ∧ SS w1 n H goC goH bc bh Bm X Y ch (wr.alloc (.cells #[.bool (cC' || cH')] 4)) ∧ JMid n H (firstT g (V : Int) (T0 : Int)) (allA g id H) X ∧ JMid n H (firstT g (V : Int) (T0 : Int)) (allA g (fun _ => 1) H) Y ∧ Tm n H X ∧ Tm n H Y ∧ Pr n H X Y ∧ (ch = false → JBest n H (firstT g (V : Int) (T0 : Int)) (allA g id H) X ∧ JBest n H (firstT g (V : Int) (T0 : Int)) (allA g (fun _ => 1) H) Y)) ∧ 2 * (tsum (rdT (wr.alloc (.cells #[.bool (cC' || cH')] 4)) bc H) + tsum (rdT (wr.alloc (.cells #[.bool (cC' || cH')] 4)) bh H)) + flagAt (wr.alloc (.cells #[.bool (cC' || cH')] 4)) (.pointer (some ⟨wr.heap.size, 0, none⟩)) < 2 * (tsum X + tsum Y) + 1) := by
                  have SB := ss_box hS.c hS.y HD.out hS.bel (cC' || cH')
                  refine ⟨⟨wr.heap.size, P, Q, cC' || cH', rfl, SB, hTC.mid, hTH.mid, hTP, hTQ, hPQ, fun hf => ?_⟩, ?_⟩
                  · rw [Bool.or_eq_false_iff] at hf
                    obtain ⟨rfl, rfl⟩ := hf
                    exact ⟨tn_end hTC, tn_end hTH⟩
                  · rw [SB.c.rd (by rw [hTC.mid.shp.rows, HD.out.lc]), SB.y.rd (by rw [hTH.mid.shp.rows, HD.out.lh]), SB.flag]
                    have s1 := hTC.sum
                    have s2 := hTH.sum
                    cases cC' with
                    | true => have := hTC.less rfl; simp; omega
                    | false =>
                      cases cH' with
                      | true => have := hTH.less rfl; simp; omega
                      | false => simp; omega
                clear hS hTC hTH hTP hTQ hPQ
                go_wp2_with fail
                rw [HMs.out]
                exact HFin.out
      | true =>
        have HAlv := hideg halv
        clear halv
        have c0 := HTC3.out.out V (by rw [HD.out.lc]; exact hVn)
        have c1 := HTH3.out.out V (by rw [HD.out.lh]; exact hVn)
        have d0 := HTC3.out.cell (t := T0) (by rw [HD.out.lc]; exact hVn) hTH
        have d1 := HTH3.out.cell (t := T0) (by rw [HD.out.lh]; exact hVn) hTH
        have fC := World.ownsRow.frozenAt (HTC3.out.inn V (by rw [HD.out.lc]; exact hVn)) T0
        have fH := World.ownsRow.frozenAt (HTH3.out.inn V (by rw [HD.out.lh]; exact hVn)) T0
        have hne1 := HD.out.ch V V hVn hVn
        have hne2 := (HD.out.gc V hVn)
        have hne3 := (HD.out.gh V hVn)
        have hVi : (V : Int) < (n : Int) := by omega
        have hTi : (T0 : Int) < (H : Int) := by omega
        have kC1 : ∀ (W : World) (u x : Value), W.cell? ⟨goC, V, none⟩ = some x → (W.setCell ⟨bk bc V, T0, none⟩ u).drew.cell? ⟨goC, V, none⟩ = some x := fun W u x h => (World.cell?_setCell_far W ⟨bk bc V, T0, none⟩ ⟨goC, V, none⟩ u (fun e => hne2.1 e.symm)).trans h
        have kC2 : ∀ (W : World) (u x : Value), W.cell? ⟨goH, V, none⟩ = some x → (W.setCell ⟨bk bc V, T0, none⟩ u).drew.cell? ⟨goH, V, none⟩ = some x := fun W u x h => (World.cell?_setCell_far W ⟨bk bc V, T0, none⟩ ⟨goH, V, none⟩ u (fun e => hne2.2 e.symm)).trans h
        have kH1 : ∀ (W : World) (u x : Value), W.cell? ⟨goC, V, none⟩ = some x → (W.setCell ⟨bk bh V, T0, none⟩ u).drew.cell? ⟨goC, V, none⟩ = some x := fun W u x h => (World.cell?_setCell_far W ⟨bk bh V, T0, none⟩ ⟨goC, V, none⟩ u (fun e => hne3.1 e.symm)).trans h
        have kH2 : ∀ (W : World) (u x : Value), W.cell? ⟨goH, V, none⟩ = some x → (W.setCell ⟨bk bh V, T0, none⟩ u).drew.cell? ⟨goH, V, none⟩ = some x := fun W u x h => (World.cell?_setCell_far W ⟨bk bh V, T0, none⟩ ⟨goH, V, none⟩ u (fun e => hne3.2 e.symm)).trans h
        have s1 := kC1 w3 (.int .i64 0) _ c0
        have s2 := kC2 w3 (.int .i64 0) _ c1
        have s3 := kH1 (w3.setCell ⟨bk bc V, T0, none⟩ (.int .i64 0)) (.int .i64 0) _ s1
        have s4 := kH2 (w3.setCell ⟨bk bc V, T0, none⟩ (.int .i64 0)) (.int .i64 0) _ s2
        clear kC1 kC2 kH1 kH2
        go_wp2_with fail
        go_region_held3 (fun w' => w'.cell? ⟨goC, V, none⟩ = some (.slice (some ⟨bk bc V, 0, none⟩) H (ck bc V)) ∧ w'.cell? ⟨goH, V, none⟩ = some (.slice (some ⟨bk bh V, 0, none⟩) H (ck bh V)))
          (first | go_keep | (refine ⟨?_, ?_⟩ <;> assumption))
          (fail)
        have hXC := HTC3.out.set (t := T0) (v := V) (by rw [HD.out.lc]; exact hVn) (by rw [HD.out.lc]; exact (infT_shp n H).rows) 0 (HD.out.gc V hVn).1 (fun v' hv' hne => HD.out.cc V v' hVn (by rw [← HD.out.lc]; exact hv') hne)
        have hXH0 := HTH3.out.kept (gby_set w3 (bk bc V) T0 (.int .i64 0)) (HD.out.gc V hVn).2 (fun v' hv' => (HD.out.ch V v' hVn (by rw [← HD.out.lh]; exact hv')).symm)
        have hXH := hXH0.set (t := T0) (v := V) (by rw [HD.out.lh]; exact hVn) (by rw [HD.out.lh]; exact (infT_shp n H).rows) 0 (HD.out.gh V hVn).2 (fun v' hv' hne => HD.out.hh V v' hVn (by rw [← HD.out.lh]; exact hv') hne)
        have hXC2 := hXC.kept (gby_set _ (bk bh V) T0 (.int .i64 0)) (HD.out.gh V hVn).1 (fun v' hv' => HD.out.ch v' V (by rw [← HD.out.lc]; exact hv') hVn)
        have hbb4 : Below w1.heap.size w1 ((w3.setCell ⟨bk bc V, T0, none⟩ (.int .i64 0)).setCell ⟨bk bh V, T0, none⟩ (.int .i64 0)).drew := ((hbb3.setCell (p := ⟨bk bc V, T0, none⟩) (HGE.out V hVn).1 _).setCell (p := ⟨bk bh V, T0, none⟩) (HGE.out V hVn).2 _).drew
        have hC4 := hXC2.below (Below.refl _ _).drew
        have hH4 := hXH.below (Below.refl _ _).drew
        obtain ⟨w4, hw4⟩ : ∃ x, x = ((w3.setCell ⟨bk bc V, T0, none⟩ (.int .i64 0)).setCell ⟨bk bh V, T0, none⟩ (.int .i64 0)).drew := ⟨_, rfl⟩
        rw [← hw4] at hbb4 hC4 hH4 ⊢
        clear hw4 hXC hXH0 hXH hXC2 hbb3 HTC3 HTH3 s1 s2 s3 s4 c0 c1 d0 d1 fC fH hne1 hne2 hne3
        have hTt : ∀ v' t', v' < n → t' < H → tat (tset (infT n H) V T0 0) v' t' = firstT g (V : Int) (T0 : Int) v' t' := fun v' t' h1 h2 => by
          rw [tat_set (infT_shp n H) hVn hTH]
          unfold firstT
          by_cases e : v' = V ∧ t' = T0
          · rw [if_pos e, if_pos ⟨HAlv.out, by rw [e.1], by rw [e.2]⟩]
          · rw [if_neg e, if_neg (fun h => e ⟨by omega, by omega⟩), infT_at n H v' t' h1 h2]
        have HSh := hideg (shp_set (infT_shp n H) hVn T0 0)
        obtain ⟨X0, hX0⟩ : ∃ X, X = tset (infT n H) V T0 0 := ⟨_, rfl⟩
        rw [← hX0] at hC4 hH4 hTt HSh
        have HTt := hideg hTt
        have HTC3 := hideg hC4
        have HTH3 := hideg hH4
        have hbb3 := hbb4
        clear hTt hX0 hC4 hH4 hbb4
        go_wp2_with fail
        have hmf : ∀ (fn : Fn) (first cap : Array Value) (w : World), (Instr.makeFunc fn first cap).run Try.prog w = .ok (.func fn first cap) w := fun _ _ _ _ => rfl
        have eg : ∀ args w, (callFunc 22 args).run Try.prog w = .ok (.enter 22 args) w := enters_of Try.func22 (by kernel_rfl) rfl
        have HokC : Hid (∀ a ∈ allA g id H, JOk n H a) := by intro a ha; have := allA_ok HRt.out (pr := id) (fun c h0 h1 => ⟨h0, h1⟩) H (by rw [HHi.out]; omega) a ha; rw [← HN.out, ← HHd.out] at this; exact this
        have HokH : Hid (∀ a ∈ allA g (fun _ => 1) H, JOk n H a) := by intro a ha; have := allA_ok HRt.out (pr := fun _ => 1) (fun c h0 h1 => ⟨by omega, by omega⟩) H (by rw [HHi.out]; omega) a ha; rw [← HN.out, ← HHd.out] at this; exact this
        have Hf0 : Hid (∀ v' t', v' < n → t' < H → 0 ≤ firstT g (V : Int) (T0 : Int) v' t') := fun v' t' _ _ => firstT_lo g _ _ v' t'
        have Hf1 : Hid (∀ v' t', v' < n → t' < H → firstT g (V : Int) (T0 : Int) v' t' ≤ 1099511627776) := fun v' t' _ _ => firstT_hi g _ _ v' t'
        have HS0 := hideg (ss_box HTC3.out HTH3.out HD.out hbb3 true)
        have HSum : Hid (∀ X Y, JBest n H (firstT g (V : Int) (T0 : Int)) (allA g id H) X → JBest n H (firstT g (V : Int) (T0 : Int)) (allA g (fun _ => 1) H) Y → Tm n H X → Tm n H Y → Pr n H X Y → SumIs g (V : Int) (T0 : Int) X Y) := by
          intro X Y h1 h2 h3 h4 h5
          rw [HN.out, HHd.out] at h1 h2 h3 h4 h5
          exact ⟨h1, h2, h3, h4, h5⟩
        have HJ0 : Hid (∀ arcs, JMid n H (firstT g (V : Int) (T0 : Int)) arcs X0) := fun arcs => jmid_first HSh.out HTt.out
        have HT0 : Hid (Tm n H X0) := tm_first HTt.out (firstT_two g _ _)
        have HBw : Hid (∀ W, Below w1.heap.size w1 W → Below w.heap.size w W) := fun W h => (HB1.out.below h).bel
        clear hbb3 HTC3 HTH3 HSh HTt
        go_loopw [12] (fun pm wr => ∃ (Bm : Nat) (X Y : Tb) (ch : Bool), pm = .pointer (some ⟨Bm, 0, none⟩) ∧ SS w1 n H goC goH bc bh Bm X Y ch wr ∧ JMid n H (firstT g (V : Int) (T0 : Int)) (allA g id H) X ∧ JMid n H (firstT g (V : Int) (T0 : Int)) (allA g (fun _ => 1) H) Y ∧ Tm n H X ∧ Tm n H Y ∧ Pr n H X Y ∧ (ch = false → JBest n H (firstT g (V : Int) (T0 : Int)) (allA g id H) X ∧ JBest n H (firstT g (V : Int) (T0 : Int)) (allA g (fun _ => 1) H) Y)) (fun pm wr => 2 * (tsum (rdT wr bc H) + tsum (rdT wr bh H)) + flagAt wr pm)
        case atStart => exact ⟨w4.heap.size, X0, X0, true, rfl, HS0.out, HJ0.out _, HJ0.out _, HT0.out, HT0.out, pr_self n H X0, fun h => by cases h⟩
        case round =>
          clear HS0 HJ0 HT0
          obtain ⟨Bm, X, Y, ch, rfl, hS, hMX, hMY, hTX, hTY, hP, hBest⟩ := hrel
          have cm := hS.cell
          have fm := hS.frz
          cases ch with
          | false =>
            obtain ⟨bX, bY⟩ := hBest rfl
            have HR := hideg (HSum.out X Y bX bY hTX hTY hP)
            have HS := hideg hS
            clear hS hMX hMY hTX hTY hP hBest bX bY
            go_wp2
            go_ret2
            exact ⟨goC, cC, goH, cH, bc, bh, X, Y, rfl, HS.out.c.base HB1.out.bel.size, HS.out.y.base HB1.out.bel.size, HD.out.lc, HD.out.lh, HR.out, HBw.out _ HS.out.bel⟩
          | true =>
            have hS5 := hS.clear HD.out false
            have hR0 : RS w1 n H goC goH bc bh Bm (firstT g (V : Int) (T0 : Int)) (allA g id H) (allA g (fun _ => 1) H) X Y [] [] (wr.setCell ⟨Bm, 0, none⟩ (.bool false)) := ⟨X, Y, false, false, hS5, tn_start hMX, tn_start hMY, hTX, hTY, hP⟩
            have HR0 := hideg hR0
            have hmeas : 2 * (tsum (rdT wr bc H) + tsum (rdT wr bh H)) + flagAt wr (.pointer (some ⟨Bm, 0, none⟩)) = 2 * (tsum X + tsum Y) + 1 := by
              rw [hS.c.rd (by rw [hMX.shp.rows, HD.out.lc]), hS.y.rd (by rw [hMY.shp.rows, HD.out.lh]), hS.flag]; rfl
            have HMs := hideg hmeas
            clear hS hS5 hMX hMY hTX hTY hP hBest hR0 hmeas
            obtain ⟨w5, hw5⟩ : ∃ x, x = wr.setCell ⟨Bm, 0, none⟩ (.bool false) := ⟨_, rfl⟩
            rw [← hw5] at HR0
            have hw5s := hw5.symm
            clear hw5
            go_wp2_with fail
            clear hw5s
            go_loopw [14] (fun tt wr => ∃ k : Nat, k ≤ H ∧ tt = .int .i64 k ∧ RS w1 n H goC goH bc bh Bm (firstT g (V : Int) (T0 : Int)) (allA g id H) (allA g (fun _ => 1) H) X Y (allA g id k) (allA g (fun _ => 1) k) wr) (fun tt _ => H - (intOf tt).toNat)
            case atStart => exact ⟨0, Nat.zero_le _, rfl, HR0.out⟩
            case round =>
              clear HR0
              obtain ⟨k, hk, rfl, hRS⟩ := hrel
              have hbk : Below w1.heap.size w1 wr := by obtain ⟨_, _, _, _, S, _⟩ := hRS; exact S.bel
              obtain ⟨b0, b1, b2⟩ := HBX.out wr hbk
              have HRS := hideg hRS
              by_cases hkH : k < H
              · obtain ⟨wa, hwa⟩ : ∃ x, x = wr := ⟨_, rfl⟩
                rw [← hwa] at HRS b0 b1 b2 ⊢
                clear hRS hwa hbk
                have hkw : IntKind.i64.wrap ((k : Int) + 1) = (k : Int) + 1 := wrap_nr _ (by omega) (by omega)
                have HSt5 : Hid (RS w1 n H goC goH bc bh Bm (firstT g (V : Int) (T0 : Int)) (allA g id H) (allA g (fun _ => 1) H) X Y (allA g id k ++ waitA g k 0) (allA g (fun _ => 1) k ++ waitA g k 0) wa) := by
                  show RS _ _ _ _ _ _ _ _ _ _ _ _ _ _ _ _
                  rw [waitA, List.append_nil, List.append_nil]; exact HRS.out
                clear HRS
                go_wp2_with fail
                go_loopw [15] (fun vv wr => ∃ j : Nat, j ≤ n ∧ vv = .int .i64 j ∧ RS w1 n H goC goH bc bh Bm (firstT g (V : Int) (T0 : Int)) (allA g id H) (allA g (fun _ => 1) H) X Y (allA g id k ++ waitA g k j) (allA g (fun _ => 1) k ++ waitA g k j) wr) (fun vv _ => n - (intOf vv).toNat)
                case atStart => exact ⟨0, Nat.zero_le _, rfl, HSt5.out⟩
                case round =>
                  clear HSt5 b0 b1 b2
                  obtain ⟨j, hj, rfl, hRS⟩ := hrel
                  have hbk : Below w1.heap.size w1 wr := by obtain ⟨_, _, _, _, S, _⟩ := hRS; exact S.bel
                  obtain ⟨b0, b1, b2⟩ := HBX.out wr hbk
                  by_cases hjn : j < n
                  · obtain ⟨P, Q, cC', cH', hS, hTC, hTH, hTP, hTQ, hPQ⟩ := hRS
                    have c0 := hS.c.out j (by rw [HD.out.lc]; exact hjn)
                    have c1 := hS.c.cell (t := k) (by rw [HD.out.lc]; exact hjn) hkH
                    have hjl : j < g.lives.length := by rw [← HN.out]; exact hjn
                    have hji : (j : Int) < (n : Int) := by omega
                    have hki : (k : Int) < (H : Int) := by omega
                    have HS := hideg hS
                    have HTC := hideg hTC
                    have HTH := hideg hTH
                    have HTP := hideg hTP
                    have HTQ := hideg hTQ
                    have HPQ := hideg hPQ
                    clear hS hTC hTH hTP hTQ hPQ
                    by_cases hinf : tat P j k < 1099511627776
                    · have d1 : decide (tat P j k < 1099511627776) = true := by simpa using hinf
                      have hne : tat P j k ≠ 1099511627776 := by omega
                      by_cases hk1 : k + 1 < H
                      · have d2 : decide ((k : Int) + 1 < (H : Int)) = true := by simp; omega
                        have hA := HAl.out j ((k : Int) + 1) wr hjn hbk
                        cases hal : aliveB ((k : Int) + 1) g.lives (j : Int) with
                        | false =>
                          have HW := hideg (waitA_no (g := g) (t := k) (k := j) (fun h => by rw [hal] at h; cases h.2))
                          rw [hal] at hA
                          clear hal
                          go_wp2_with fail
                          refine hA.mono ?_
                          rintro r w6 ⟨rfl, hb6⟩
                          have HRn : Hid (RS w1 n H goC goH bc bh Bm (firstT g (V : Int) (T0 : Int)) (allA g id H) (allA g (fun _ => 1) H) X Y (allA g id k ++ waitA g k (j + 1)) (allA g (fun _ => 1) k ++ waitA g k (j + 1)) w6) := by
                            show RS _ _ _ _ _ _ _ _ _ _ _ _ _ _ _ _
                            rw [HW.out, List.append_nil]; exact ⟨P, Q, cC', cH', HS.out.below hb6, HTC.out, HTH.out, HTP.out, HTQ.out, HPQ.out⟩
                          clear hA hb6 c0 c1 b0 b1 b2
                          go_wp2
                          go_roundw
                          case rel => exact ⟨j + 1, by omega, by go_num, HRn.out⟩
                          case measure => simp [intOf]; omega
                        | true =>
                          have hcond : ((k : Int) + 1 < g.hor) ∧ aliveB ((k : Int) + 1) g.lives (j : Int) = true := ⟨by rw [HHi.out]; omega, hal⟩
                          have HW := hideg (waitA_yes hcond)
                          have HmC := hideg (wait_mem (pr := id) (H := H) hkH hjl hcond)
                          have HmH := hideg (wait_mem (pr := fun _ => 1) (H := H) hkH hjl hcond)
                          rw [hal] at hA
                          clear hal hcond
                          go_wp2_with fail
                          refine hA.mono ?_
                          rintro r w6 ⟨rfl, hb6⟩
                          have S6 := HS.out.below hb6
                          obtain ⟨S7, RS8⟩ := ss_put S6 HTC.out HTH.out HTP.out HTQ.out HPQ.out HD.out HmC.out HmH.out HokC.out HokH.out Hf0.out ⟨rfl, rfl, rfl, rfl⟩ hH1.2 (show src P (j, k, j, k + 1, 0) ≠ 1099511627776 from hne) HGE.out
                          simp only [src, dst, Int.add_zero] at S7 RS8
                          have hp1 := sums1_any w1.heap.size goC cC bc H P j (k + 1) (tat P j k) Bm _ w6 S6.c (by rw [HD.out.lc]; exact hjn) hk1 S6.m (S6.far.2.2 j hjn).1
                          have hp2 := sums1_any w1.heap.size goH cH bh H Q j (k + 1) (tat Q j k) Bm _ _ S7.y (by rw [HD.out.lh]; exact hjn) hk1 S7.m (S7.far.2.2 j hjn).2
                          rw [HD.out.lc, show ((k + 1 : Nat) : Int) = (k : Int) + 1 from by omega] at hp1
                          rw [HD.out.lh, show ((k + 1 : Nat) : Int) = (k : Int) + 1 from by omega] at hp2
                          have x0 := S6.c.out j (by rw [HD.out.lc]; exact hjn)
                          have x1 := S6.c.cell (t := k) (by rw [HD.out.lc]; exact hjn) hkH
                          have y0 := S7.y.out j (by rw [HD.out.lh]; exact hjn)
                          have y1 := S7.y.cell (t := k) (by rw [HD.out.lh]; exact hjn) hkH
                          have HS7 := hideg S7
                          rw [List.append_assoc, List.append_assoc, ← HW.out] at RS8
                          have HRn := hideg RS8
                          generalize putW w6 (bk bc j) (k + 1) Bm (tat P j k) (tat P j (k + 1)) = w7 at *
                          clear hA hb6 c0 c1 b0 b1 b2 S6 S7 RS8
                          go_wp2_with fail
                          go_at_fn 22
                          refine hp1.mono ?_
                          rintro r w7' ⟨rfl, hw7⟩
                          have hw7s := hw7.symm
                          subst hw7s
                          clear hw7 hp1 x0 x1
                          go_wp2_with fail
                          go_at_fn 22
                          refine hp2.mono ?_
                          rintro r w8 ⟨rfl, hw8⟩
                          rw [← hw8] at HRn
                          clear hw8 hp2 y0 y1
                          go_wp2
                          go_roundw
                          case rel => exact ⟨j + 1, by omega, by go_num, HRn.out⟩
                          case measure => simp [intOf]; omega
                      · have d2 : decide ((k : Int) + 1 < (H : Int)) = false := by simp; omega
                        have HW := hideg (waitA_no (g := g) (t := k) (k := j) (fun h => by have := h.1; rw [HHi.out] at this; omega))
                        have HRn : Hid (RS w1 n H goC goH bc bh Bm (firstT g (V : Int) (T0 : Int)) (allA g id H) (allA g (fun _ => 1) H) X Y (allA g id k ++ waitA g k (j + 1)) (allA g (fun _ => 1) k ++ waitA g k (j + 1)) wr) := by
                          show RS _ _ _ _ _ _ _ _ _ _ _ _ _ _ _ _
                          rw [HW.out, List.append_nil]; exact ⟨P, Q, cC', cH', HS.out, HTC.out, HTH.out, HTP.out, HTQ.out, HPQ.out⟩
                        go_wp2
                        go_roundw
                        case rel => exact ⟨j + 1, by omega, by go_num, HRn.out⟩
                        case measure => simp [intOf]; omega
                    · have d1 : decide (tat P j k < 1099511627776) = false := by simpa using hinf
                      have hPi : tat P j k = 1099511627776 := by rcases HTP.out j k hjn hkH with e | e; exact e; omega
                      have hQi : tat Q j k = 1099511627776 := (HPQ.out j k hjn hkH).1 hPi
                      have HRn : Hid (RS w1 n H goC goH bc bh Bm (firstT g (V : Int) (T0 : Int)) (allA g id H) (allA g (fun _ => 1) H) X Y (allA g id k ++ waitA g k (j + 1)) (allA g (fun _ => 1) k ++ waitA g k (j + 1)) wr) := by
                        show RS _ _ _ _ _ _ _ _ _ _ _ _ _ _ _ _
                        by_cases hcond : ((k : Int) + 1 < g.hor) ∧ aliveB ((k : Int) + 1) g.lives (j : Int) = true
                        · rw [waitA_yes hcond, ← List.append_assoc, ← List.append_assoc]
                          exact ⟨P, Q, cC', cH', HS.out, tn_inf HTC.out (HokC.out _ (wait_mem hkH hjl hcond)) Hf1.out hPi, tn_inf HTH.out (HokH.out _ (wait_mem hkH hjl hcond)) Hf1.out hQi, HTP.out, HTQ.out, HPQ.out⟩
                        · rw [waitA_no hcond, List.append_nil]; exact ⟨P, Q, cC', cH', HS.out, HTC.out, HTH.out, HTP.out, HTQ.out, HPQ.out⟩
                      clear hinf hPi hQi
                      go_wp2
                      go_roundw
                      case rel => exact ⟨j + 1, by omega, by go_num, HRn.out⟩
                      case measure => simp [intOf]; omega
                  · clear b0 b1 b2
                    have hje : n = j := by omega
                    subst hje
                    obtain ⟨b0, b1, b2⟩ := HBX.out wr hbk
                    have HRS := hideg hRS
                    obtain ⟨wa2, hwa2⟩ : ∃ x, x = wr := ⟨_, rfl⟩
                    rw [← hwa2] at HRS b0 b1 b2 ⊢
                    clear hRS hwa2 hbk
                    have HSt6 : Hid (RS w1 n H goC goH bc bh Bm (firstT g (V : Int) (T0 : Int)) (allA g id H) (allA g (fun _ => 1) H) X Y (allA g id k ++ (waitA g k n ++ legA g id k 0)) (allA g (fun _ => 1) k ++ (waitA g k n ++ legA g (fun _ => 1) k 0)) wa2) := by
                      show RS _ _ _ _ _ _ _ _ _ _ _ _ _ _ _ _
                      rw [legA, legA, List.append_nil]; exact HRS.out
                    clear HRS
                    go_wp2_with fail
                    go_loopw [16] (fun ii wr => ∃ i : Nat, i ≤ g.edges.length ∧ ii = .int .i64 i ∧ RS w1 n H goC goH bc bh Bm (firstT g (V : Int) (T0 : Int)) (allA g id H) (allA g (fun _ => 1) H) X Y (allA g id k ++ (waitA g k n ++ legA g id k i)) (allA g (fun _ => 1) k ++ (waitA g k n ++ legA g (fun _ => 1) k i)) wr) (fun ii _ => g.edges.length - (intOf ii).toNat)
                    case atStart => exact ⟨0, Nat.zero_le _, rfl, HSt6.out⟩
                    case round =>
                      clear HSt6 b0 b1 b2
                      obtain ⟨i, hi6, rfl, hRS⟩ := hrel
                      have hbk : Below w1.heap.size w1 wr := by obtain ⟨_, _, _, _, S, _⟩ := hRS; exact S.bel
                      obtain ⟨b0, b1, b2⟩ := HBX.out wr hbk
                      by_cases hie : i < g.edges.length
                      · rcases (HG.out.below (HB1.out.below hbk).bel).ed with h0 | ⟨eb, eo, rfl, hebr, hec⟩
                        · rw [h0] at hie; simp at hie
                        obtain ⟨c0, c1, lo, lcap, c2, _⟩ := hec i hie
                        obtain ⟨hA, hB, _⟩ := HRt.out.ends g.edges[i] (List.getElem_mem hie)
                        obtain ⟨A, eA⟩ : ∃ A : Nat, g.edges[i].1 = (A : Int) := ⟨g.edges[i].1.toNat, by omega⟩
                        obtain ⟨B, eB⟩ : ∃ A : Nat, g.edges[i].2.1 = (A : Int) := ⟨g.edges[i].2.1.toNat, by omega⟩
                        have hAn : A < n := by have := HN.out; omega
                        have hBn : B < n := by have := HN.out; omega
                        have hii : (i : Int) < (g.edges.length : Int) := by omega
                        have hAi : (A : Int) < (n : Int) := by omega
                        have hBi : (B : Int) < (n : Int) := by omega
                        have hki : (k : Int) < (H : Int) := by omega
                        rw [eA] at c0
                        rw [eB] at c1
                        generalize hll : g.edges[i].2.2.length = ll at c2
                        have gx := pal wr (.cells #[.int .i64 (A : Int), .int .i64 (B : Int), .slice lo ll lcap] 51)
                        have hL := HLd.out i (k : Int) _ hie (hbk.trans (gx.mono hbk.size))
                        have hx0 : (wr.alloc (.cells #[.int .i64 (A : Int), .int .i64 (B : Int), .slice lo ll lcap] 51)).cell? ⟨wr.heap.size, 0, none⟩ = some (.int .i64 (A : Int)) := by simp
                        have hx1 : (wr.alloc (.cells #[.int .i64 (A : Int), .int .i64 (B : Int), .slice lo ll lcap] 51)).cell? ⟨wr.heap.size, 1, none⟩ = some (.int .i64 (B : Int)) := by simp
                        have hz6 : (wr.alloc (.cells #[.int .i64 (A : Int), .int .i64 (B : Int), .slice lo ll lcap] 51)).heap.size = wr.heap.size + 1 := by simp
                        obtain ⟨z0, z1, z2⟩ := HBX.out _ (hbk.trans (gx.mono hbk.size))
                        have HZ : Hid (∀ W, Below (wr.alloc (.cells #[.int .i64 (A : Int), .int .i64 (B : Int), .slice lo ll lcap] 51)).heap.size (wr.alloc (.cells #[.int .i64 (A : Int), .int .i64 (B : Int), .slice lo ll lcap] 51)) W → Below wr.heap.size wr W ∧ W.cell? ⟨wr.heap.size, 0, none⟩ = some (.int .i64 (A : Int)) ∧ W.cell? ⟨wr.heap.size, 1, none⟩ = some (.int .i64 (B : Int)) ∧ wr.heap.size < W.heap.size) := fun W h => ⟨ptw gx h, (h.cell (p := ⟨wr.heap.size, 0, none⟩) (by simp)).trans hx0, (h.cell (p := ⟨wr.heap.size, 1, none⟩) (by simp)).trans hx1, by have := h.size; rw [hz6] at this; omega⟩
                        have HRS := hideg hRS
                        unfold landsV at hL
                        clear hec hebr hA hB gx hRS hx0 hx1 hz6 hbk
                        obtain ⟨w6, hw6⟩ : ∃ x, x = wr.alloc (.cells #[.int .i64 (A : Int), .int .i64 (B : Int), .slice lo ll lcap] 51) := ⟨_, rfl⟩
                        rw [← hw6] at hL HZ z0 z1 z2
                        have hw6s := hw6.symm
                        clear hw6
                        cases hs : lands g g.edges[i] (k : Int) with
                        | none =>
                          have HW := hideg (legA_no (pr := id) hie hs)
                          have HW' := hideg (legA_no (pr := fun _ => 1) hie hs)
                          rw [hs] at hL
                          simp only [Option.getD_none, Option.isSome_none] at hL
                          clear hs eA eB hll
                          go_wp2_with fail
                          clear hw6s
                          refine hL.mono ?_
                          rintro r w7 ⟨rfl, hb7⟩
                          have HRn : Hid (RS w1 n H goC goH bc bh Bm (firstT g (V : Int) (T0 : Int)) (allA g id H) (allA g (fun _ => 1) H) X Y (allA g id k ++ (waitA g k n ++ legA g id k (i + 1))) (allA g (fun _ => 1) k ++ (waitA g k n ++ legA g (fun _ => 1) k (i + 1))) w7) := by
                            show RS _ _ _ _ _ _ _ _ _ _ _ _ _ _ _ _
                            rw [HW.out, HW'.out, List.append_nil, List.append_nil]; exact HRS.out.below (HZ.out _ hb7).1
                          clear hL hb7 b0 b1 b2 c0 c1 c2 z0 z1 z2
                          go_wp2
                          go_roundw
                          case rel => exact ⟨i + 1, by omega, by go_num, HRn.out⟩
                          case measure => simp [intOf]; omega
                        | some q =>
                          have HW := hideg (legA_yes (pr := id) hie hs)
                          have HW' := hideg (legA_yes (pr := fun _ => 1) hie hs)
                          have HmC := hideg (leg_mem (pr := id) (H := H) hkH hie hs)
                          have HmH := hideg (leg_mem (pr := fun _ => 1) (H := H) hkH hie hs)
                          obtain ⟨to, pc⟩ := q
                          rw [hs] at hL
                          simp only [Option.getD_some, Option.isSome_some] at hL
                          clear hs
                          rw [eA, eB] at HW HW' HmC HmH
                          simp only [Int.toNat_natCast] at HW HW' HmC HmH
                          have okC := HokC.out _ HmC.out
                          have ok1 := okC.t'
                          have ok2 := okC.lt
                          have ok3 := okC.p0
                          have ok4 := okC.p1
                          simp only [id] at ok1 ok2 ok3 ok4
                          obtain ⟨T, rfl⟩ : ∃ T : Nat, to = (T : Int) := ⟨to.toNat, by omega⟩
                          simp only [Int.toNat_natCast] at HW HW' HmC HmH ok1 ok2
                          have hTi : (T : Int) < (H : Int) := by omega
                          clear okC eA eB hll
                          go_wp2_with fail
                          clear hw6s
                          refine hL.mono ?_
                          rintro r w7 ⟨rfl, hb7⟩
                          obtain ⟨hb67, y0, y1, yl⟩ := HZ.out _ hb7
                          have hfar : bk bc B < wr.heap.size ∧ Bm < wr.heap.size := by obtain ⟨_, _, _, _, S0, _⟩ := HRS.out; exact ⟨(World.ownsRow.lt (S0.c.inn B (by rw [HD.out.lc]; exact hBn)) _ rfl).2, S0.lt⟩
                          obtain ⟨P, Q, cC', cH', hS, hTC, hTH, hTP, hTQ, hPQ⟩ := HRS.out.below hb67
                          have x0 := hS.c.out A (by rw [HD.out.lc]; exact hAn)
                          have x1 := hS.c.cell (t := k) (by rw [HD.out.lc]; exact hAn) hkH
                          have HS := hideg hS
                          have HTC := hideg hTC
                          have HTH := hideg hTH
                          have HTP := hideg hTP
                          have HTQ := hideg hTQ
                          have HPQ := hideg hPQ
                          clear hS hTC hTH hTP hTQ hPQ hL hb7 b0 b1 b2 c0 c1 c2 z0 z1 z2 HZ HRS
                          by_cases hinf : tat P A k < 1099511627776
                          · have d1 : decide (tat P A k < 1099511627776) = true := by simpa using hinf
                            have hne : tat P A k ≠ 1099511627776 := by omega
                            have hPlo : 0 ≤ tat P A k ∧ tat P A k ≤ 1000 * (k : Int) := by rcases HTP.out A k hAn hkH with e | e; exact absurd e hne; exact e
                            have hQne : tat Q A k ≠ 1099511627776 := fun e => hne ((HPQ.out A k hAn hkH).2 e)
                            have hQlo : 0 ≤ tat Q A k ∧ tat Q A k ≤ 1000 * (k : Int) := by rcases HTQ.out A k hAn hkH with e | e; exact absurd e hQne; exact e
                            have hwP : IntKind.i64.wrap (tat P A k + pc) = tat P A k + pc := wrap_nr _ (by omega) (by omega)
                            have hwQ : IntKind.i64.wrap (tat Q A k + 1) = tat Q A k + 1 := wrap_nr _ (by omega) (by omega)
                            go_wp2_with fail
                            have lA := (World.ownsRow.lt (HS.out.c.inn A (by rw [HD.out.lc]; exact hAn)) _ rfl).2
                            have lgo := HS.out.c.lt
                            have hne2 : Nonempty (HeldIn w7) := ⟨⟨_, Below.refl _ _⟩⟩
                            have f0 : ∀ s : HeldIn w7, s.w.cell? ⟨wr.heap.size, 0, none⟩ = some (.int .i64 (A : Int)) := fun s => (s.h.cell (p := ⟨wr.heap.size, 0, none⟩) yl).trans y0
                            have f1 : ∀ s : HeldIn w7, s.w.cell? ⟨wr.heap.size, 1, none⟩ = some (.int .i64 (B : Int)) := fun s => (s.h.cell (p := ⟨wr.heap.size, 1, none⟩) yl).trans y1
                            have f2 := fun s : HeldIn w7 => (s.h.cell (p := ⟨goC, A, none⟩) lgo).trans x0
                            have f3 := fun s : HeldIn w7 => (s.h.cell (p := ⟨bk bc A, k, none⟩) lA).trans x1
                            refine wp_region_held_back _ (Below.refl _ _) (by kernel_rfl) (by simp) (by kernel_rfl) (by kernel_rfl) (by kernel_rfl) ?_
                            simp only [List.pop_toArray, List.dropLast, List.back!_toArray, List.getLast!]
                            repeat (go_big_quiet_step (fail))
                            refine wpQuiet_nil ?_
                            rintro _ ⟨s, rfl⟩
                            refine back_last (fun K hK => ?_)
                            go_simp
                            have S6 := HS.out.below s.h
                            have SP := S6.putC HD.out HTC.out.mid.shp.rows (v := B) (t := T) hBn (tat P A k + pc) (HGE.out B hBn).1
                            have hp1 := sums1_any w1.heap.size goC cC bc H P B T (tat P A k + pc) Bm _ s.w S6.c (by rw [HD.out.lc]; exact hBn) ok1 S6.m (S6.far.2.2 B hBn).1
                            rw [HD.out.lc] at hp1
                            have k0 := f0 s
                            have k1 := f1 s
                            have yls : wr.heap.size < s.w.heap.size := Nat.lt_of_lt_of_le yl s.h.size
                            refine hp1.mono ?_
                            rintro r w8 ⟨rfl, hw8⟩
                            refine hK.out _ _ ?_
                            have m0 : w8.cell? ⟨wr.heap.size, 0, none⟩ = some (.int .i64 (A : Int)) := by rw [hw8]; exact (putW_far _ _ _ _ _ _ yls (by omega) (by omega)).trans k0
                            have m1 : w8.cell? ⟨wr.heap.size, 1, none⟩ = some (.int .i64 (B : Int)) := by rw [hw8]; exact (putW_far _ _ _ _ _ _ yls (by omega) (by omega)).trans k1
                            have yl8 : wr.heap.size < w8.heap.size := by rw [hw8]; exact Nat.lt_of_lt_of_le yls (putW_size _ _ _ _ _ _)
                            rw [← hw8] at SP
                            have x0' := SP.y.out A (by rw [HD.out.lh]; exact hAn)
                            have x1' := SP.y.cell (t := k) (by rw [HD.out.lh]; exact hAn) hkH
                            have lA' := (World.ownsRow.lt (SP.y.inn A (by rw [HD.out.lh]; exact hAn)) _ rfl).2
                            have lgo' := SP.y.lt
                            have HS8 := hideg SP
                            clear hw8 hp1 SP S6 k0 k1 yls hK K f0 f1 f2 f3 hne2 y0 y1 yl x0 x1 lA lgo
                            clear s
                            have hne3 : Nonempty (HeldIn w8) := ⟨⟨_, Below.refl _ _⟩⟩
                            have f0 : ∀ s : HeldIn w8, s.w.cell? ⟨wr.heap.size, 0, none⟩ = some (.int .i64 (A : Int)) := fun s => (s.h.cell (p := ⟨wr.heap.size, 0, none⟩) yl8).trans m0
                            have f1 : ∀ s : HeldIn w8, s.w.cell? ⟨wr.heap.size, 1, none⟩ = some (.int .i64 (B : Int)) := fun s => (s.h.cell (p := ⟨wr.heap.size, 1, none⟩) yl8).trans m1
                            have f2 := fun s : HeldIn w8 => (s.h.cell (p := ⟨goH, A, none⟩) lgo').trans x0'
                            have f3 := fun s : HeldIn w8 => (s.h.cell (p := ⟨bk bh A, k, none⟩) lA').trans x1'
                            go_wp2_with fail
                            refine wp_region_held_back _ (Below.refl _ _) (by kernel_rfl) (by simp) (by kernel_rfl) (by kernel_rfl) (by kernel_rfl) ?_
                            simp only [List.pop_toArray, List.dropLast, List.back!_toArray, List.getLast!]
                            repeat (go_big_quiet_step (fail))
                            refine wpQuiet_nil ?_
                            rintro _ ⟨s, rfl⟩
                            refine back_last (fun K hK => ?_)
                            go_simp
                            have S9 := HS8.out.below s.h
                            have hRn := ss_putB (a := (A, k, B, T, pc)) (b := (A, k, B, T, 1)) S9 HTC.out HTH.out HTP.out HTQ.out HPQ.out HD.out HmC.out HmH.out HokC.out HokH.out Hf0.out ⟨rfl, rfl, rfl, rfl⟩ hH1.2 (show src P (A, k, B, T, pc) ≠ 1099511627776 from hne) HGE.out
                            have hp2 := sums1_any w1.heap.size goH cH bh H Q B T (tat Q A k + 1) Bm _ s.w S9.y (by rw [HD.out.lh]; exact hBn) ok1 S9.m (S9.far.2.2 B hBn).2
                            rw [HD.out.lh] at hp2
                            refine hp2.mono ?_
                            rintro r w9 ⟨rfl, hw9⟩
                            refine hK.out _ _ ?_
                            have HRn : Hid (RS w1 n H goC goH bc bh Bm (firstT g (V : Int) (T0 : Int)) (allA g id H) (allA g (fun _ => 1) H) X Y (allA g id k ++ (waitA g k n ++ legA g id k (i + 1))) (allA g (fun _ => 1) k ++ (waitA g k n ++ legA g (fun _ => 1) k (i + 1))) w9) := by
                              show RS _ _ _ _ _ _ _ _ _ _ _ _ _ _ _ _
                              rw [HW.out, HW'.out, ← List.append_assoc (waitA g k n), ← List.append_assoc (waitA g k n), ← List.append_assoc (allA g id k), ← List.append_assoc (allA g (fun _ => 1) k), hw9]
                              exact hRn
                            clear hw9 hp2 hRn S9 hK K f0 f1 f2 f3 hne3 m0 m1 yl8 x0' x1' lA' lgo'
                            clear s
                            go_wp2
                            go_roundw
                            case rel => exact ⟨i + 1, by omega, by go_num, HRn.out⟩
                            case measure => simp [intOf]; omega
                          · have d1 : decide (tat P A k < 1099511627776) = false := by simpa using hinf
                            have hPi : tat P A k = 1099511627776 := by rcases HTP.out A k hAn hkH with e | e; exact e; omega
                            have hQi : tat Q A k = 1099511627776 := (HPQ.out A k hAn hkH).1 hPi
                            have HRn : Hid (RS w1 n H goC goH bc bh Bm (firstT g (V : Int) (T0 : Int)) (allA g id H) (allA g (fun _ => 1) H) X Y (allA g id k ++ (waitA g k n ++ legA g id k (i + 1))) (allA g (fun _ => 1) k ++ (waitA g k n ++ legA g (fun _ => 1) k (i + 1))) w7) := by
                              show RS _ _ _ _ _ _ _ _ _ _ _ _ _ _ _ _
                              rw [HW.out, HW'.out, ← List.append_assoc, ← List.append_assoc, ← List.append_assoc, ← List.append_assoc]
                              exact ⟨P, Q, cC', cH', HS.out, tn_inf (by rw [List.append_assoc]; exact HTC.out) (HokC.out _ HmC.out) Hf1.out hPi, tn_inf (by rw [List.append_assoc]; exact HTH.out) (HokH.out _ HmH.out) Hf1.out hQi, HTP.out, HTQ.out, HPQ.out⟩
                            clear hinf hPi hQi
                            go_wp2
                            go_roundw
                            case rel => exact ⟨i + 1, by omega, by go_num, HRn.out⟩
                            case measure => simp [intOf]; omega
                      · have hil : g.edges.length = i := by omega
                        have HRn : Hid (RS w1 n H goC goH bc bh Bm (firstT g (V : Int) (T0 : Int)) (allA g id H) (allA g (fun _ => 1) H) X Y (allA g id (k + 1)) (allA g (fun _ => 1) (k + 1)) wr) := by
                          show RS _ _ _ _ _ _ _ _ _ _ _ _ _ _ _ _
                          rw [allA, allA, ← HN.out, hil]; exact hRS
                        have hd6 : decide ((i : Int) < (g.edges.length : Int)) = false := by simp; omega
                        clear hRS
                        go_wp2
                        go_roundw
                        case rel => exact ⟨k + 1, by omega, by go_num, HRn.out⟩
                        case measure => simp [intOf]; omega
              · have hke : H = k := by omega
                subst hke
                obtain ⟨P, Q, cC', cH', hS, hTC, hTH, hTP, hTQ, hPQ⟩ := hRS
                have cm := hS.cell
                have fm := hS.frz
                have HFin : Hid ((∃ (Bm : Nat) (X Y : Tb) (ch : Bool), Value.pointer (some ⟨wr.heap.size, 0, none⟩) = .pointer (some ⟨Bm, 0, none⟩) ∧ SS w1 n H goC goH bc bh Bm X Y ch (wr.alloc (.cells #[.bool (cC' || cH')] 4)) ∧ JMid n H (firstT g (V : Int) (T0 : Int)) (allA g id H) X ∧ JMid n H (firstT g (V : Int) (T0 : Int)) (allA g (fun _ => 1) H) Y ∧ Tm n H X ∧ Tm n H Y ∧ Pr n H X Y ∧ (ch = false → JBest n H (firstT g (V : Int) (T0 : Int)) (allA g id H) X ∧ JBest n H (firstT g (V : Int) (T0 : Int)) (allA g (fun _ => 1) H) Y)) ∧ 2 * (tsum (rdT (wr.alloc (.cells #[.bool (cC' || cH')] 4)) bc H) + tsum (rdT (wr.alloc (.cells #[.bool (cC' || cH')] 4)) bh H)) + flagAt (wr.alloc (.cells #[.bool (cC' || cH')] 4)) (.pointer (some ⟨wr.heap.size, 0, none⟩)) < 2 * (tsum X + tsum Y) + 1) := by
                  have SB := ss_box hS.c hS.y HD.out hS.bel (cC' || cH')
                  refine ⟨⟨wr.heap.size, P, Q, cC' || cH', rfl, SB, hTC.mid, hTH.mid, hTP, hTQ, hPQ, fun hf => ?_⟩, ?_⟩
                  · rw [Bool.or_eq_false_iff] at hf
                    obtain ⟨rfl, rfl⟩ := hf
                    exact ⟨tn_end hTC, tn_end hTH⟩
                  · rw [SB.c.rd (by rw [hTC.mid.shp.rows, HD.out.lc]), SB.y.rd (by rw [hTH.mid.shp.rows, HD.out.lh]), SB.flag]
                    have s1 := hTC.sum
                    have s2 := hTH.sum
                    cases cC' with
                    | true => have := hTC.less rfl; simp; omega
                    | false =>
                      cases cH' with
                      | true => have := hTH.less rfl; simp; omega
                      | false => simp; omega
                clear hS hTC hTH hTP hTQ hPQ
                go_wp2_with fail
                rw [HMs.out]
                exact HFin.out

end Go.Proofs.Ytkgbgkcbflicmac

namespace Go.Proofs.Ytkgbgkcbflicmac
open Go.RowKit

/-- the first time at which a number is told, of the last j of h times -/
def arrG (f : Nat → Int) (h : Nat) : Nat → Int
  | 0 => 1099511627776
  | j + 1 => if f (h - (j + 1)) < 1099511627776 then ((h - (j + 1) : Nat) : Int) else arrG f h j
/-- of the first k vertices -/
def arrL (X : Tb) (h k : Nat) : List Int := (List.range k).map fun v => arrG (tat X v) h h
theorem arrL_succ (X : Tb) (h k : Nat) : (arrL X h (k + 1)).map (Value.int .i64) = (arrL X h k).map (Value.int .i64) ++ [.int .i64 (arrG (tat X k) h h)] := by simp [arrL, List.range_succ]
theorem arrL_len (X : Tb) (h k : Nat) : (arrL X h k).length = k := by simp [arrL]

set_option maxRecDepth 100000 in
set_option maxHeartbeats 4000000 in
theorem Arrivals_any (g : Gr) (la ea : Option Addr) (lc ec : Nat) (v t : Int) (w : World) (hG : GAt w la ea g) (hpl : placeE g v t = 0) :
    Calls Try.prog 17 #[.agg #[.int .i64 g.hor, .slice la g.lives.length lc, .slice ea g.edges.length ec], .int .i64 v, .int .i64 t] w fun r w' => ∃ u X Y, r = .returned u ∧ SumIs g v t X Y ∧ w'.ownsRow w.heap.size 3 1 u g.lives.length ((arrL X g.hor.toNat g.lives.length).map (Value.int .i64)) ∧ Below w.heap.size w w' := by
  obtain ⟨i0, hi, hz0, hz1, hz2⟩ := info_parts Try.infoInt
  have hR := gChk_right (placeE_zero hpl).1
  have hor := hR.hor
  have hlv := hR.lvs
  obtain ⟨H, hH⟩ : ∃ H : Nat, H = g.hor.toNat := ⟨_, rfl⟩
  obtain ⟨n, hn⟩ : ∃ n : Nat, n = g.lives.length := ⟨_, rfl⟩
  have hHi : g.hor = (H : Int) := by omega
  have hH1 : 1 ≤ H ∧ H ≤ 100 := by omega
  have hn12 : n ≤ 12 := by omega
  obtain ⟨w1, hw1⟩ : ∃ x, x = w.alloc (.cells #[.int .i64 g.hor, .slice la g.lives.length lc, .slice ea g.edges.length ec] 25) := ⟨_, rfl⟩
  have B1 : GBox w w1 w.heap.size g la ea lc ec := by rw [hw1]; exact gbox_start w g la ea lc ec _
  have hSm := Sums_any g la ea lc ec v t w1 (hG.below B1.bel) hpl
  have HSm := hideg hSm
  have HB1 := hideg B1
  have b0 := B1.c0
  have b1 := B1.c1
  have b2 := B1.c2
  have hw1s := hw1.symm
  rw [← hn, ← hH] at HSm ⊢
  rw [hHi] at HSm b0 hw1s ⊢
  rw [← hn] at b1 hw1s
  have HHi := hideg hHi
  have HN := hideg hn
  have HH := hideg hH
  clear hpl hR hG hw1 B1 hSm hHi hn hH hor hlv
  go_enter Try.func17, Try.ntmps17
  go_wp2_with fail
  clear hw1s
  refine HSm.out.mono ?_
  rintro r w2 ⟨goC, cC, goH, cH, bc, bh, X, Y, rfl, hMC, hMH, hlc, hlh, hSI, hb2⟩
  have B2 := HB1.out.below hb2
  have HB2 := hideg B2
  clear b0 b1 b2
  have b0 := B2.c0
  have b1 := B2.c1
  rw [HHi.out] at b0
  rw [← HN.out] at b1
  have HMC := hideg hMC
  have HSI := hideg hSI
  have HLC := hideg hlc
  have hs2 := hb2.size
  clear hMC hMH hlc hlh HSm HB1 B2 hb2 hSI
  go_wp2_with fail
  go_loopw [9, 10] (fun u i wr => ∃ k : Nat, k ≤ n ∧ i = .int .i64 k ∧ wr.ownsRow w2.heap.size 3 1 u k ((arrL X H k).map (Value.int .i64)) ∧ Below w2.heap.size w2 wr) (fun _ i _ => n - (intOf i).toNat)
  case atStart => exact ⟨0, Nat.zero_le _, rfl, World.ownsRow_nil _ _ _ _, Below.refl _ _⟩
  case round =>
    clear b0 b1
    obtain ⟨k, hk, rfl, hown, hb⟩ := hrel
    have BR := HB2.out.below hb
    have b0 := BR.c0
    have b1 := BR.c1
    rw [HHi.out] at b0
    rw [← HN.out] at b1
    have hsz := hb.size
    by_cases hkn : k < n
    · have MR := HMC.out.below hb
      have x0 := MR.out k (by rw [HLC.out]; exact hkn)
      have HX1 := hideg (fun t (ht : t < H) => MR.cell (v := k) (by rw [HLC.out]; exact hkn) ht)
      have hki : (k : Int) < (n : Int) := by omega
      have hwH : IntKind.i64.wrap ((H : Int) - 1) = (H : Int) - 1 := wrap_nr _ (by omega) (by omega)
      have HOwn := hideg hown
      have HBb := hideg hb
      have HSu := hideg (arrL_succ X H k)
      clear MR BR hown hb
      go_wp2_with fail
      go_loopw [11, 12] (fun nn tt wq => ∃ j : Nat, j ≤ H ∧ tt = .int .i64 ((H : Int) - 1 - j) ∧ nn = .int .i64 (arrG (tat X k) H j) ∧ wq = wr) (fun _ tt _ => (intOf tt + 1).toNat)
      case atStart => exact ⟨0, Nat.zero_le _, by simp, rfl, rfl⟩
      case round =>
        obtain ⟨j, hj, rfl, rfl, rfl⟩ := hrel
        by_cases hjH : j < H
        · obtain ⟨q, hq⟩ : ∃ q : Nat, (H : Int) - 1 - j = (q : Int) := ⟨H - (j + 1), by omega⟩
          have hqH : q < H := by omega
          have x1 := HX1.out q hqH
          have hqi : (q : Int) < (H : Int) := by omega
          have hq0 : (0 : Int) ≤ (q : Int) := by omega
          have hqn : H - (j + 1) = q := by omega
          have hww : IntKind.i64.wrap ((q : Int) - 1) = (q : Int) - 1 := wrap_nr _ (by omega) (by omega)
          rw [hq]
          by_cases hlt : tat X k q < 1099511627776
          · have d1 : decide (tat X k q < 1099511627776) = true := by simpa using hlt
            have HA : Hid (arrG (tat X k) H (j + 1) = (q : Int)) := by show _ = _; rw [arrG, hqn, if_pos hlt]
            clear hlt hqn
            go_wp2
            go_roundw
            case rel => exact ⟨j + 1, by omega, by simp; omega, by rw [HA.out], by first | rfl | trivial⟩
            case measure => simp [intOf] <;> omega
          · have d1 : decide (tat X k q < 1099511627776) = false := by simpa using hlt
            have HA : Hid (arrG (tat X k) H (j + 1) = arrG (tat X k) H j) := by show _ = _; rw [arrG, hqn, if_neg hlt]
            clear hlt hqn
            go_wp2
            go_roundw
            case rel => exact ⟨j + 1, by omega, by simp; omega, by rw [HA.out], by first | rfl | trivial⟩
            case measure => simp [intOf] <;> omega
        · have hje : H = j := by omega
          subst hje
          rw [show (H : Int) - 1 - (H : Int) = -1 from by omega]
          generalize arrG (tat X k) H H = m at HSu ⊢
          have hown := HOwn.out
          have hkw : IntKind.i64.wrap ((k : Int) + 1) = (k : Int) + 1 := wrap_nr _ (by omega) (by omega)
          clear x0 HX1 b0 b1
          go_wp2_with (at_builtin; refine wpList_append_own _ rfl _ _ 28 rfl w2.heap.size 3 i0 (.int .i64 0) 1 8 Try.underlying28 hi hz0 hz1 hz2 rfl (by decide) _ _ _ rfl (World.ownsRow.alloc (w := wr) hown _) ⟨wr.heap.size, 0, none⟩ 1 1 [.int .i64 m] rfl rfl (cell_one_new _ _ _) (by intro u hu; simp at hu; subst hu; rfl) (by unfold maxLen; omega) (by omega) (by simp; omega) ?_; intro v' w5 hown5 hgrow _)
          have hb5 := (HBb.out.alloc hsz _).grown hgrow (by simp; omega) (fun q hq => (hown.lt q hq).1)
          exact ⟨⟨k + 1, by omega, by go_num, by rw [HSu.out]; exact hown5, hb5⟩, by simp [intOf]; omega⟩
    · have hke : n = k := by omega
      subst hke
      have HO := hideg hown
      have HBb := hideg hb
      clear hown hb
      go_wp2
      go_ret
      exact ⟨_, X, Y, rfl, HSI.out, owns_base2 HO.out HB2.out.bel.size, (HB2.out.below HBb.out).bel⟩

end Go.Proofs.Ytkgbgkcbflicmac

namespace Go.Proofs.Ytkgbgkcbflicmac
open Go.RowKit

open Classical in
noncomputable def arrF (g : Gr) (v t : Int) : List Int := if h : ∃ p : Tb × Tb, SumIs g v t p.1 p.2 then arrL (Classical.choose h).1 g.hor.toNat g.lives.length else []
theorem arrF_eq {g : Gr} {v t : Int} {X Y : Tb} (S : SumIs g v t X Y) : arrF g v t = arrL X g.hor.toNat g.lives.length := by
  have h : ∃ p : Tb × Tb, SumIs g v t p.1 p.2 := ⟨(X, Y), S⟩
  unfold arrF
  rw [dif_pos h, jbest_unique (Classical.choose_spec h).costs S.costs]
theorem arrG_range (f : Nat → Int) (h : Nat) : ∀ j, j ≤ h → arrG f h j = 1099511627776 ∨ (0 ≤ arrG f h j ∧ arrG f h j < (h : Int))
  | 0, _ => .inl rfl
  | j + 1, hj => by
    rw [arrG]
    split
    · right; omega
    · exact arrG_range f h j (by omega)
theorem arrL_get (X : Tb) (h k v : Nat) (hv : v < k) : (arrL X h k).getD v 0 = arrG (tat X v) h h := by simp [arrL, List.getD_eq_getElem?_getD, hv]
theorem placeE_of {g : Gr} {v t : Int} (h : gChk g = 0) (h1 : 0 ≤ v ∧ v < (g.lives.length : Int)) (h2 : 0 ≤ t ∧ t < g.hor) : placeE g v t = 0 := by
  unfold placeE
  rw [if_pos h, if_pos ((inR_iff _ _ _).2 ⟨h1.1, by omega⟩), if_pos ((inR_iff _ _ _).2 ⟨h2.1, by omega⟩)]

theorem Arr_fn (g : Gr) (la ea : Option Addr) (lc ec : Nat) (v t : Int) (w : World) (hG : GAt w la ea g) (hpl : placeE g v t = 0) :
    Calls Try.prog 17 #[.agg #[.int .i64 g.hor, .slice la g.lives.length lc, .slice ea g.edges.length ec], .int .i64 v, .int .i64 t] w fun r w' => ∃ gq cap, r = .returned (.slice (some ⟨gq, 0, none⟩) g.lives.length cap) ∧ Zo w' w.heap.size gq g.lives.length cap (arrF g v t) ∧ (∀ q, q < g.lives.length → (arrF g v t).getD q 0 = 1099511627776 ∨ (0 ≤ (arrF g v t).getD q 0 ∧ (arrF g v t).getD q 0 < g.hor)) ∧ Below w.heap.size w w' := by
  refine (Arrivals_any g la ea lc ec v t w hG hpl).mono ?_
  rintro r w' ⟨u, X, Y, rfl, S, hown, hb⟩
  obtain ⟨h0, hv, ht⟩ := placeE_zero hpl
  have hor := (gChk_right h0).hor
  rw [← arrF_eq S] at hown
  rcases hown.2 with ⟨_, h0⟩ | ⟨ga, ca, cur, e, _⟩
  · omega
  subst e
  refine ⟨ga, ca, rfl, hown, fun q hq => ?_, hb⟩
  rw [arrF_eq S, arrL_get _ _ _ _ hq]
  rcases arrG_range (tat X q) g.hor.toNat g.hor.toNat (Nat.le_refl _) with e | e
  · exact .inl e
  · right; omega

end Go.Proofs.Ytkgbgkcbflicmac

namespace Go.Proofs.Ytkgbgkcbflicmac
open Go.RowKit

/-- the latest of the first k times at which one may be at v, to be at q by d -/
noncomputable def depG (g : Gr) (q d v : Nat) : Nat → Int
  | 0 => -1
  | k + 1 => if aliveB (k : Int) g.lives (v : Int) = true ∧ (arrF g v k).getD q 0 ≤ (d : Int) then (k : Int) else depG g q d v k
noncomputable def depV (g : Gr) (q d v : Nat) : Int := if aliveB (d : Int) g.lives (q : Int) = true then depG g q d v (d + 1) else -1
noncomputable def depL (g : Gr) (q d k : Nat) : List Int := (List.range k).map fun v => depV g q d v
theorem depL_succ (g : Gr) (q d k : Nat) : (depL g q d (k + 1)).map (Value.int .i64) = (depL g q d k).map (Value.int .i64) ++ [.int .i64 (depV g q d k)] := by simp [depL, List.range_succ]

end Go.Proofs.Ytkgbgkcbflicmac

namespace Go.Proofs.Ytkgbgkcbflicmac
open Go.RowKit

theorem arrG_spec (f : Nat → Int) (h : Nat) : ∀ j, j ≤ h → (arrG f h j = 1099511627776 ∨ ∃ t, t < h ∧ arrG f h j = (t : Int) ∧ f t < 1099511627776) ∧ ∀ t, h - j ≤ t → t < h → f t < 1099511627776 → arrG f h j ≤ (t : Int)
  | 0, _ => ⟨.inl rfl, fun t h1 h2 _ => by omega⟩
  | j + 1, hj => by
    obtain ⟨h1, h2⟩ := arrG_spec f h j (by omega)
    rw [arrG]
    split
    · rename_i hf
      exact ⟨.inr ⟨h - (j + 1), by omega, rfl, hf⟩, fun t k1 k2 k3 => by omega⟩
    · rename_i hf
      refine ⟨h1, fun t k1 k2 k3 => ?_⟩
      by_cases e : t = h - (j + 1)
      · subst e; exact absurd k3 hf
      · exact h2 t (by omega) k2 k3
theorem list_ext_getD {a b : List Int} (h : a.length = b.length) (k : ∀ v, v < a.length → a.getD v 0 = b.getD v 0) : a = b := by
  apply List.ext_getElem h
  intro v h1 h2
  have := k v h1
  rw [List.getD_eq_getElem?_getD, List.getD_eq_getElem?_getD, List.getElem?_eq_getElem h1, List.getElem?_eq_getElem h2] at this
  exact this
theorem arr_is {g : Gr} (R : Right g) {v t : Int} (h0 : 0 ≤ v) {X Y : Tb} (S : SumIs g v t X Y) : arrL X g.hor.toNat g.lives.length = (erF g v t).1 := by
  have hh := R.hor
  have hr := sum_reach R (pr := id) (fun c h1 h2 => ⟨h1, h2⟩) h0 S.costs S.tmX
  refine list_ext_getD (by rw [arrL_len, (erF_len g v t).1]) fun x hx => ?_
  rw [arrL_len] at hx
  rw [arrL_get _ _ _ _ hx]
  obtain ⟨a1, a2⟩ := arrG_spec (tat X x) g.hor.toNat g.hor.toNat (Nat.le_refl _)
  by_cases ha : aliveB t g.lives v = true
  · obtain ⟨E, L⟩ := erF_ok R h0 ha
    rcases E.is x hx with e | e
    · rcases a1 with k | ⟨y, k1, k2, k3⟩
      · rw [k, e]
      · have := L x y ((hr x y hx k1).1 k3)
        simp only [Int.toNat_natCast] at this
        omega
    · have hp := e.place R h0
      generalize hz : (erF g v t).1.getD x 0 = z at *
      have e2 : z = ((z.toNat : Nat) : Int) := by omega
      have h1 := a2 z.toNat (by omega) (by omega) ((hr x z.toNat hx (by omega)).2 (by rw [← e2]; exact e))
      rcases a1 with k | ⟨y, k1, k2, k3⟩
      · omega
      · have := L x y ((hr x y hx k1).1 k3)
        simp only [Int.toNat_natCast] at this
        omega
  · rw [erF_away ha, rep_getD _ _ _ hx]
    rcases a1 with k | ⟨y, k1, k2, k3⟩
    · exact k
    · exact absurd ((hr x y hx k1).1 k3).src ha
theorem calls_some {P : Program} {f : FuncId} {args : Array Value} {w : World} {Q : Ending → World → Prop} (h : Calls P f args w Q) : ∃ e w', Q e w' := by
  obtain ⟨e, w', _, h, _⟩ := h []
  exact ⟨e, w', h⟩
theorem arrF_is {g : Gr} {la ea : Option Addr} {w : World} (hG : GAt w la ea g) {v t : Int} (hp : placeE g v t = 0) : arrF g v t = (erF g v t).1 := by
  obtain ⟨_, _, u, X, Y, _, S, _⟩ := calls_some (Arrivals_any g la ea 0 0 v t w hG hp)
  obtain ⟨h0, hv, ht⟩ := placeE_zero hp
  rw [arrF_eq S]
  exact arr_is (gChk_right h0) hv.1 S

theorem depG_spec (g : Gr) (q d v : Nat) : ∀ k, (depG g q d v k = -1 ∨ ∃ t, t < k ∧ depG g q d v k = ((t : Nat) : Int) ∧ aliveB (t : Int) g.lives (v : Int) = true ∧ (arrF g v t).getD q 0 ≤ (d : Int)) ∧ ∀ t : Nat, t < k → aliveB (t : Int) g.lives (v : Int) = true → (arrF g v t).getD q 0 ≤ (d : Int) → (t : Int) ≤ depG g q d v k
  | 0 => ⟨.inl rfl, fun t h => by omega⟩
  | k + 1 => by
    obtain ⟨h1, h2⟩ := depG_spec g q d v k
    rw [depG]
    split
    · rename_i h
      exact ⟨.inr ⟨k, by omega, rfl, h⟩, fun t k1 _ _ => by omega⟩
    · rename_i h
      refine ⟨?_, fun t k1 k2 k3 => ?_⟩
      · rcases h1 with e | ⟨t, e1, e2⟩
        · exact .inl e
        · exact .inr ⟨t, by omega, e2⟩
      · by_cases e : t = k
        · subst e; exact absurd ⟨k2, k3⟩ h
        · exact h2 t (by omega) k2 k3
theorem dep_is {g : Gr} {la ea : Option Addr} {w : World} (hG : GAt w la ea g) {q d : Nat} (hp : placeE g q d = 0) : depL g q d g.lives.length = ltF g q d := by
  obtain ⟨h0, hq, hd⟩ := placeE_zero hp
  have R := gChk_right h0
  refine list_ext_getD (by rw [ltF_len]; simp [depL]) fun x hx => ?_
  have hx : x < g.lives.length := by simpa [depL] using hx
  have e1 : (depL g q d g.lives.length).getD x 0 = depV g q d x := by simp [depL, List.getD_eq_getElem?_getD, hx]
  rw [e1]
  unfold depV
  by_cases ha : aliveB (d : Int) g.lives (q : Int) = true
  · rw [if_pos ha]
    obtain ⟨E, L⟩ := ltF_ok R (q := (q : Int)) (d := (d : Int)) (by omega) ha
    obtain ⟨a1, a2⟩ := depG_spec g q d x (d + 1)
    have hA : ∀ t : Nat, (t : Int) < g.hor → arrF g x t = (erF g x t).1 := fun t ht => arrF_is hG (placeE_of h0 ⟨by omega, by omega⟩ ⟨by omega, ht⟩)
    have hc : ∀ t : Nat, t < d + 1 → ((aliveB (t : Int) g.lives (x : Int) = true ∧ (arrF g x t).getD q 0 ≤ (d : Int)) ↔ Rch g x t q d) := fun t ht => by
      rw [hA t (by omega)]
      constructor
      · rintro ⟨k1, k2⟩
        obtain ⟨E1, _⟩ := erF_ok R (v := (x : Int)) (t := (t : Int)) (by omega) k1
        rcases E1.is q (by omega) with e | e
        · have := R.hor; omega
        · exact e.waits R k2 ha
      · intro k
        have := (erF_ok R (v := (x : Int)) (t := (t : Int)) (by omega) k.src).2 _ _ k
        exact ⟨k.src, by simpa using this⟩
    rcases E.is x hx with e | e
    · rw [e]
      rcases a1 with k | ⟨t, k1, k2, k3⟩
      · exact k
      · have := L x t (by omega) ((hc t k1).1 k3)
        simp only [Int.toNat_natCast] at this
        omega
    · have hp2 := alive_hor R e.src
      have hle := e.le R
      generalize hz : (ltF g q d).getD x 0 = z at *
      have e2 : z = ((z.toNat : Nat) : Int) := by omega
      rw [e2] at e
      have k0 := (hc z.toNat (by omega)).2 e
      have h1 := a2 z.toNat (by omega) k0.1 k0.2
      rcases a1 with k | ⟨t, k1, k2, k3⟩
      · omega
      · have := L x t (by omega) ((hc t k1).1 k3)
        simp only [Int.toNat_natCast] at this
        omega
  · rw [if_neg ha, ltF_away ha, rep_getD _ _ _ hx]

end Go.Proofs.Ytkgbgkcbflicmac

namespace Go.Proofs.Ytkgbgkcbflicmac
open Go.RowKit

/-- which one of a list it is: -1 if it is none -/
def intIx (h : Int) (l : List Int) (r : Int) : Prop := (h ∈ l ∧ 0 ≤ r) ∨ (h ∉ l ∧ r < 0)
set_option maxHeartbeats 1000000 in
theorem IndexInt_any (ao : Option Addr) (ca : Nat) (l : List Int) (h : Int) (w : World) (hA : ZsAt w ao l) (hl : l.length ≤ 9223372036854775807) :
    Calls Try.prog 35 #[.slice ao l.length ca, .int .i64 h] w fun e w' => (∃ r, e = .returned (.int .i64 r) ∧ intIx h l r) ∧ Below w.heap.size w w' := by
  go_enter Try.func35, Try.ntmps35
  go_wp2
  go_loopw [5, 8] (fun _ i wr => ∃ k : Nat, k ≤ l.length ∧ i = .int .i64 k ∧ h ∉ l.take k ∧ Below w.heap.size w wr) (fun _ i _ => l.length - (intOf i).toNat)
  case atStart => exact ⟨0, Nat.zero_le _, rfl, by simp, Below.refl _ _⟩
  case round =>
    obtain ⟨k, hk, rfl, hh, hb⟩ := hrel
    have HH := hideg hh
    clear hh
    by_cases hlt : k < l.length
    · have hki : (k : Int) < (l.length : Int) := by omega
      rcases hA.below hb with h0 | ⟨b, off, rfl, hbr, hc⟩
      · subst h0; simp at hlt
      have c0 := hc k hlt
      rw [List.getD_eq_getElem?_getD, List.getElem?_eq_getElem hlt, Option.getD_some] at c0
      clear hc hA
      by_cases g : h = l[k]
      · have HC : Hid (h ∈ l) := by show h ∈ l; rw [g]; exact List.getElem_mem hlt
        have e1 : (h == l[k]) = true := by simpa using g
        generalize l[k] = y at *
        clear g
        go_wp2
        go_ret
        exact ⟨⟨_, rfl, .inl ⟨HC.out, by omega⟩⟩, hb⟩
      · have HC : Hid (h ∉ l.take (k + 1)) := by
          show h ∉ _
          rw [List.take_succ_eq_append_getElem hlt, List.mem_append, List.mem_singleton]
          rintro (h' | h')
          · exact HH.out h'
          · exact g h'
        have e1 : (h == l[k]) = false := by simpa using g
        generalize l[k] = y at *
        clear g
        go_wp2
        go_roundw
        case rel => exact ⟨k + 1, by omega, by go_num, HC.out, hb⟩
        case measure => simp [intOf]; omega
    · have hkl : k = l.length := by omega
      have HC : Hid (h ∉ l) := by have := HH.out; rwa [hkl, List.take_length] at this
      subst hkl
      go_wp2
      go_ret
      exact ⟨⟨_, rfl, .inr ⟨HC.out, by omega⟩⟩, hb⟩

set_option maxHeartbeats 1000000 in
theorem ContainsInt_any (ao : Option Addr) (ca : Nat) (l : List Int) (h : Int) (w : World) (hA : ZsAt w ao l) (hl : l.length ≤ 9223372036854775807) :
    Calls Try.prog 19 #[.slice ao l.length ca, .int .i64 h] w fun e w' => e = .returned (.bool (decide (h ∈ l))) ∧ Below w.heap.size w w' := by
  have h1 := IndexInt_any ao ca l h w hA hl
  go_enter Try.func19, Try.ntmps19
  go_wp2_with fail
  refine h1.mono ?_
  rintro e w1 ⟨⟨r, rfl, hr⟩, hb1⟩
  clear h1
  rcases hr with ⟨k1, k2⟩ | ⟨k1, k2⟩
  · have HD : Hid (decide (h ∈ l) = true) := by show _ = _; simpa using k1
    have d : decide (0 ≤ r) = true := by simpa using k2
    clear k1 k2
    go_wp2
    go_ret
    exact ⟨by rw [HD.out]; rfl, hb1⟩
  · have HD : Hid (decide (h ∈ l) = false) := by show _ = _; simpa using k1
    have d : decide (0 ≤ r) = false := by simpa using k2
    clear k1 k2
    go_wp2
    go_ret
    exact ⟨by rw [HD.out]; rfl, hb1⟩

end Go.Proofs.Ytkgbgkcbflicmac

namespace Go.Proofs.Ytkgbgkcbflicmac
open Go.RowKit

theorem results_tmp4 {fn : Func} {t u v x : Tmp} (h : fn.results = #[.tmp t, .tmp u, .tmp v, .tmp x]) (tmps : Array Value) (P : Program) (w : World) :
    (results fn tmps).run P w = .ok (.tuple #[tmps.getD t undef, tmps.getD u undef, tmps.getD v undef, tmps.getD x undef]) w := by
  simp [results, h]

/-- what Go hands back -/
def goV (a : Int × Int × Int × Int) : Value := .tuple #[.int .i64 a.1, .int .i64 a.2.1, .int .i64 a.2.2.1, .int .i64 a.2.2.2]
/-- a state on the way is fine -/
def JSt (k : Nat) (s : Int × Int × Int) : Prop := 0 ≤ s.2.2 ∧ s.2.2 ≤ 1000 * (k : Int)
theorem hopF_out {g : Gr} {s : Int × Int × Int} {h : Hp} (k : inR h.1 0 ((g.edges.length : Int) - 1) = false) : hopF g s h = none := by unfold hopF; rw [k]; rfl
theorem hopF_not {g : Gr} {s : Int × Int × Int} {h : Hp} {E : Nat} (e : h.1 = (E : Int)) (hE : E < g.edges.length) (k : ¬ (g.edges[E].1 = s.1 ∧ s.2.1 ≤ h.2)) : hopF g s h = none := by
  unfold hopF
  have hg : g.edges.getD h.1.toNat (0, 0, []) = g.edges[E] := by rw [e, Int.toNat_natCast, List.getD_eq_getElem?_getD, List.getElem?_eq_getElem hE]; rfl
  rw [hg, if_neg k]; simp
theorem hopF_yes {g : Gr} {s : Int × Int × Int} {h : Hp} {E : Nat} (e : h.1 = (E : Int)) (hE : E < g.edges.length) (k : g.edges[E].1 = s.1 ∧ s.2.1 ≤ h.2) : hopF g s h = (lands g g.edges[E] h.2).map fun q => (g.edges[E].2.1, q.1, s.2.2 + q.2) := by
  unfold hopF
  have hg : g.edges.getD h.1.toNat (0, 0, []) = g.edges[E] := by rw [e, Int.toNat_natCast, List.getD_eq_getElem?_getD, List.getElem?_eq_getElem hE]; rfl
  rw [if_pos ((inR_iff _ _ _).2 (by omega)), hg, if_pos k]
  cases lands g g.edges[E] h.2 <;> rfl

set_option maxRecDepth 100000 in
set_option maxHeartbeats 8000000 in
theorem RGo_any (g : Gr) (la ea : Option Addr) (lc ec : Nat) (v t : Int) (ho : Option Addr) (hc : Nat) (l : List Hp) (w : World) (hG : GAt w la ea g) (hH : IvAt w ho l) (hlen : l.length ≤ 9223372036854775807) :
    Calls Try.prog 34 #[.agg #[.int .i64 g.hor, .slice la g.lives.length lc, .slice ea g.edges.length ec], .int .i64 v, .int .i64 t, .slice ho l.length hc] w fun r w' => r = .returned (goV (goAns g v t l)) ∧ Below w.heap.size w w' := by
  have B0 := gbox_start w g la ea lc ec 25
  have h1 := Place_any g la ea lc ec v t _ (hG.below B0.bel)
  by_cases e1 : placeE g v t = 0
  case neg =>
    have HP : Hid (goAns g v t l = (0, 0, 0, placeE g v t)) := by show _ = _; unfold goAns; rw [if_neg e1]
    have d1 : (placeE g v t != 0) = true := by simpa using e1
    generalize placeE g v t = n at *
    clear e1 hG hH
    go_enter Try.func34, Try.ntmps34
    go_wp2_with fail
    refine h1.mono ?_
    rintro r w1 ⟨rfl, hb1⟩
    have hbF := (B0.below hb1).bel
    clear h1 hb1 B0
    go_wp2
    (try simp only [Exit.inBlock, Exit.then]); refine bodyPost_ret (results_tmp4 rfl _ _ _) rfl ?_
    exact ⟨by rw [HP.out]; rfl, hbF⟩
  rw [e1] at h1
  obtain ⟨hg0, ⟨hv0, hv1⟩, ht0, ht1⟩ := placeE_zero e1
  have hR := gChk_right hg0
  by_cases h500 : 500 < l.length
  · have HP : Hid (goAns g v t l = (0, 0, 0, 2)) := by show _ = _; unfold goAns; rw [if_pos e1, if_pos h500]
    clear e1 hG hH
    go_enter Try.func34, Try.ntmps34
    go_wp2_with fail
    refine h1.mono ?_
    rintro r w1 ⟨rfl, hb1⟩
    have hbF := (B0.below hb1).bel
    clear h1 hb1 B0
    go_wp2
    (try simp only [Exit.inBlock, Exit.then]); refine bodyPost_ret (results_tmp4 rfl _ _ _) rfl ?_
    exact ⟨by rw [HP.out]; rfl, hbF⟩
  have h500' : l.length ≤ 500 := by omega
  obtain ⟨s0, hs0⟩ : ∃ s0, s0 = (if aliveB t g.lives v = true then some (v, t, (0 : Int)) else none) := ⟨_, rfl⟩
  have HP5 : Hid (goF g s0 l = none → goAns g v t l = (0, 0, 0, 5)) := by intro h; unfold goAns; rw [if_pos e1, if_neg h500, ← hs0, h]
  have HP0 : Hid (∀ s, goF g s0 l = some s → goAns g v t l = (s.1, s.2.1, s.2.2, 0)) := by intro s h; unfold goAns; rw [if_pos e1, if_neg h500, ← hs0, h]
  obtain ⟨V, rfl⟩ : ∃ V : Nat, v = (V : Int) := ⟨v.toNat, by omega⟩
  have hed := hR.eds
  have hlv := hR.lvs
  have hAl := fun W (h : Below w.heap.size w W) => Alive_any g.hor la ea lc g.edges.length ec g.lives V t W ((hG.below h).lv) (by omega) (by omega)
  have HG := hideg hG
  have HH := hideg hH
  have HRt := hideg hR
  have hw1 : IntKind.i64.wrap ((g.edges.length : Int) - 1) = (g.edges.length : Int) - 1 := wrap_nr _ (by omega) (by omega)
  clear e1 hG hH h500 hR hg0 hv1 hlv
  go_enter Try.func34, Try.ntmps34
  go_wp2_with fail
  refine h1.mono ?_
  rintro r w1 ⟨rfl, hb1⟩
  have B1 := B0.below hb1
  have g0 := B1.c0
  have g1 := B1.c1
  have g2 := B1.c2
  have hbx := B1.bel
  clear h1 hb1 B0
  go_wp2_with fail
  refine (hAl _ hbx).mono ?_
  rintro r w2 ⟨rfl, hb2⟩
  have B2 := B1.below hb2
  have HB2 := hideg B2
  have hst : ∃ ok, ok = aliveB t g.lives (V : Int) := ⟨_, rfl⟩
  obtain ⟨ok, hok⟩ := hst
  rw [← hok]
  have HS0 : Hid ((∃ s, goF g s0 (l.take 0) = some s ∧ (V : Int) = s.1 ∧ t = s.2.1 ∧ (0 : Int) = s.2.2 ∧ ok = true ∧ JSt 0 s) ∨ (goF g s0 (l.take 0) = none ∧ ok = false)) := by
    rw [List.take_zero]
    cases ok with
    | true => left; exact ⟨((V : Int), t, 0), by rw [hs0, ← hok]; rfl, rfl, rfl, rfl, rfl, by unfold JSt; simp⟩
    | false => right; exact ⟨by rw [hs0, ← hok]; rfl, rfl⟩
  clear hAl hb2 hbx g0 g1 g2 B1 B2 hs0 hok
  go_wp2_with fail
  go_loopw [8, 9, 10, 13, 14] (fun a b c o i wr => ∃ k : Nat, k ≤ l.length ∧ i = .int .i64 k ∧ ((∃ s, goF g s0 (l.take k) = some s ∧ a = .int .i64 s.1 ∧ b = .int .i64 s.2.1 ∧ c = .int .i64 s.2.2 ∧ o = .bool true ∧ JSt k s) ∨ (goF g s0 (l.take k) = none ∧ o = .bool false)) ∧ Below w2.heap.size w2 wr) (fun _ _ _ _ i _ => l.length - (intOf i).toNat)
  case atStart =>
    refine ⟨0, Nat.zero_le _, rfl, ?_, Below.refl _ _⟩
    rcases HS0.out with ⟨s, h1, h2, h3, h4, h5, h6⟩ | ⟨h1, h2⟩
    · exact .inl ⟨s, h1, by rw [h2], by rw [h3], by rw [h4], by rw [h5], h6⟩
    · exact .inr ⟨h1, by rw [h2]⟩
  case round =>
    obtain ⟨k, hk, rfl, hstate, hb⟩ := hrel
    have BR := HB2.out.below hb
    have g0 := BR.c0
    have g1 := BR.c1
    have g2 := BR.c2
    have hbx := BR.bel
    rcases hstate with ⟨s, hs, rfl, rfl, rfl, rfl, hJ⟩ | ⟨hs, rfl⟩
    · have HSs := hideg hs
      clear hs
      obtain ⟨hJ0, hJ1⟩ := hJ
      by_cases hlt : k < l.length
      · have hsz := BR.lt
        rcases HH.out.below hbx with h0 | ⟨b, off, rfl, hbr, hcc⟩
        · subst h0; simp at hlt
        obtain ⟨c0, c1⟩ := IvAt.get hlt hcc
        have HT := hideg (goF_take (g := g) (s := s0) hlt)
        rw [HSs.out, Option.bind_some] at HT
        obtain ⟨w7, hw7⟩ : ∃ x, x = wr.alloc (.cells #[.int .i64 l[k].1, .int .i64 l[k].2] 48) := ⟨_, rfl⟩
        have hal : Below wr.heap.size wr w7 := by rw [hw7]; exact gal wr _
        have B7 := BR.below hal
        have b0 : w7.cell? ⟨wr.heap.size, 0, none⟩ = some (.int .i64 l[k].1) := by rw [hw7]; simp
        have b1 : w7.cell? ⟨wr.heap.size, 1, none⟩ = some (.int .i64 l[k].2) := by rw [hw7]; simp
        have hb7 := ptg hb hal
        have i1 := fun W => In_any l[k].1 0 ((g.edges.length : Int) - 1) W
        have hw7s := hw7.symm
        clear hcc hw7 hal hb
        cases q1 : inR l[k].1 0 ((g.edges.length : Int) - 1) with
        | false =>
          have HE := hideg (HP5.out (goF_stuck (k := k + 1) (by rw [HT.out]; exact hopF_out q1)))
          rw [q1] at i1
          clear q1
          have x0 := B7.c0
          have x2 := B7.c2
          have hbF := B7.bel
          clear g0 g1 g2 B7 BR
          go_wp2_with (go_at_call 13; refine (i1 _).mono ?_; rintro e w' ⟨rfl, rfl⟩)
          (try simp only [Exit.inBlock, Exit.then]); refine bodyPost_ret (results_tmp4 rfl _ _ _) rfl ?_
          exact ⟨by rw [HE.out]; rfl, by assumption⟩
        | true =>
          rw [q1] at i1
          have q1' := (inR_iff _ _ _).1 q1
          obtain ⟨E, eE⟩ : ∃ E : Nat, l[k].1 = (E : Int) := ⟨l[k].1.toNat, by omega⟩
          have hE : E < g.edges.length := by omega
          have HH1 := hideg eE
          rw [eE] at c0 b0 i1 hw7s
          have hmin : min (E : Int) ((g.edges.length : Int) - 1) = (E : Int) := by omega
          have hmax : max 0 (E : Int) = (E : Int) := by omega
          have hEi : (E : Int) < (g.edges.length : Int) := by omega
          have hE0 : (0 : Int) ≤ (E : Int) := by omega
          have x0 := B7.c0
          have x1 := B7.c1
          have x2 := B7.c2
          have hl7 := World.block_lt_of_cell? w7 _ b0
          rcases (HG.out.below B7.bel).ed with h0 | ⟨eb, eo, rfl, hebr, hec⟩
          · rw [h0] at hE; simp at hE
          obtain ⟨ee0, ee1, _⟩ := hec E hE
          have hLd := Lands_any g la (some ⟨eb, eo, none⟩) lc ec E l[k].2 w7 (HG.out.below B7.bel) HRt.out hE
          have hem := HRt.out.legs g.edges[E] (List.getElem_mem hE)
          have HEM := hideg hem
          have HYg := hideg (fun h => hopF_yes (s := s) HH1.out hE h)
          have HNg := hideg (fun h => hopF_not (s := s) HH1.out hE h)
          obtain ⟨ed, hed'⟩ : ∃ e, e = g.edges[E] := ⟨_, rfl⟩
          rw [← hed'] at HYg HNg HEM hLd ee0 ee1
          clear q1 q1' hec hem eE hed' HH1
          rcases (show E = 0 ∨ 0 < E by omega) with hz | hpos
          all_goals
            try subst hz
            try simp only [Nat.zero_mul, Nat.add_zero] at ee0 ee1
            try simp only [show ((0 : Nat) : Int) = 0 from rfl] at hw7s b0 i1 hLd c0
            by_cases ha : ed.1 = s.1
            · have d1 : (ed.1 == s.1) = true := by simpa using ha
              by_cases hd : s.2.1 ≤ l[k].2
              · have d2 : decide (s.2.1 ≤ l[k].2) = true := by simpa using hd
                have HY := hideg (HYg.out ⟨ha, hd⟩)
                clear ha hd
                unfold landsV at hLd
                cases hld : lands g ed l[k].2 with
                | none =>
                  rw [hld] at hLd HY
                  simp only [Option.getD_none, Option.isSome_none] at hLd
                  rw [HY.out] at HT
                  have HTn : Hid (goF g s0 (l.take (k + 1)) = none) := HT.out
                  clear hld HY HT
                  have B7' := hideg B7
                  clear B7 BR g0 g1 g2
                  go_wp2_with fail
                  refine (i1 _).mono ?_
                  rintro e w' ⟨rfl, hw'⟩
                  have hws := hw'.symm
                  subst hws
                  clear hw' i1
                  go_wp2_with fail
                  refine hLd.mono ?_
                  rintro r w8 ⟨rfl, hb8⟩
                  have B8 := B7'.out.below hb8
                  have y2 := B8.c2
                  have z0 := (hb8.cell (p := ⟨wr.heap.size, 0, none⟩) hl7).trans b0
                  have z1 := (hb8.cell (p := ⟨eb, _, none⟩) hebr).trans ee1
                  have hbb8 := ptg hb7 hb8
                  clear hLd hb8 x0 x1 x2 ee0 ee1 b0 b1 c0 c1 hw7s hb7
                  go_wp2
                  go_roundw
                  case rel => exact ⟨k + 1, by omega, by go_num, .inr ⟨HTn.out, rfl⟩, hbb8⟩
                  case measure => simp [intOf]; omega
                | some q =>
                  obtain ⟨lg, hlm, k1, k2, k3, hcq, k4⟩ := lands_spec (to := q.1) (c := q.2) hld
                  clear k1 k2 k3 k4
                  have hfit := (fitB_iff _ _).1 (HEM.out lg hlm)
                  rw [← hcq] at hfit
                  have hwc : IntKind.i64.wrap (s.2.2 + q.2) = s.2.2 + q.2 := wrap_nr _ (by omega) (by omega)
                  rw [hld] at hLd HY
                  simp only [Option.getD_some, Option.isSome_some] at hLd
                  rw [HY.out] at HT
                  have HTn : Hid (goF g s0 (l.take (k + 1)) = some (ed.2.1, q.1, s.2.2 + q.2)) := HT.out
                  have HJn : Hid (JSt (k + 1) (ed.2.1, q.1, s.2.2 + q.2)) := by show JSt _ _; unfold JSt; simp only; omega
                  clear hld HY HT hlm hcq hfit
                  have B7' := hideg B7
                  clear B7 BR g0 g1 g2
                  go_wp2_with fail
                  refine (i1 _).mono ?_
                  rintro e w' ⟨rfl, hw'⟩
                  have hws := hw'.symm
                  subst hws
                  clear hw' i1
                  go_wp2_with fail
                  refine hLd.mono ?_
                  rintro r w8 ⟨rfl, hb8⟩
                  have B8 := B7'.out.below hb8
                  have y2 := B8.c2
                  have z0 := (hb8.cell (p := ⟨wr.heap.size, 0, none⟩) hl7).trans b0
                  have z1 := (hb8.cell (p := ⟨eb, _, none⟩) hebr).trans ee1
                  have hbb8 := ptg hb7 hb8
                  clear hLd hb8 x0 x1 x2 ee0 ee1 b0 b1 c0 c1 hw7s hb7
                  go_wp2
                  go_roundw
                  case rel => exact ⟨k + 1, by omega, by go_num, .inl ⟨_, HTn.out, rfl, rfl, rfl, rfl, HJn.out⟩, hbb8⟩
                  case measure => simp [intOf]; omega
              · have d2 : decide (s.2.1 ≤ l[k].2) = false := by simpa using hd
                have HE := hideg (HP5.out (goF_stuck (k := k + 1) (by rw [HT.out]; exact HNg.out (fun h => hd h.2))))
                clear ha hd hLd
                have hbF := B7.bel
                clear B7 BR g0 g1 g2
                go_wp2_with (go_at_call 13; refine (i1 _).mono ?_; rintro e w' ⟨rfl, rfl⟩)
                (try simp only [Exit.inBlock, Exit.then]); refine bodyPost_ret (results_tmp4 rfl _ _ _) rfl ?_
                exact ⟨by rw [HE.out]; rfl, by assumption⟩
            · have d1 : (ed.1 == s.1) = false := by simpa using ha
              have HE := hideg (HP5.out (goF_stuck (k := k + 1) (by rw [HT.out]; exact HNg.out (fun h => ha h.1))))
              clear ha hLd
              have hbF := B7.bel
              clear B7 BR g0 g1 g2
              go_wp2_with (go_at_call 13; refine (i1 _).mono ?_; rintro e w' ⟨rfl, rfl⟩)
              (try simp only [Exit.inBlock, Exit.then]); refine bodyPost_ret (results_tmp4 rfl _ _ _) rfl ?_
              exact ⟨by rw [HE.out]; rfl, by assumption⟩
      · have hkl : k = l.length := by omega
        have HE : Hid (goAns g (V : Int) t l = (s.1, s.2.1, s.2.2, 0)) := HP0.out s (by have := HSs.out; rwa [hkl, List.take_length] at this)
        subst hkl
        go_wp2
        (try simp only [Exit.inBlock, Exit.then]); refine bodyPost_ret (results_tmp4 rfl _ _ _) rfl ?_
        exact ⟨by rw [HE.out]; rfl, hbx⟩
    · have HE := hideg (HP5.out (goF_stuck hs))
      clear hs
      go_wp2
      all_goals (try simp only [Exit.inBlock, Exit.then])
      all_goals refine bodyPost_ret (results_tmp4 rfl _ _ _) rfl ?_
      all_goals exact ⟨by rw [HE.out]; rfl, hbx⟩

end Go.Proofs.Ytkgbgkcbflicmac

namespace Go.Proofs.Ytkgbgkcbflicmac
open Go.RowKit

theorem zsAt_of_zoE {w : World} {base gb n cap : Nat} {x : List Int} (h : Zo w base gb n cap x) : ZsAt w (some ⟨gb, 0, none⟩) x := by
  obtain ⟨ao, c, e, hz⟩ := zsAt_of_owns h
  simp only [Value.slice.injEq] at e
  rw [e.1]; exact hz
theorem results_tmp3w {fn : Func} {t u v : Tmp} (h : fn.results = #[.tmp t, .tmp u, .tmp v]) (tmps : Array Value) (P : Program) (w : World) :
    (results fn tmps).run P w = .ok (.tuple #[tmps.getD t undef, tmps.getD u undef, tmps.getD v undef]) w := by
  simp [results, h]

set_option maxRecDepth 100000 in
set_option maxHeartbeats 400000 in
/-- where an error is asked and told -/
theorem ways_bad (g : Gr) (la ea : Option Addr) (lc ec : Nat) (v t q : Int) (lo : Option Addr) (ln lcap : Nat) (T : List Int) (ho : Option Addr) (hc : Nat) (e : Int) (w : World) (hG : GAt w la ea g)
    (h : (placeE g v t ≠ 0 ∧ e = placeE g v t) ∨ (placeE g v t = 0 ∧ e = 4 ∧ (¬ (0 ≤ q ∧ q < g.lives.length) ∨ (ln = g.lives.length ∧ T.length = ln ∧ ZsAt w lo T ∧ T.getD q.toNat 0 = 1099511627776 ∧ 0 ≤ q ∧ q < g.lives.length)))) :
    Calls Try.prog 18 #[.agg #[.int .i64 g.hor, .slice la g.lives.length lc, .slice ea g.edges.length ec], .int .i64 v, .int .i64 t, .int .i64 q, .slice lo ln lcap, .slice ho 0 hc, .int .i64 e] w fun r w' => r = .returned (.tuple #[.int .i64 0, .int .i64 0, .bool true]) ∧ Below w.heap.size w w' := by
  have B0 := gbx_start w g la ea lc ec 25
  have h1 := Place_any g la ea lc ec v t _ (hG.below B0.bel)
  rcases h with ⟨e1, rfl⟩ | ⟨e1, rfl, h⟩
  · have d0 : (placeE g v t == 0) = false := by simpa using e1
    have d1 : (placeE g v t != 0) = true := by simpa using e1
    have d2 : (placeE g v t == placeE g v t) = true := by simp
    generalize placeE g v t = n at *
    clear hG e1
    go_enter Try.func18, Try.ntmps18
    go_wp2_with fail
    refine h1.mono ?_
    rintro r w1 ⟨rfl, hb1⟩
    have hbF := (B0.below hb1).bel
    clear h1 hb1 B0
    go_wp2
    (try simp only [Exit.inBlock, Exit.then]); refine bodyPost_ret (results_tmp3w rfl _ _ _) rfl ?_
    exact ⟨rfl, hbF⟩
  · rw [e1] at h1
    have hIn := fun W => In_any q 0 ((g.lives.length : Int) - 1) W
    obtain ⟨hg0, _⟩ := placeE_zero e1
    have hn12 := (gChk_right hg0).lvs
    have hwn : IntKind.i64.wrap ((g.lives.length : Int) - 1) = (g.lives.length : Int) - 1 := wrap_nj _ (by omega) (by omega)
    clear hG e1 hg0
    rcases h with k | ⟨rfl, hTl, hZ, hTq, k0, k1⟩
    · have hi : inR q 0 ((g.lives.length : Int) - 1) = false := by
        cases hh : inR q 0 ((g.lives.length : Int) - 1) with
        | false => rfl
        | true => rw [inR_iff] at hh; exact absurd ⟨hh.1, by omega⟩ k
      rw [hi] at hIn
      clear k hi
      go_enter Try.func18, Try.ntmps18
      go_wp2_with fail
      refine h1.mono ?_
      rintro r w1 ⟨rfl, hb1⟩
      have B1 := B0.below hb1
      have g1 := B1.c1
      have hbF := B1.bel
      clear h1 hb1 B0 B1
      go_wp2_with fail
      refine (hIn _).mono ?_
      rintro r w2 ⟨rfl, rfl⟩
      clear hIn
      go_wp2
      (try simp only [Exit.inBlock, Exit.then]); refine bodyPost_ret (results_tmp3w rfl _ _ _) rfl ?_
      exact ⟨rfl, hbF⟩
    · have hi : inR q 0 ((g.lives.length : Int) - 1) = true := (inR_iff _ _ _).2 (by omega)
      rw [hi] at hIn
      obtain ⟨Y, rfl⟩ : ∃ Y : Nat, q = (Y : Int) := ⟨q.toNat, by omega⟩
      obtain ⟨b, off, rfl, hbr, hc'⟩ : ∃ b off, lo = some ⟨b, off, none⟩ ∧ b < w.heap.size ∧ w.cell? ⟨b, off + Y, none⟩ = some (.int .i64 1099511627776) := by
        rcases hZ with h0 | ⟨b, off, rfl, hbr, hc'⟩
        · rw [h0] at hTl; simp at hTl; omega
        · refine ⟨b, off, rfl, hbr, ?_⟩
          rw [hc' Y (by omega)]
          simp only [Int.toNat_natCast] at hTq
          rw [hTq]
      clear hi hZ hTq hTl
      go_enter Try.func18, Try.ntmps18
      go_wp2_with fail
      refine h1.mono ?_
      rintro r w1 ⟨rfl, hb1⟩
      have B1 := B0.below hb1
      have g1 := B1.c1
      have hbF := B1.bel
      have cY := (hbF.cell (p := ⟨b, off + Y, none⟩) hbr).trans hc'
      clear h1 hb1 B0 B1 hc'
      go_wp2_with fail
      refine (hIn _).mono ?_
      rintro r w2 ⟨rfl, rfl⟩
      clear hIn
      go_wp2
      (try simp only [Exit.inBlock, Exit.then]); refine bodyPost_ret (results_tmp3w rfl _ _ _) rfl ?_
      exact ⟨rfl, hbF⟩

set_option maxRecDepth 100000 in
set_option maxHeartbeats 400000 in
/-- where a journey is told that comes where it should -/
theorem ways_ok (g : Gr) (la ea : Option Addr) (lc ec : Nat) (v t : Int) (Y : Nat) (lo : Option Addr) (lcap : Nat) (T : List Int) (ho : Option Addr) (hc : Nat) (l : List Hp) (x c : Int) (w : World) (hG : GAt w la ea g)
    (e1 : placeE g v t = 0) (hY : Y < g.lives.length) (hTl : T.length = g.lives.length) (hZ : ZsAt w lo T) (hTq : T.getD Y 0 ≠ 1099511627776) (hH : IvAt w ho l) (hl : l.length ≤ 500) (hgo : goAns g v t l = ((Y : Int), x, c, 0)) :
    Calls Try.prog 18 #[.agg #[.int .i64 g.hor, .slice la g.lives.length lc, .slice ea g.edges.length ec], .int .i64 v, .int .i64 t, .int .i64 Y, .slice lo g.lives.length lcap, .slice ho l.length hc, .int .i64 0] w fun r w' => r = .returned (.tuple #[.int .i64 x, .int .i64 c, .bool true]) ∧ Below w.heap.size w w' := by
  have B0 := gbx_start w g la ea lc ec 25
  have h1 := Place_any g la ea lc ec v t _ (hG.below B0.bel)
  rw [e1] at h1
  have hIn := fun W => In_any (Y : Int) 0 ((g.lives.length : Int) - 1) W
  obtain ⟨hg0, _⟩ := placeE_zero e1
  have hn12 := (gChk_right hg0).lvs
  have hwn : IntKind.i64.wrap ((g.lives.length : Int) - 1) = (g.lives.length : Int) - 1 := wrap_nj _ (by omega) (by omega)
  have hi : inR (Y : Int) 0 ((g.lives.length : Int) - 1) = true := (inR_iff _ _ _).2 (by omega)
  rw [hi] at hIn
  have hGo := fun W (hb : Below w.heap.size w W) => RGo_any g la ea lc ec v t ho hc l W (hG.below hb) (hH.below hb) (by omega)
  rw [hgo] at hGo
  unfold goV at hGo
  simp only at hGo
  obtain ⟨b, off, rfl, hbr, hc'⟩ : ∃ b off, lo = some ⟨b, off, none⟩ ∧ b < w.heap.size ∧ w.cell? ⟨b, off + Y, none⟩ = some (.int .i64 (T.getD Y 0)) := by
    rcases hZ with h0 | ⟨b, off, rfl, hbr, hc'⟩
    · rw [h0] at hTl; simp at hTl; omega
    · exact ⟨b, off, rfl, hbr, hc' Y (by omega)⟩
  have dY : (T.getD Y 0 == 1099511627776) = false := by simpa using hTq
  have hYi : (Y : Int) < (g.lives.length : Int) := by omega
  generalize T.getD Y 0 = z at *
  have HGo := hideg hGo
  clear hi hZ hTq hTl hG e1 hg0 hH hgo hGo
  go_enter Try.func18, Try.ntmps18
  go_wp2_with fail
  refine h1.mono ?_
  rintro r w1 ⟨rfl, hb1⟩
  have B1 := B0.below hb1
  have g0 := B1.c0
  have g1 := B1.c1
  have g2 := B1.c2
  have hbF := B1.bel
  have cY := (hbF.cell (p := ⟨b, off + Y, none⟩) hbr).trans hc'
  clear h1 hb1 B0 B1 hc'
  go_wp2_with fail
  refine (hIn _).mono ?_
  rintro r w2 ⟨rfl, rfl⟩
  clear hIn
  go_wp2_with fail
  refine (HGo.out _ hbF).mono ?_
  rintro r w3 ⟨rfl, hb3⟩
  have hbE := ptg hbF hb3
  clear HGo hb3 hbF g0 g1 g2 cY
  go_wp2
  (try simp only [Exit.inBlock, Exit.then]); refine bodyPost_ret (results_tmp3w rfl _ _ _) rfl ?_
  exact ⟨rfl, hbE⟩

/-- the vertices by which one comes -/
def seenL (g : Gr) (v : Int) (l : List Hp) (k : Nat) : List Int := v :: (l.take k).map (edB g)
theorem seenL_succ {g : Gr} {v : Int} {l : List Hp} {k : Nat} (hk : k < l.length) : seenL g v l (k + 1) = seenL g v l k ++ [edB g l[k]] := by
  unfold seenL; rw [List.take_succ_eq_append_getElem hk, List.map_append]; rfl
theorem seenL_len {g : Gr} {v : Int} {l : List Hp} {k : Nat} (hk : k ≤ l.length) : (seenL g v l k).length = k + 1 := by unfold seenL; simp; omega
theorem seen_new {g : Gr} {T : List Int} {v q : Int} {l : List Hp} (W : WayTo g T v q l) {k : Nat} (hk : k < l.length) : edB g l[k] ∉ seenL g v l k := by
  unfold seenL
  rw [List.mem_cons, List.mem_map]
  rintro (h | ⟨h, hm, he⟩)
  · have := W.up l[k] (List.getElem_mem hk)
    rw [h] at this
    omega
  · obtain ⟨i, hi, rfl⟩ := List.getElem_of_mem hm
    rw [List.getElem_take] at he
    have hik : i < k := by simp at hi; omega
    have := List.pairwise_iff_getElem.1 W.srt i k (by omega) hk hik
    rw [he] at this
    omega

set_option maxRecDepth 100000 in
set_option maxHeartbeats 400000 in
theorem earlyWays_walk (g : Gr) (la ea : Option Addr) (lc ec : Nat) (v t q : Int) (w : World) (hG : GAt w la ea g) :
    Calls Try.prog 4 #[.agg #[.int .i64 g.hor, .slice la g.lives.length lc, .slice ea g.edges.length ec], .int .i64 v, .int .i64 t, .int .i64 q] w fun r w' => r = .returned (.bool true) ∧ Below w.heap.size w w' := by
  obtain ⟨i0, hi, hz0, hz1, hz2⟩ := info_parts Try.infoInt
  have B0 := gbx_start w g la ea lc ec 25
  have h1 := eWay_any g la ea lc ec v t q _ (hG.below B0.bel)
  have HP := hideg (fun W (hb : Below w.heap.size w W) => Place_any g la ea lc ec v t W (hG.below hb))
  have HRA : Hid (placeE g v t = 0 → ∀ W, Below w.heap.size w W → Calls Try.prog 17 #[.agg #[.int .i64 g.hor, .slice la g.lives.length lc, .slice ea g.edges.length ec], .int .i64 v, .int .i64 t] W fun r w' => ∃ gq cap, r = .returned (.slice (some ⟨gq, 0, none⟩) g.lives.length cap) ∧ Zo w' W.heap.size gq g.lives.length cap (erF g v t).1 ∧ Below W.heap.size W w') := by
    intro e1 W hb
    refine (Arr_fn g la ea lc ec v t W (hG.below hb) e1).mono ?_
    rintro r w' ⟨gq, cap, rfl, h2, _, h3⟩
    rw [arrF_is hG e1] at h2
    exact ⟨gq, cap, rfl, h2, h3⟩
  have HG := hideg hG
  clear hG
  go_enter Try.func4, Try.ntmps4
  go_wp2_with fail
  refine h1.mono ?_
  rintro r w1 ⟨u, e, l, rfl, hW, hown, hb1⟩
  have B1 := B0.below hb1
  have g0 := B1.c0
  have g1 := B1.c1
  have g2 := B1.c2
  have h2 := HP.out _ B1.bel
  have HB1 := hideg B1
  have HO1 := hideg hown
  clear h1 hb1 B0 B1 hown
  rcases hW with ⟨e1, rfl, rfl⟩ | ⟨e1, hq, rfl, rfl⟩ | ⟨e1, hq, hTq, rfl, hW, hTr⟩
  · have hwb := fun ho hc W (hb : Below w.heap.size w W) => ways_bad g la ea lc ec v t q none 0 0 [] ho hc (placeE g v t) W (HG.out.below hb) (.inl ⟨e1, rfl⟩)
    have d0 : (placeE g v t == 0) = false := by simpa using e1
    have d1 : (placeE g v t != 0) = true := by simpa using e1
    generalize placeE g v t = n at *
    have HWb := hideg hwb
    clear hwb e1 HRA
    go_wp2_with fail
    refine h2.mono ?_
    rintro r w2 ⟨rfl, hb2⟩
    have B2 := HB1.out.below hb2
    obtain ⟨ho, hc, rfl, _⟩ := ivAt_of_owns HO1.out
    clear g0 g1 g2 h2 hb2
    have g0 := B2.c0
    have g1 := B2.c1
    have g2 := B2.c2
    have h3 := HWb.out ho hc _ B2.bel
    have hbx := B2.bel
    clear HWb B2 HB1 HO1
    go_wp2_with fail
    refine h3.mono ?_
    rintro r w3 ⟨rfl, hb3⟩
    have hbF := ptg hbx hb3
    clear h3 hb3 hbx g0 g1 g2
    go_wp2
    go_ret
    exact ⟨rfl, hbF⟩
  · have hRA := HRA.out e1
    rw [e1] at h2
    have hlT := (erF_len g v t).1
    have HWb := hideg (fun ho hc gq cap W (hb : Below w.heap.size w W) (hZ : ZsAt W (some ⟨gq, 0, none⟩) (erF g v t).1) => ways_bad g la ea lc ec v t q (some ⟨gq, 0, none⟩) g.lives.length cap (erF g v t).1 ho hc 4 W (HG.out.below hb) (.inr ⟨e1, rfl, by
      by_cases hr : 0 ≤ q ∧ q < g.lives.length
      · rcases hq with hq | hq
        · exact absurd hr hq
        · exact .inr ⟨rfl, hlT, hZ, hq, hr⟩
      · exact .inl hr⟩))
    generalize (erF g v t).1 = T at *
    have HRA2 := hideg hRA
    clear hRA HRA e1 hq hlT
    go_wp2_with fail
    refine h2.mono ?_
    rintro r w2 ⟨rfl, hb2⟩
    have B2 := HB1.out.below hb2
    obtain ⟨ho, hc, rfl, _⟩ := ivAt_of_owns HO1.out
    clear g0 g1 g2 h2 hb2
    have g0 := B2.c0
    have g1 := B2.c1
    have g2 := B2.c2
    have h3 := HRA2.out _ B2.bel
    clear HB1 HO1 HRA2
    go_wp2_with fail
    refine h3.mono ?_
    rintro r w3 ⟨gq, cap, rfl, hZ, hb3⟩
    have B3 := B2.below hb3
    clear g0 g1 g2 h3 hb3 B2
    have g0 := B3.c0
    have g1 := B3.c1
    have g2 := B3.c2
    have hz := zsAt_of_zoE hZ
    have h4 := HWb.out ho hc gq cap _ B3.bel hz
    have hbx := B3.bel
    clear HWb B3 hZ hz
    go_wp2_with fail
    refine h4.mono ?_
    rintro r w4 ⟨rfl, hb4⟩
    have hbF := ptg hbx hb4
    clear h4 hb4 hbx g0 g1 g2
    go_wp2
    go_ret
    exact ⟨rfl, hbF⟩
  · clear hTr
    have hRA := HRA.out e1
    obtain ⟨hg0, ⟨hv0, hv1⟩, ht0, ht1⟩ := placeE_zero e1
    have hR := gChk_right hg0
    have hlT := (erF_len g v t).1
    obtain ⟨Y, rfl⟩ : ∃ Y : Nat, q = (Y : Int) := ⟨q.toNat, by omega⟩
    have hY : Y < g.lives.length := by omega
    simp only [Int.toNat_natCast] at hTq
    have hal : aliveB t g.lives v = true := by
      refine Classical.byContradiction fun h => hTq ?_
      rw [erF_away h, rep_getD _ _ _ hY]
    have hE := (erF_ok hR hv0 hal).1
    have hTY : (erF g v t).1.getD Y 0 < g.hor := by
      rcases hE.is Y hY with k | k
      · exact absurd k hTq
      · exact (k.place hR hv0).2.2.2
    have hl500 : l.length ≤ 200 := by
      have := hW.len
      rw [hE.at0] at this
      simp only [Int.toNat_natCast] at this
      have := hR.hor
      omega
    obtain ⟨c, hgo⟩ := hW.go 0
    rw [hE.at0] at hgo
    simp only [Int.toNat_natCast] at hgo
    have hga := goAns_ok (s := (v, t, 0)) hg0 ⟨hv0, hv1, hal⟩ rfl (by omega) hgo
    simp only at hga
    rw [e1] at h2
    have HWk := hideg (fun ho hc gq cap W (hb : Below w.heap.size w W) (hZ : ZsAt W (some ⟨gq, 0, none⟩) (erF g v t).1) (hH : IvAt W ho l) => ways_ok g la ea lc ec v t Y (some ⟨gq, 0, none⟩) cap (erF g v t).1 ho hc l _ c W (HG.out.below hb) e1 hY hlT hZ hTq hH (by omega) hga)
    generalize (erF g v t).1 = T at *
    obtain ⟨y, hy⟩ : ∃ y, y = T.getD Y 0 := ⟨_, rfl⟩
    rw [← hy] at HWk
    have Hy := hideg hy
    have HRA2 := hideg hRA
    have HWy := hideg hW
    have hYi : (Y : Int) < (g.lives.length : Int) := by omega
    have HRt := hideg hR
    clear hRA HRA e1 hq hlT hTq hTY hgo hga hE hal hg0 hW hR hy
    go_wp2_with fail
    refine h2.mono ?_
    rintro r w2 ⟨rfl, hb2⟩
    have B2 := HB1.out.below hb2
    have hown2 := ownsRow_below HO1.out hb2
    clear g0 g1 g2 h2 hb2
    have g0 := B2.c0
    have g1 := B2.c1
    have g2 := B2.c2
    have h3 := HRA2.out _ B2.bel
    clear HB1 HO1 HRA2
    go_wp2_with fail
    refine h3.mono ?_
    rintro r w3 ⟨gq, cap, rfl, hZ, hb3⟩
    have B3 := B2.below hb3
    obtain ⟨ho, hc, rfl, hH⟩ := ivAt_of_owns (ownsRow_below hown2 hb3)
    clear g0 g1 g2 h3 hb3 B2 hown2
    have g0 := B3.c0
    have g1 := B3.c1
    have g2 := B3.c2
    have hz := zsAt_of_zoE hZ
    have h4 := HWk.out ho hc gq cap _ B3.bel hz hH
    have hbx := B3.bel
    clear HWk hz
    go_wp2_with fail
    refine h4.mono ?_
    rintro r w4 ⟨rfl, hb4⟩
    have HB4 := hideg (B3.below hb4)
    have HH4 := hideg (hH.below hb4)
    have HZ4 := hideg (ownsRow_below hZ hb4)
    clear h4 hb4 hbx g0 g1 g2 B3 hZ hH
    obtain ⟨w5, hw5⟩ : ∃ x, x = w4.alloc (.cells #[.int .i64 v] 3) := ⟨_, rfl⟩
    have hS5 : w5.ownsRow w4.heap.size 3 1 (.slice (some ⟨w4.heap.size, 0, none⟩) 1 1) 1 ((seenL g v l 0).map (Value.int .i64)) := by
      rw [hw5]
      exact ⟨by simp [seenL], .inr ⟨w4.heap.size, 1, #[.int .i64 v], rfl, Nat.le_refl _, heap_alloc_new w4 _, Nat.le_refl _, by unfold maxLen; omega, rfl, by simp [seenL]⟩⟩
    have hb5 : Below w4.heap.size w4 w5 := by rw [hw5]; exact gal w4 _
    have hw5s := hw5.symm
    clear hw5
    go_wp2_with fail
    clear hw5s
    go_loopw [15, 59] (fun s i wr => ∃ k : Nat, k ≤ l.length ∧ i = .int .i64 k ∧ wr.ownsRow w4.heap.size 3 1 s (seenL g v l k).length ((seenL g v l k).map (Value.int .i64)) ∧ Below w4.heap.size w4 wr) (fun _ i _ => l.length - (intOf i).toNat)
    case atStart => exact ⟨0, Nat.zero_le _, rfl, hS5, hb5⟩
    case round =>
      clear hS5 hb5
      obtain ⟨k, hk, rfl, hown, hb⟩ := hrel
      by_cases hkl : k < l.length
      · have hkli : (k : Int) < (l.length : Int) := by omega
        have hkw : IntKind.i64.wrap ((k : Int) + 1) = (k : Int) + 1 := wrap_nj _ (by omega) (by omega)
        rcases HH4.out.below hb with h0 | ⟨b, off, rfl, hbr, hcc⟩
        · subst h0; simp at hkl
        obtain ⟨c0, c1⟩ := IvAt.get hkl hcc
        obtain ⟨⟨r0, r1⟩, r2⟩ := HWy.out.rng l[k] (List.getElem_mem hkl)
        have HNew := hideg (seen_new HWy.out hkl)
        have HSu := hideg (seenL_succ (g := g) (v := v) hkl)
        have hln := seenL_len (g := g) (v := v) (l := l) hk
        have hBr := HB4.out.below hb
        obtain ⟨E, hE⟩ : ∃ E : Nat, l[k].1 = (E : Int) := ⟨l[k].1.toNat, by omega⟩
        have hEl : E < g.edges.length := by omega
        have heB : edB g l[k] = g.edges[E].2.1 := by unfold edB; rw [hE, Int.toNat_natCast, edge_getD hEl]
        obtain ⟨eb, eo, rfl, hebr, ec1⟩ : ∃ b off, ea = some ⟨b, off, none⟩ ∧ b < wr.heap.size ∧ wr.cell? ⟨b, off + E * 3 + 1, none⟩ = some (.int .i64 g.edges[E].2.1) := by
          rcases (HG.out.below hBr.bel).ed with h0 | ⟨b, off, rfl, hbr, hc⟩
          · rw [h0] at hEl; simp at hEl
          obtain ⟨c0, c1, _⟩ := hc E hEl
          exact ⟨b, off, rfl, hbr, c1⟩
        rw [← heB] at ec1
        have hEi : (E : Int) < (g.edges.length : Int) := by omega
        have hE0 : (0 : Int) ≤ (E : Int) := by omega
        rw [hE] at c0
        generalize edB g l[k] = bb at *
        generalize l[k].2 = dd at *
        obtain ⟨wa, hwa⟩ : ∃ x, x = wr.alloc (.cells #[.int .i64 (E : Int), .int .i64 dd] 48) := ⟨_, rfl⟩
        have hba : Below wr.heap.size wr wa := by rw [hwa]; exact gal wr _
        have Ba := hBr.below hba
        have x0 : wa.cell? ⟨wr.heap.size, 0, none⟩ = some (.int .i64 (E : Int)) := by rw [hwa]; exact new_cell rfl rfl
        have x1 := (hba.cell (p := ⟨eb, eo + E * 3 + 1, none⟩) hebr).trans ec1
        have g2 := Ba.c2
        have ho2 := ownsRow_below hown hba
        have hb2 := hb.trans (hba.mono hb.size)
        obtain ⟨sa, sc, rfl, hsz⟩ := zsAt_of_owns ho2
        have hCt := ContainsInt_any sa sc (seenL g v l k) bb wa hsz (by omega)
        rw [show decide (bb ∈ seenL g v l k) = false from by simpa using HNew.out] at hCt
        have hwas := hwa.symm
        clear hsz ec1 hwa hba Ba hBr hown hb hcc
        generalize hsk : seenL g v l k = sk at *
        have HSk := hideg hsk
        have hln2 : sk.length ≤ 300 := by omega
        clear hsk hln heB
        go_wp2_with fail
        refine hCt.mono ?_
        rintro r w6 ⟨rfl, hb6⟩
        have ho6 := ownsRow_below ho2 hb6
        have hb06 := hb2.trans (hb6.mono hb2.size)
        have hs6 := hb06.size
        clear hCt hb6 ho2 hb2 x0 x1 g2 c0 c1 hwas
        go_wp2_with (at_builtin; refine stopHereR ?_)
        refine hideg ?_
        refine wpList_append_own _ rfl _ _ 28 rfl w4.heap.size 3 i0 (.int .i64 0) 1 8 Try.underlying28 hi hz0 hz1 hz2 rfl (by decide) _ _ _ rfl (World.ownsRow.alloc (w := w6) ho6 _) ⟨w6.heap.size, 0, none⟩ 1 1 [.int .i64 bb] rfl rfl (cell_one_new _ _ _) (by intro u hu; simp at hu; subst hu; rfl) (by unfold maxLen; omega) (by omega) (by simp; omega) ?_
        intro v' w7 hown7 hgrow _
        have hb7 := (hb06.alloc hs6 _).grown hgrow (by simp; omega) (fun q hq => (ho6.lt q hq).1)
        have HR7 : Hid (w7.ownsRow w4.heap.size 3 1 v' (seenL g v l (k + 1)).length ((seenL g v l (k + 1)).map (Value.int .i64))) := by
          rw [HSu.out, List.length_append, List.map_append]; exact hown7
        clear hgrow hown7 ho6
        go_wp2
        go_roundw
        case rel => exact ⟨k + 1, by omega, by go_num, HR7.out, hb7⟩
        case measure => simp [intOf]; omega
      · have hZr := ownsRow_below HZ4.out hb
        have cY := Zo.cell hZr hY
        have hbF := HB4.out.bel.trans (hb.mono HB4.out.bel.size)
        rw [← Hy.out] at cY
        clear hZr hown HZ4 HH4
        go_wp2
        go_ret
        exact ⟨rfl, hbF⟩

end Go.Proofs.Ytkgbgkcbflicmac

namespace Go.Proofs.Ytkgbgkcbflicmac

/-- one can be at v at t for p, from what is told at first (F), each ride at its price (pr) -/
inductive Pd (g : Gr) (F : Int → Int → Option Int) (pr : Ri → Int) : Int → Int → Int → Prop
  | base {v t p : Int} : F v t = some p → Pd g F pr v t p
  | wait {v t p : Int} : Pd g F pr v t p → aliveB (t + 1) g.lives v = true → Pd g F pr v (t + 1) p
  | ride {p : Int} {r : Ri} : r ∈ ridesF g → Pd g F pr r.2.2.1 r.2.1 p → Pd g F pr r.2.2.2.1 r.2.2.2.2.1 (p + pr r)
/-- what is told at first is told of places that are there, from s0 on -/
def FOk (g : Gr) (F : Int → Int → Option Int) (s0 : Int) : Prop := ∀ v t p, F v t = some p → 0 ≤ v ∧ aliveB t g.lives v = true ∧ s0 ≤ t
theorem Pd.place {g : Gr} (R : Right g) {F : Int → Int → Option Int} {s0 : Int} (hF : FOk g F s0) {pr : Ri → Int} {v t p : Int} (h : Pd g F pr v t p) : 0 ≤ v ∧ v < g.lives.length ∧ aliveB t g.lives v = true ∧ 0 ≤ t ∧ t < g.hor ∧ s0 ≤ t := by
  have key : 0 ≤ v ∧ aliveB t g.lives v = true ∧ s0 ≤ t := by
    induction h with
    | base h => exact hF _ _ _ h
    | wait _ h ih => exact ⟨ih.1, h, by omega⟩
    | ride hr _ ih => have := mem_rides R hr; have h1 := this.lt; exact ⟨this.b0.1, this.alB, by omega⟩
  have := alive_hor R key.2.1
  exact ⟨key.1, by omega, key.2.1, this.2.1, this.2.2, key.2.2⟩

/-- a state's price, and the ride by which one came -/
abbrev Vs := Int × Ri
abbrev Mp := Int → Int → Option Vs
def mset (M : Mp) (v t : Int) (x : Vs) : Mp := fun a b => if a = v ∧ b = t then some x else M a b
theorem mset_same (M : Mp) (v t : Int) (x : Vs) : mset M v t x v t = some x := by unfold mset; rw [if_pos ⟨rfl, rfl⟩]
theorem mset_other (M : Mp) {v t a b : Int} (x : Vs) (h : ¬ (a = v ∧ b = t)) : mset M v t x a b = M a b := by unfold mset; rw [if_neg h]
/-- does a new price stand, where old ones are? -/
def lessB (o : Option Vs) (p : Int) : Bool := match o with | none => true | some x => decide (p < x.1)
def leqB (o : Option Vs) (p : Int) : Bool := match o with | none => true | some x => decide (p ≤ x.1)
/-- going along a ride -/
def takeM (M : Mp) (r : Ri) (p : Int) : Mp :=
  match M r.2.2.1 r.2.1 with
  | none => M
  | some h => if lessB (M r.2.2.2.1 r.2.2.2.2.1) (h.1 + p) = true then mset M r.2.2.2.1 r.2.2.2.2.1 (h.1 + p, r) else M
/-- waiting at a vertex -/
def waitV (g : Gr) (now : Int) (M : Mp) (v : Int) : Mp :=
  match M v (now - 1) with
  | none => M
  | some x => if aliveB now g.lives v = true then (if leqB (M v now) x.1 = true then mset M v now x else M) else M
def waitM (g : Gr) (now : Int) (M : Mp) : Nat → Mp
  | 0 => M
  | k + 1 => waitV g now (waitM g now M k) (k : Int)

/-- the states behind some rounds: now the time, k vertices waited at, i rides taken; all that is taken left at dp or ahead of it -/
structure SpI (g : Gr) (F : Int → Int → Option Int) (pr : Ri → Int) (s0 now dp : Int) (k i : Nat) (M : Mp) : Prop where
  snd : ∀ v t x, M v t = some x → Pd g F pr v t x.1
  fst : ∀ v t p, F v t = some p → ∃ x, M v t = some x ∧ x.1 ≤ p
  wt : ∀ (v t : Int) (x : Vs), (t + 1 < now ∨ (t + 1 = now ∧ v < (k : Int))) → M v t = some x → aliveB (t + 1) g.lives v = true → ∃ y, M v (t + 1) = some y ∧ y.1 ≤ x.1
  rd : ∀ r ∈ (ridesF g).take i, ∀ x, M r.2.2.1 r.2.1 = some x → ∃ y, M r.2.2.2.1 r.2.2.2.2.1 = some y ∧ y.1 ≤ x.1 + pr r
  done : ∀ r ∈ (ridesF g).take i, r.2.1 ≤ dp
  ahead : ∀ r ∈ (ridesF g).drop i, now ≤ r.2.1 ∨ r.2.1 < s0
  way : ∀ v t x, M v t = some x → (∃ t0, F v t0 = some x.1 ∧ t0 ≤ t) ∨ (x.2 ∈ (ridesF g).take i ∧ x.2.2.2.2.1 = v ∧ x.2.2.2.2.2.1 ≤ t ∧ ∃ y, M x.2.2.2.1 x.2.2.1 = some y ∧ y.1 + pr x.2 = x.1)

/-- a map that tells just what is told at first -/
theorem SpI.start {g : Gr} {F : Int → Int → Option Int} {pr : Ri → Int} {s0 : Int} (hF : FOk g F s0) {M : Mp} (hM : ∀ v t, (M v t).map (·.1) = F v t) : SpI g F pr s0 s0 (s0 - 1) 0 0 M := by
  have e : ∀ v t x, M v t = some x → F v t = some x.1 := fun v t x h => by rw [← hM, h]; rfl
  refine ⟨fun v t x h => .base (e v t x h), fun v t p h => ?_, fun v t x h hx _ => ?_, fun r hr => by simp at hr, fun r hr => by simp at hr, fun r _ => by omega, fun v t x h => .inl ⟨t, e v t x h, Int.le_refl _⟩⟩
  · rw [← hM] at h
    cases hx : M v t with
    | none => rw [hx] at h; cases h
    | some x => rw [hx] at h; simp at h; exact ⟨x, rfl, by omega⟩
  · have := (hF _ _ _ (e v t x hx)).2.2
    omega

/-- waiting at one vertex more -/
theorem SpI.wait {g : Gr} {F : Int → Int → Option Int} {pr : Ri → Int} {s0 now : Int} {k i : Nat} {M : Mp} (h : SpI g F pr s0 now (now - 1) k i M) : SpI g F pr s0 now (now - 1) (k + 1) i (waitV g now M (k : Int)) := by
  have keep : (∀ x, M (k : Int) (now - 1) = some x → aliveB now g.lives (k : Int) = true → ∃ y, M (k : Int) now = some y ∧ y.1 ≤ x.1) → SpI g F pr s0 now (now - 1) (k + 1) i M := fun hk =>
    ⟨h.snd, h.fst, fun v t x ht hx ha => by
        by_cases e : t + 1 = now ∧ v = (k : Int)
        · obtain ⟨e1, rfl⟩ := e
          have e2 : t = now - 1 := by omega
          subst e2
          rw [e1] at ha ⊢
          exact hk x hx ha
        · exact h.wt v t x (by omega) hx ha, h.rd, h.done, h.ahead, h.way⟩
  unfold waitV
  cases hx : M (k : Int) (now - 1) with
  | none => exact keep fun x hx' => by rw [hx] at hx'; cases hx'
  | some x =>
    simp only
    split
    · rename_i ha
      split
      · rename_i hl
        have hPx := h.snd _ _ _ hx
        have hPn : Pd g F pr (k : Int) now x.1 := by
          have := hPx.wait (by rw [show now - 1 + 1 = now by omega]; exact ha)
          rwa [show now - 1 + 1 = now by omega] at this
        have hle : ∀ y, M (k : Int) now = some y → x.1 ≤ y.1 := fun y hy => by
          unfold leqB at hl
          rw [hy] at hl
          simpa using hl
        -- a place that was told of is told of, for no more
        have down : ∀ a b y, M a b = some y → ∃ z, mset M (k : Int) now x a b = some z ∧ z.1 ≤ y.1 := fun a b y hy => by
          by_cases e : a = (k : Int) ∧ b = now
          · obtain ⟨rfl, rfl⟩ := e
            exact ⟨x, mset_same _ _ _ _, hle y hy⟩
          · exact ⟨y, by rw [mset_other _ _ e]; exact hy, Int.le_refl _⟩
        refine ⟨fun v t y hy => ?_, fun v t p hp => ?_, fun v t y ht hy ha' => ?_, fun r hr y hy => ?_, h.done, h.ahead, fun v t y hy => ?_⟩
        · by_cases e : v = (k : Int) ∧ t = now
          · obtain ⟨rfl, rfl⟩ := e
            rw [mset_same] at hy; cases hy; exact hPn
          · rw [mset_other _ _ e] at hy; exact h.snd v t y hy
        · obtain ⟨y, hy, hyp⟩ := h.fst v t p hp
          obtain ⟨z, hz, hzy⟩ := down v t y hy
          exact ⟨z, hz, by omega⟩
        · have e : ¬ (v = (k : Int) ∧ t = now) := by omega
          rw [mset_other _ _ e] at hy
          by_cases e2 : t + 1 = now ∧ v = (k : Int)
          · obtain ⟨e1, rfl⟩ := e2
            have e3 : t = now - 1 := by omega
            subst e3
            rw [hx] at hy
            cases hy
            rw [e1]
            exact ⟨x, mset_same _ _ _ _, Int.le_refl _⟩
          · obtain ⟨z, hz, hzy⟩ := h.wt v t y (by omega) hy ha'
            obtain ⟨u, hu, huz⟩ := down v (t + 1) z hz
            exact ⟨u, hu, by omega⟩
        · have hd := h.done r hr
          rw [mset_other _ _ (by omega)] at hy
          obtain ⟨z, hz, hzy⟩ := h.rd r hr y hy
          obtain ⟨u, hu, huz⟩ := down _ _ z hz
          exact ⟨u, hu, by omega⟩
        · have old : ∀ t' y, t' ≤ t → M v t' = some y → (∃ t0, F v t0 = some y.1 ∧ t0 ≤ t) ∨ (y.2 ∈ (ridesF g).take i ∧ y.2.2.2.2.1 = v ∧ y.2.2.2.2.2.1 ≤ t ∧ ∃ z, mset M (k : Int) now x y.2.2.2.1 y.2.2.1 = some z ∧ z.1 + pr y.2 = y.1) := fun t' y ht' hy => by
            rcases h.way v t' y hy with ⟨t0, h1, h2⟩ | ⟨h1, h2, h3, z, h4, h5⟩
            · exact .inl ⟨t0, h1, by omega⟩
            · refine .inr ⟨h1, h2, by omega, z, ?_, h5⟩
              have hd := h.done _ h1
              rw [mset_other _ _ (by omega)]; exact h4
          by_cases e : v = (k : Int) ∧ t = now
          · obtain ⟨rfl, rfl⟩ := e
            rw [mset_same] at hy; cases hy
            exact old _ _ (by omega) hx
          · rw [mset_other _ _ e] at hy
            exact old _ _ (Int.le_refl _) hy
      · rename_i hl
        refine keep fun x' hx' _ => ?_
        rw [hx] at hx'; cases hx'
        unfold leqB at hl
        cases hy : M (k : Int) now with
        | none => rw [hy] at hl; simp at hl
        | some y => rw [hy] at hl; simp at hl; exact ⟨y, rfl, by omega⟩
    · rename_i ha
      exact keep fun _ _ h => absurd h ha
theorem SpI.waits {g : Gr} {F : Int → Int → Option Int} {pr : Ri → Int} {s0 now : Int} {i : Nat} {M : Mp} (h : SpI g F pr s0 now (now - 1) 0 i M) : ∀ k, SpI g F pr s0 now (now - 1) k i (waitM g now M k)
  | 0 => h
  | k + 1 => (h.waits k).wait
/-- from waiting to riding -/
theorem SpI.turn {g : Gr} {F : Int → Int → Option Int} {pr : Ri → Int} {s0 now : Int} {k i : Nat} {M : Mp} (h : SpI g F pr s0 now (now - 1) k i M) : SpI g F pr s0 now now k i M := { h with done := fun r hr => by have := h.done r hr; omega }
/-- one ride more -/
theorem SpI.take {g : Gr} (R : Right g) {F : Int → Int → Option Int} {pr : Ri → Int} {s0 now : Int} (hF : FOk g F s0) {k i : Nat} {M : Mp} (h : SpI g F pr s0 now now k i M) (hi : i < (ridesF g).length) (hd : (ridesF g)[i].2.1 ≤ now) :
    SpI g F pr s0 now now k (i + 1) (takeM M (ridesF g)[i] (pr (ridesF g)[i])) := by
  have hr : (ridesF g)[i] ∈ ridesF g := List.getElem_mem hi
  have hok := mem_rides R hr
  have hahead := h.ahead (ridesF g)[i] (by rw [List.drop_eq_getElem_cons hi]; exact List.mem_cons_self)
  have htk : (ridesF g).take (i + 1) = (ridesF g).take i ++ [(ridesF g)[i]] := List.take_succ_eq_append_getElem hi
  have hdr : ∀ q ∈ (ridesF g).drop (i + 1), q ∈ (ridesF g).drop i := fun q hq => by rw [List.drop_eq_getElem_cons hi]; exact List.mem_cons_of_mem _ hq
  have hsub : ∀ q ∈ (ridesF g).take i, q ∈ (ridesF g).take (i + 1) := fun q hq => by rw [htk]; exact List.mem_append_left _ hq
  obtain ⟨r, hrr⟩ : ∃ r, r = (ridesF g)[i] := ⟨_, rfl⟩
  rw [← hrr] at hr hok hahead htk hd ⊢
  have hlt := hok.lt
  have hdone : ∀ q ∈ (ridesF g).take (i + 1), q.2.1 ≤ now := fun q hq => by
    rw [htk, List.mem_append, List.mem_singleton] at hq
    rcases hq with hq | rfl
    · exact h.done q hq
    · exact hd
  have keep : (∀ x, M r.2.2.1 r.2.1 = some x → ∃ y, M r.2.2.2.1 r.2.2.2.2.1 = some y ∧ y.1 ≤ x.1 + pr r) → SpI g F pr s0 now now k (i + 1) M := fun hk =>
    ⟨h.snd, h.fst, h.wt, fun q hq x hx => by
        rw [htk, List.mem_append, List.mem_singleton] at hq
        rcases hq with hq | rfl
        · exact h.rd q hq x hx
        · exact hk x hx, hdone, fun q hq => h.ahead q (hdr q hq), fun v t x hx => by
        rcases h.way v t x hx with h1 | ⟨h1, h2⟩
        · exact .inl h1
        · exact .inr ⟨hsub _ h1, h2⟩⟩
  unfold takeM
  cases hx : M r.2.2.1 r.2.1 with
  | none => exact keep fun x hx' => by rw [hx] at hx'; cases hx'
  | some x =>
    simp only
    have hP := h.snd _ _ _ hx
    have hpl := hP.place R hF
    have hnow : r.2.1 = now := by omega
    split
    · rename_i hl
      have hle : ∀ y, M r.2.2.2.1 r.2.2.2.2.1 = some y → x.1 + pr r ≤ y.1 := fun y hy => by
        unfold lessB at hl
        rw [hy] at hl
        simp at hl
        omega
      have down : ∀ a b y, M a b = some y → ∃ z, mset M r.2.2.2.1 r.2.2.2.2.1 (x.1 + pr r, r) a b = some z ∧ z.1 ≤ y.1 := fun a b y hy => by
        by_cases e : a = r.2.2.2.1 ∧ b = r.2.2.2.2.1
        · obtain ⟨rfl, rfl⟩ := e
          exact ⟨_, mset_same _ _ _ _, hle y hy⟩
        · exact ⟨y, by rw [mset_other _ _ e]; exact hy, Int.le_refl _⟩
      refine ⟨fun v t y hy => ?_, fun v t p hp => ?_, fun v t y ht hy ha' => ?_, fun q hq y hy => ?_, hdone, fun q hq => h.ahead q (hdr q hq), fun v t y hy => ?_⟩
      · by_cases e : v = r.2.2.2.1 ∧ t = r.2.2.2.2.1
        · obtain ⟨rfl, rfl⟩ := e
          rw [mset_same] at hy; cases hy; exact .ride hr hP
        · rw [mset_other _ _ e] at hy; exact h.snd v t y hy
      · obtain ⟨y, hy, hyp⟩ := h.fst v t p hp
        obtain ⟨z, hz, hzy⟩ := down v t y hy
        exact ⟨z, hz, by omega⟩
      · rw [mset_other _ _ (by omega)] at hy
        obtain ⟨z, hz, hzy⟩ := h.wt v t y ht hy ha'
        obtain ⟨u, hu, huz⟩ := down v (t + 1) z hz
        exact ⟨u, hu, by omega⟩
      · have hqd := hdone q hq
        rw [mset_other _ _ (by omega)] at hy
        rw [htk, List.mem_append, List.mem_singleton] at hq
        rcases hq with hq | rfl
        · obtain ⟨z, hz, hzy⟩ := h.rd q hq y hy
          obtain ⟨u, hu, huz⟩ := down _ _ z hz
          exact ⟨u, hu, by omega⟩
        · rw [hx] at hy; cases hy
          exact ⟨_, mset_same _ _ _ _, Int.le_refl _⟩
      · by_cases e : v = r.2.2.2.1 ∧ t = r.2.2.2.2.1
        · obtain ⟨rfl, rfl⟩ := e
          rw [mset_same] at hy; cases hy
          refine .inr ⟨by rw [htk]; exact List.mem_append_right _ (List.mem_singleton.2 rfl), rfl, Int.le_refl _, x, ?_, rfl⟩
          rw [mset_other _ _ (by simp only; omega)]; exact hx
        · rw [mset_other _ _ e] at hy
          rcases h.way v t y hy with h1 | ⟨h1, h2, h3, z, h4, h5⟩
          · exact .inl h1
          · refine .inr ⟨hsub _ h1, h2, h3, z, ?_, h5⟩
            have hqd := hdone _ (hsub _ h1)
            rw [mset_other _ _ (by omega)]; exact h4
    · rename_i hl
      refine keep fun x' hx' => ?_
      rw [hx] at hx'; cases hx'
      unfold lessB at hl
      cases hy : M r.2.2.2.1 r.2.2.2.2.1 with
      | none => rw [hy] at hl; simp at hl
      | some y => rw [hy] at hl; simp at hl; exact ⟨y, rfl, by omega⟩
/-- the next time -/
theorem SpI.next {g : Gr} (R : Right g) {F : Int → Int → Option Int} {pr : Ri → Int} {s0 now : Int} (hF : FOk g F s0) {i : Nat} {M : Mp} (h : SpI g F pr s0 now now g.lives.length i M) (hd : ∀ hi : i < (ridesF g).length, now < (ridesF g)[i].2.1) :
    SpI g F pr s0 (now + 1) (now + 1 - 1) 0 i M := by
  refine { h with wt := fun v t x ht hx ha => h.wt v t x ?_ hx ha, done := fun r hr => by have := h.done r hr; omega, ahead := fun r hr => ?_ }
  · have := (h.snd v t x hx).place R hF
    omega
  · by_cases hi : i < (ridesF g).length
    · have hs : (ridesF g).Pairwise fun a b => a.2.1 ≤ b.2.1 := ridesTo_sorted g _
      have hs2 := hs.drop (i := i)
      rw [List.drop_eq_getElem_cons hi] at hs2 hr
      have := hd hi
      rcases List.mem_cons.1 hr with rfl | hr
      · omega
      · have := (List.pairwise_cons.1 hs2).1 r hr; omega
    · rw [List.drop_eq_nil_of_le (by omega)] at hr; simp at hr

/-- at the end: what is told is the least -/
structure SpE (g : Gr) (F : Int → Int → Option Int) (pr : Ri → Int) (M : Mp) : Prop where
  snd : ∀ v t x, M v t = some x → Pd g F pr v t x.1
  all : ∀ v t p, Pd g F pr v t p → ∃ x, M v t = some x ∧ x.1 ≤ p
  way : ∀ v t x, M v t = some x → (∃ t0, F v t0 = some x.1 ∧ t0 ≤ t) ∨ (x.2 ∈ ridesF g ∧ x.2.2.2.2.1 = v ∧ x.2.2.2.2.2.1 ≤ t ∧ ∃ y, M x.2.2.2.1 x.2.2.1 = some y ∧ y.1 + pr x.2 = x.1)
theorem SpI.fin {g : Gr} (R : Right g) {F : Int → Int → Option Int} {pr : Ri → Int} {s0 dp : Int} (hF : FOk g F s0) {i : Nat} {M : Mp} (h : SpI g F pr s0 g.hor dp 0 i M) : SpE g F pr M := by
  refine ⟨h.snd, fun v t p hp => ?_, fun v t x hx => ?_⟩
  · induction hp with
    | base hp => exact h.fst _ _ _ hp
    | @wait v t p hp ha ih =>
      obtain ⟨x, hx, hxp⟩ := ih
      have := alive_hor R ha
      obtain ⟨y, hy, hyx⟩ := h.wt v t x (by omega) hx ha
      exact ⟨y, hy, by omega⟩
    | @ride p r hr hp ih =>
      obtain ⟨x, hx, hxp⟩ := ih
      have hmem : r ∈ (ridesF g).take i := by
        have hr' := hr
        rw [← List.take_append_drop i (ridesF g), List.mem_append] at hr'
        rcases hr' with h1 | h1
        · exact h1
        · have := h.ahead r h1
          have h2 := (mem_rides R hr).lt
          have h3 := (mem_rides R hr).hor
          have := (h.snd _ _ _ hx).place R hF
          omega
      obtain ⟨y, hy, hyx⟩ := h.rd r hmem x hx
      exact ⟨y, hy, by omega⟩
  · rcases h.way v t x hx with h1 | ⟨h1, h2⟩
    · exact .inl h1
    · exact .inr ⟨List.mem_of_mem_take h1, h2⟩
/-- how many states there are at most -/
theorem Pd.stay {g : Gr} {F : Int → Int → Option Int} {pr : Ri → Int} {v t p : Int} (h : Pd g F pr v t p) (ha : aliveB t g.lives v = true) : ∀ n : Nat, aliveB (t + n) g.lives v = true → Pd g F pr v (t + n) p
  | 0, _ => by simpa using h
  | n + 1, hn => by
    have h1 : aliveB (t + n) g.lives v = true := alive_mid ha hn (by omega) (by omega)
    have h2 := (h.stay ha n h1).wait (by rw [show t + (n : Int) + 1 = t + ((n + 1 : Nat) : Int) by omega]; exact hn)
    rw [show t + (n : Int) + 1 = t + ((n + 1 : Nat) : Int) by omega] at h2
    exact h2
theorem Pd.waits {g : Gr} (R : Right g) {F : Int → Int → Option Int} {s0 : Int} (hF : FOk g F s0) {pr : Ri → Int} {v t t' p : Int} (h : Pd g F pr v t p) (ht : t ≤ t') (ha : aliveB t' g.lives v = true) : Pd g F pr v t' p := by
  have e : t' = t + ((t' - t).toNat : Int) := by omega
  rw [e] at ha ⊢
  exact h.stay (h.place R hF).2.2.1 _ ha

/-- what is told at first of one place -/
def F1 (v0 t0 : Int) : Int → Int → Option Int := fun v t => if v = v0 ∧ t = t0 then some 0 else none
theorem F1_ok {g : Gr} {v0 t0 : Int} (h0 : 0 ≤ v0) (ha : aliveB t0 g.lives v0 = true) : FOk g (F1 v0 t0) t0 := fun v t p h => by
  unfold F1 at h
  split at h
  · rename_i e; obtain ⟨rfl, rfl⟩ := e; exact ⟨h0, ha, Int.le_refl _⟩
  · cases h
/-- one can be at v at t for p, from v0 at t0 -/
def Pay (g : Gr) (pr : Ri → Int) (v0 t0 v t p : Int) : Prop := aliveB t0 g.lives v0 = true ∧ Pd g (F1 v0 t0) pr v t p
/-- the least prices of each vertex -/
structure LeastIs (g : Gr) (pr : Ri → Int) (v0 t0 : Int) (L : List Int) : Prop where
  len : L.length = g.lives.length
  is : ∀ v : Nat, v < g.lives.length → L.getD v 0 = 1099511627776 ∨ ∃ t, Pay g pr v0 t0 (v : Int) t (L.getD v 0)
  least : ∀ v : Nat, v < g.lives.length → ∀ t p, Pay g pr v0 t0 (v : Int) t p → L.getD v 0 ≤ p
/-- prices are from 0 to 1000 -/
def PrOk (g : Gr) (pr : Ri → Int) : Prop := ∀ r ∈ ridesF g, 0 ≤ pr r ∧ pr r ≤ 1000
theorem Pd.range {g : Gr} (R : Right g) {pr : Ri → Int} (hpr : PrOk g pr) {v0 t0 v t p : Int} (h0 : 0 ≤ v0) (ha : aliveB t0 g.lives v0 = true) (h : Pd g (F1 v0 t0) pr v t p) : 0 ≤ p ∧ p ≤ 1000 * (t - t0) := by
  induction h with
  | @base v t p h =>
    unfold F1 at h
    split at h
    · rename_i e; obtain ⟨rfl, rfl⟩ := e; cases h; omega
    · cases h
  | wait _ _ ih => omega
  | ride hr _ ih => have := hpr _ hr; have := (mem_rides R hr).lt; omega
theorem Pay.range {g : Gr} (R : Right g) {pr : Ri → Int} (hpr : PrOk g pr) {v0 t0 v t p : Int} (h0 : 0 ≤ v0) (h : Pay g pr v0 t0 v t p) : 0 ≤ p ∧ p ≤ 100000 := by
  have h1 := h.2.range R hpr h0 h.1
  have h2 := (h.2.place R (F1_ok h0 h.1)).2.2.2
  have := R.hor
  have := (alive_hor R h.1).2
  omega
theorem list_ext_gd {a b : List Int} (h : a.length = b.length) (k : ∀ v, v < a.length → a.getD v 0 = b.getD v 0) : a = b := by
  apply List.ext_getElem h
  intro v h1 h2
  have := k v h1
  rw [List.getD_eq_getElem?_getD, List.getD_eq_getElem?_getD, List.getElem?_eq_getElem h1, List.getElem?_eq_getElem h2] at this
  exact this
theorem least_unique {g : Gr} (R : Right g) {pr : Ri → Int} (hpr : PrOk g pr) {v0 t0 : Int} (h0 : 0 ≤ v0) {L L' : List Int} (h : LeastIs g pr v0 t0 L) (h' : LeastIs g pr v0 t0 L') : L = L' := by
  refine list_ext_gd (by rw [h.len, h'.len]) fun v hv => ?_
  rw [h.len] at hv
  rcases h.is v hv with e | ⟨t, e⟩ <;> rcases h'.is v hv with e' | ⟨t', e'⟩
  · rw [e, e']
  · have h1 := h.least v hv _ _ e'
    have h2 := (e'.range R hpr h0)
    omega
  · have h1 := h'.least v hv _ _ e
    have h2 := (e.range R hpr h0)
    omega
  · have h1 := h.least v hv _ _ e'
    have h2 := h'.least v hv _ _ e
    omega

end Go.Proofs.Ytkgbgkcbflicmac

namespace Go.Proofs.Ytkgbgkcbflicmac
open Go.RowKit Go.Maps

theorem Try.laidOutC : laidOutB Try.prog = true := by kernel_rfl
theorem Try.rowSt : (70 : TypeId) < Try.prog.types.size := of_decide_eq_true (by kernel_rfl)
theorem Try.wideSt : (match Try.prog.underlying 70 with | some (.array _ _) | some (.struct _) => true | _ => false) = true := by rw [Try.underlying70]
theorem Try.keyAtSt : Try.prog.keyTypeAt 2 70 = true := by kernel_rfl
set_option maxRecDepth 100000 in
theorem Try.lawSt : Keyed Try.prog 70 := Keyed.of_law (deep_law_laid Try.laidOutC (m := 2) (by omega) Try.rowSt Try.keyAtSt Try.wideSt)
theorem Try.keySt : Try.prog.keyType 70 = true := by kernel_rfl

theorem Try.cellsSt : Try.prog.cellsOf 70 = 2 := by kernel_rfl
theorem Try.cellsI : Try.prog.cellsOf 3 = 1 := by kernel_rfl
/-- numbers that a key may have -/
def Wi (n : Int) : Prop := -9223372036854775808 ≤ n ∧ n ≤ 9223372036854775807
theorem wi_wf {n : Int} (h : Wi n) : (Lit.int .i64 n).wf = true := WalkArith.wf_i64 h
def keyV (v t : Int) : Value := .agg #[.int .i64 v, .int .i64 t]
def kOf (v t : Int) : Lit := .string (keyBytes [.int .i64 v, .int .i64 t])
theorem key_of {v t : Int} (hv : Wi v) (ht : Wi t) : keyOf Try.prog 70 (keyV v t) = some (kOf v t) := by
  have w1 := wi_wf hv
  have w2 := wi_wf ht
  obtain ⟨m, hm⟩ : ∃ m, Try.prog.types.size = m + 1 := ⟨Try.prog.types.size - 1, by have : (0 : Nat) < Try.prog.types.size := Nat.lt_of_le_of_lt (Nat.zero_le _) Try.rowSt; omega⟩
  unfold keyOf
  simp only [Try.underlying70]
  rw [if_pos (by rw [Try.keySt]; kernel_rfl), hm]
  unfold Program.keyLits
  simp only [Try.underlying70, Value.cells, keyV]
  rw [if_pos ⟨by rw [Try.cellsSt]; rfl, by kernel_rfl⟩]
  simp [Program.keyLits, Try.underlying3, Try.cellsI, w1, w2, kOf]
theorem keyV_inj {v t a b : Int} (h : keyV v t = keyV a b) : v = a ∧ t = b := by
  unfold keyV at h
  simp at h
  exact h
theorem kOf_ne {v t a b : Int} (hv : Wi v) (ht : Wi t) (ha : Wi a) (hb : Wi b) (h : ¬ (a = v ∧ b = t)) : kOf a b ≠ kOf v t := fun e => by
  have h1 := key_of hv ht
  rw [← e] at h1
  have := keyV_inj (Try.lawSt.inj (key_of ha hb) h1)
  exact h this

/-- a visit as a value -/
def encV (x : Vs) : Value := .agg #[.int .i64 x.1, .int .i64 x.2.1, .int .i64 x.2.2.1, .int .i64 x.2.2.2.1, .int .i64 x.2.2.2.2.1, .int .i64 x.2.2.2.2.2.1, .int .i64 x.2.2.2.2.2.2]
/-- .. as a datum -/
def datV (x : Vs) : DataW Unit := .agg [.lit (.int .i64 x.1), .lit (.int .i64 x.2.1), .lit (.int .i64 x.2.2.1), .lit (.int .i64 x.2.2.2.1), .lit (.int .i64 x.2.2.2.2.1), .lit (.int .i64 x.2.2.2.2.2.1), .lit (.int .i64 x.2.2.2.2.2.2)]
def ofL : List Value → Option Vs
  | [.int .i64 a, .int .i64 b, .int .i64 c, .int .i64 d, .int .i64 e, .int .i64 f, .int .i64 g] => some (a, b, c, d, e, f, g)
  | _ => none
def ofV : Value → Option Vs
  | .agg cs => ofL cs.toList
  | _ => none
def rdV (v : Value) : Option (DataW Unit × List MemPlace) := (ofV v).map fun x => (datV x, [])
theorem ofL_inv {l : List Value} {x : Vs} (h : ofL l = some x) : l = [.int .i64 x.1, .int .i64 x.2.1, .int .i64 x.2.2.1, .int .i64 x.2.2.2.1, .int .i64 x.2.2.2.2.1, .int .i64 x.2.2.2.2.2.1, .int .i64 x.2.2.2.2.2.2] := by
  unfold ofL at h
  split at h
  · cases h; rfl
  · cases h
theorem ofV_inv {v : Value} {x : Vs} (h : ofV v = some x) : v = encV x := by
  unfold ofV at h
  split at h
  · rename_i cs
    have := ofL_inv h
    unfold encV
    rw [← this]
  · cases h
theorem rdV_enc (x : Vs) : rdV (encV x) = some (datV x, []) := rfl
theorem datV_inj {x y : Vs} (h : datV x = datV y) : x = y := by
  obtain ⟨a, b, c, d, e, f, g⟩ := x
  obtain ⟨a', b', c', d', e', f', g'⟩ := y
  simp [datV] at h
  simp [h]
theorem rdV_inv {v : Value} {x : Vs} {ps : List MemPlace} (h : rdV v = some (datV x, ps)) : v = encV x := by
  unfold rdV at h
  cases e : ofV v with
  | none => rw [e] at h; cases h
  | some y =>
    rw [e] at h
    simp at h
    rw [ofV_inv e, datV_inj h.1]

/-- block b of w is a map of at most n states that tells M -/
def MapAt (w : World) (b n : Nat) (M : Mp) : Prop := ∃ D : DataW Unit, w.ownsMap Try.prog 70 rdV b n D ∧ ∀ v t, Wi v → Wi t → ∀ z, D.atKey (kOf v t) z = match M v t with | none => z | some x => datV x
theorem MapAt.mono {w : World} {b n n' : Nat} {M : Mp} (h : MapAt w b n M) (hn : n ≤ n') : MapAt w b n' M := by
  obtain ⟨D, h1, h2⟩ := h
  exact ⟨D, h1.mono hn, h2⟩
theorem MapAt.lt {w : World} {b n : Nat} {M : Mp} (h : MapAt w b n M) : b < w.heap.size := by
  obtain ⟨D, h1, h2⟩ := h
  exact h1.lt
theorem MapAt.kept {w w' : World} {b n : Nat} {M : Mp} {row : Option Nat} (h : MapAt w b n M) (hg : w.grownBy w' row) (hne : some b ≠ row) : MapAt w' b n M := by
  obtain ⟨D, h1, h2⟩ := h
  exact ⟨D, h1.kept hg hne, h2⟩
theorem MapAt.below {w w' : World} {b n : Nat} {M : Mp} (h : MapAt w b n M) (hb : Below w.heap.size w w') : MapAt w' b n M := h.kept (gby_of_below hb none) (by simp)
theorem MapAt.alloc {w : World} {b n : Nat} {M : Mp} (h : MapAt w b n M) (o : Obj) : MapAt (w.alloc o) b n M := h.below ((Below.refl _ _).alloc (Nat.le_refl _) o)
theorem mapAt_made (w : World) : MapAt (w.alloc (.map #[] 0)) w.heap.size 0 (fun _ _ => none) := ⟨.map [], World.ownsMap_made _ _ _ _, fun _ _ _ _ _ => rfl⟩
theorem MapAt.look {w : World} {b n : Nat} {M : Mp} (h : MapAt w b n M) {v t : Int} (hv : Wi v) (ht : Wi t) : (Instr.lookup 64 (.map (some b)) (keyV v t) true).run Try.prog w = .ok (.tuple #[encV ((M v t).getD (0, 0, 0, 0, 0, 0, 0)), .bool (M v t).isSome]) w := by
  obtain ⟨D, h1, h2⟩ := h
  obtain ⟨x, ps, hr, hx⟩ := h1.look_ok Try.lawSt Try.underlying64 (z := encV (0, 0, 0, 0, 0, 0, 0)) (Try.zeroValue68 w) (rdV_enc _) (key_of hv ht)
  rw [hr]
  have hk := h2 v t hv ht
  cases hm : M v t with
  | none =>
    rw [hm] at hk
    have hk : ∀ z, D.atKey (kOf v t) z = z := hk
    rw [hk] at hx
    rw [rdV_inv hx, Maps.has_false_of_atKey hk]
    rfl
  | some y =>
    rw [hm] at hk
    have hk : ∀ z, D.atKey (kOf v t) z = datV y := hk
    rw [hk] at hx
    rw [rdV_inv hx, Maps.has_true_of_atKey hk]
    rfl
theorem MapAt.look1 {w : World} {b n : Nat} {M : Mp} (h : MapAt w b n M) {v t : Int} (hv : Wi v) (ht : Wi t) : (Instr.lookup 64 (.map (some b)) (keyV v t) false).run Try.prog w = .ok (encV ((M v t).getD (0, 0, 0, 0, 0, 0, 0))) w := by
  obtain ⟨D, h1, h2⟩ := h
  obtain ⟨x, ps, hr, hx⟩ := h1.lookup Try.lawSt Try.underlying64 (z := encV (0, 0, 0, 0, 0, 0, 0)) (Try.zeroValue68 w) (rdV_enc _) (key_of hv ht)
  rw [hr]
  have hk := h2 v t hv ht
  cases hm : M v t with
  | none =>
    rw [hm] at hk
    have hk : ∀ z, D.atKey (kOf v t) z = z := hk
    rw [hk] at hx
    rw [rdV_inv hx]
    rfl
  | some y =>
    rw [hm] at hk
    have hk : ∀ z, D.atKey (kOf v t) z = datV y := hk
    rw [hk] at hx
    rw [rdV_inv hx]
    rfl
theorem MapAt.store {w : World} {b n : Nat} {M : Mp} (h : MapAt w b n M) (hn : n < maxLen) {v t : Int} (hv : Wi v) (ht : Wi t) (x : Vs) : ∃ w', (Instr.mapUpdate 64 (.map (some b)) (keyV v t) (encV x)).run Try.prog w = .ok () w' ∧ MapAt w' b (n + 1) (mset M v t x) ∧ w.grownBy w' (some b) := by
  obtain ⟨D, h1, h2⟩ := h
  obtain ⟨w', hr, h3, h4⟩ := h1.update Try.lawSt Try.underlying64 hn (key_of hv ht) (rdV_enc x)
  refine ⟨w', hr, ⟨_, h3, fun a c ha hc z => ?_⟩, h4⟩
  by_cases e : a = v ∧ c = t
  · obtain ⟨rfl, rfl⟩ := e
    rw [mset_same]
    exact Maps.atKey_put_same h1.isMap (Try.lawSt.key (key_of hv ht)) _ _
  · rw [mset_other _ _ e, Maps.atKey_put_other (kOf_ne hv ht ha hc e)]
    exact h2 a c ha hc z

end Go.Proofs.Ytkgbgkcbflicmac

namespace Go.Proofs.Ytkgbgkcbflicmac
open Go.RowKit

/-- a ride as a value -/
def rideV (r : Ri) : Value := .agg #[.int .i64 r.1, .int .i64 r.2.1, .int .i64 r.2.2.1, .int .i64 r.2.2.2.1, .int .i64 r.2.2.2.2.1, .int .i64 r.2.2.2.2.2]
theorem costOf_any (r : Ri) (w : World) : Calls Try.prog 25 #[rideV r] w fun res w' => res = .returned (.int .i64 r.2.2.2.2.2) ∧ Below w.heap.size w w' := by
  obtain ⟨E, d, a, e, ar, c⟩ := r
  simp only [rideV]
  go_enter Try.func25, Try.ntmps25
  go_wp2
  go_ret
  exact ⟨rfl, gal w _⟩
theorem oneEach_any (r : Ri) (w : World) : Calls Try.prog 26 #[rideV r] w fun res w' => res = .returned (.int .i64 1) ∧ Below w.heap.size w w' := by
  obtain ⟨E, d, a, e, ar, c⟩ := r
  simp only [rideV]
  go_enter Try.func26, Try.ntmps26
  go_wp2
  go_ret
  exact ⟨rfl, gal w _⟩
theorem nothing_any (r : Ri) (w : World) : Calls Try.prog 30 #[rideV r] w fun res w' => res = .returned (.int .i64 0) ∧ Below w.heap.size w w' := by
  obtain ⟨E, d, a, e, ar, c⟩ := r
  simp only [rideV]
  go_enter Try.func30, Try.ntmps30
  go_wp2
  go_ret
  exact ⟨rfl, gal w _⟩

theorem encV_mk (p E d a e ar c : Int) : encV (p, E, d, a, e, ar, c) = .agg #[.int .i64 p, .int .i64 E, .int .i64 d, .int .i64 a, .int .i64 e, .int .i64 ar, .int .i64 c] := rfl
set_option maxRecDepth 100000 in
set_option maxHeartbeats 1000000 in
theorem take_any (b n : Nat) (M : Mp) (r : Ri) (p : Int) (w : World) (hM : MapAt w b n M) (hn : n < 100000) (hr : Wi r.2.1 ∧ Wi r.2.2.1 ∧ Wi r.2.2.2.1 ∧ Wi r.2.2.2.2.1) (hp : 0 ≤ p ∧ p ≤ 1000) (hx : ∀ x, M r.2.2.1 r.2.1 = some x → -1000000 ≤ x.1 ∧ x.1 ≤ 1000000) :
    Calls Try.prog 44 #[.map (some b), rideV r, .int .i64 p] w fun res w' => (∃ v, res = .returned v) ∧ MapAt w' b (n + 1) (takeM M r p) ∧ w.grownBy w' (some b) := by
  obtain ⟨E, d, a, e, ar, c⟩ := r
  simp only [rideV]
  simp only at hr hx
  obtain ⟨hd, ha, he, har⟩ := hr
  obtain ⟨w1, hw1⟩ : ∃ x, x = w.alloc (.cells #[.int .i64 E, .int .i64 d, .int .i64 a, .int .i64 e, .int .i64 ar, .int .i64 c] 66) := ⟨_, rfl⟩
  have b1 : Below w.heap.size w w1 := by rw [hw1]; exact gal w _
  have M1 := hM.below b1
  have k1 := M1.look ha hd
  have y1 : w1.cell? ⟨w.heap.size, 1, none⟩ = some (.int .i64 d) := by rw [hw1]; exact new_cell rfl rfl
  have y2 : w1.cell? ⟨w.heap.size, 2, none⟩ = some (.int .i64 a) := by rw [hw1]; exact new_cell rfl rfl
  have hw1s := hw1.symm
  cases h1 : M a d with
  | none =>
    have HT : Hid (takeM M (E, d, a, e, ar, c) p = M) := by show _ = _; unfold takeM; simp only; rw [h1]
    rw [h1] at k1
    simp only [keyV, Option.getD_none, encV_mk, Option.isSome_none] at k1
    clear h1 hw1
    go_enter Try.func44, Try.ntmps44
    go_wp2
    refine bodyPost_ret (results_none rfl _ _ _) rfl ⟨⟨_, rfl⟩, ?_, ?_⟩
    · rw [HT.out]; exact (M1.alloc _).mono (by omega)
    · exact gby_of_below (ptg b1 (gal w1 _)) _
  | some x =>
    obtain ⟨q, E2, d2, a2, e2, ar2, c2⟩ := x
    have hq := hx _ h1
    simp only at hq
    rw [h1] at k1
    simp only [keyV, Option.getD_some, encV_mk, Option.isSome_some] at k1
    have hw2 : IntKind.i64.wrap (q + p) = q + p := wrap_nj _ (by omega) (by omega)
    obtain ⟨w3, hw3⟩ : ∃ x, x = (w1.alloc (.cells #[.int .i64 q, .int .i64 E2, .int .i64 d2, .int .i64 a2, .int .i64 e2, .int .i64 ar2, .int .i64 c2] 68)).alloc (.cells #[.int .i64 e, .int .i64 ar] 70) := ⟨_, rfl⟩
    have b3 : Below w1.heap.size w1 w3 := by rw [hw3]; exact ptg (gal _ _) (gal _ _)
    have s3 : w3.heap.size = w1.heap.size + 1 + 1 := by rw [hw3]; simp
    have s1 : w1.heap.size = w.heap.size + 1 := by rw [hw1]; simp
    have M3 := M1.below b3
    have k2 := M3.look he har
    have z0 : w3.cell? ⟨w1.heap.size, 0, none⟩ = some (.int .i64 q) := by rw [hw3, (gal _ _).cell (by simp)]; exact new_cell rfl rfl
    have z1 : w3.cell? ⟨w1.heap.size + 1, 0, none⟩ = some (.int .i64 e) := by rw [hw3]; exact new_cell (by simp) rfl
    have z2 : w3.cell? ⟨w1.heap.size + 1, 1, none⟩ = some (.int .i64 ar) := by rw [hw3]; exact new_cell (by simp) rfl
    have y3 : w1.cell? ⟨w.heap.size, 3, none⟩ = some (.int .i64 e) := by rw [hw1]; exact new_cell rfl rfl
    have y4 : w1.cell? ⟨w.heap.size, 4, none⟩ = some (.int .i64 ar) := by rw [hw1]; exact new_cell rfl rfl
    have y3' : (w1.alloc (.cells #[.int .i64 q, .int .i64 E2, .int .i64 d2, .int .i64 a2, .int .i64 e2, .int .i64 ar2, .int .i64 c2] 68)).cell? ⟨w.heap.size, 3, none⟩ = some (.int .i64 e) := ((gal w1 _).cell (p := ⟨w.heap.size, 3, none⟩) (by simp only; omega)).trans y3
    have y4' : (w1.alloc (.cells #[.int .i64 q, .int .i64 E2, .int .i64 d2, .int .i64 a2, .int .i64 e2, .int .i64 ar2, .int .i64 c2] 68)).cell? ⟨w.heap.size, 4, none⟩ = some (.int .i64 ar) := ((gal w1 _).cell (p := ⟨w.heap.size, 4, none⟩) (by simp only; omega)).trans y4
    have hw3s := hw3.symm
    have no : ∀ W, Below w3.heap.size w3 W → takeM M (E, d, a, e, ar, c) p = M → MapAt W b (n + 1) (takeM M (E, d, a, e, ar, c) p) ∧ w.grownBy W (some b) := fun W h h' => by
      rw [h']; exact ⟨(M3.below h).mono (by omega), gby_of_below (ptg b1 (ptg b3 h)) _⟩
    have yes : ∀ W, Below w3.heap.size w3 W → takeM M (E, d, a, e, ar, c) p = mset M e ar (q + p, E, d, a, e, ar, c) → ∃ w', (Instr.mapUpdate 64 (.map (some b)) (.agg #[.int .i64 e, .int .i64 ar]) (.agg #[.int .i64 (q + p), .int .i64 E, .int .i64 d, .int .i64 a, .int .i64 e, .int .i64 ar, .int .i64 c])).run Try.prog W = .ok () w' ∧ Hid (MapAt w' b (n + 1) (takeM M (E, d, a, e, ar, c) p) ∧ w.grownBy w' (some b)) := fun W h h' => by
      obtain ⟨w', r1, r2, r3⟩ := (M3.below h).store (by unfold maxLen; omega) he har (q + p, E, d, a, e, ar, c)
      exact ⟨w', r1, by rw [h']; exact r2, gby_trans (gby_of_below (ptg b1 (ptg b3 h)) _) r3⟩
    have HNo := hideg no
    have HYes := hideg yes
    have cY : ∀ W, Below w3.heap.size w3 W → ∀ j x, w1.cell? ⟨w.heap.size, j, none⟩ = some x → W.cell? ⟨w.heap.size, j, none⟩ = some x := fun W h j x hx => ((ptg b3 h).cell (p := ⟨w.heap.size, j, none⟩) (by simp only; omega)).trans hx
    have HC := hideg cY
    have y0 : w1.cell? ⟨w.heap.size, 0, none⟩ = some (.int .i64 E) := by rw [hw1]; exact new_cell rfl rfl
    have y5 : w1.cell? ⟨w.heap.size, 5, none⟩ = some (.int .i64 c) := by rw [hw1]; exact new_cell rfl rfl
    have HTk : Hid (takeM M (E, d, a, e, ar, c) p = if lessB (M e ar) (q + p) = true then mset M e ar (q + p, E, d, a, e, ar, c) else M) := by show _ = _; unfold takeM; simp only; rw [h1]
    have HSz : Hid (w3.heap.size = w1.heap.size + 1 + 1) := s3
    clear no yes hM M1 M3 hx h1 cY hw1 hw3 s1 s3
    cases h2 : M e ar with
    | none =>
      rw [h2] at k2
      simp only [keyV, Option.getD_none, encV_mk, Option.isSome_none] at k2
      have HT : Hid (takeM M (E, d, a, e, ar, c) p = mset M e ar (q + p, E, d, a, e, ar, c)) := by show _ = _; rw [HTk.out, h2]; rfl
      obtain ⟨w', hup, HF⟩ := HYes.out (w3.alloc (.cells #[.int .i64 0, .int .i64 0, .int .i64 0, .int .i64 0, .int .i64 0, .int .i64 0, .int .i64 0] 68)) (gal w3 _) HT.out
      clear HTk h2
      have z0' := ((gal w3 (.cells #[.int .i64 0, .int .i64 0, .int .i64 0, .int .i64 0, .int .i64 0, .int .i64 0, .int .i64 0] 68)).cell (p := ⟨w1.heap.size, 0, none⟩) (by simp only; have := HSz.out; omega)).trans z0
      have z1' := ((gal w3 (.cells #[.int .i64 0, .int .i64 0, .int .i64 0, .int .i64 0, .int .i64 0, .int .i64 0, .int .i64 0] 68)).cell (p := ⟨w1.heap.size + 1, 0, none⟩) (by simp only; have := HSz.out; omega)).trans z1
      have z2' := ((gal w3 (.cells #[.int .i64 0, .int .i64 0, .int .i64 0, .int .i64 0, .int .i64 0, .int .i64 0, .int .i64 0] 68)).cell (p := ⟨w1.heap.size + 1, 1, none⟩) (by simp only; have := HSz.out; omega)).trans z2
      have c0 := HC.out _ (gal w3 (.cells #[.int .i64 0, .int .i64 0, .int .i64 0, .int .i64 0, .int .i64 0, .int .i64 0, .int .i64 0] 68)) 0 _ y0
      have c1 := HC.out _ (gal w3 (.cells #[.int .i64 0, .int .i64 0, .int .i64 0, .int .i64 0, .int .i64 0, .int .i64 0, .int .i64 0] 68)) 1 _ y1
      have c2' := HC.out _ (gal w3 (.cells #[.int .i64 0, .int .i64 0, .int .i64 0, .int .i64 0, .int .i64 0, .int .i64 0, .int .i64 0] 68)) 2 _ y2
      have c3 := HC.out _ (gal w3 (.cells #[.int .i64 0, .int .i64 0, .int .i64 0, .int .i64 0, .int .i64 0, .int .i64 0, .int .i64 0] 68)) 3 _ y3
      have c4 := HC.out _ (gal w3 (.cells #[.int .i64 0, .int .i64 0, .int .i64 0, .int .i64 0, .int .i64 0, .int .i64 0, .int .i64 0] 68)) 4 _ y4
      have c5 := HC.out _ (gal w3 (.cells #[.int .i64 0, .int .i64 0, .int .i64 0, .int .i64 0, .int .i64 0, .int .i64 0, .int .i64 0] 68)) 5 _ y5
      go_enter Try.func44, Try.ntmps44
      go_wp2
      refine bodyPost_end (results_none rfl _ _ _) rfl ⟨⟨_, rfl⟩, HF.out.1, HF.out.2⟩
    | some y =>
      obtain ⟨q2, E3, d3, a3, e3, ar3, c3⟩ := y
      rw [h2] at k2
      simp only [keyV, Option.getD_some, encV_mk, Option.isSome_some] at k2
      by_cases hl : q + p < q2
      · have HT : Hid (takeM M (E, d, a, e, ar, c) p = mset M e ar (q + p, E, d, a, e, ar, c)) := by
          show _ = _; rw [HTk.out, h2, if_pos (by simp [lessB, hl])]
        obtain ⟨w', hup, HF⟩ := HYes.out (w3.alloc (.cells #[.int .i64 q2, .int .i64 E3, .int .i64 d3, .int .i64 a3, .int .i64 e3, .int .i64 ar3, .int .i64 c3] 68)) (gal w3 _) HT.out
        clear HTk h2
        have z0' := ((gal w3 (.cells #[.int .i64 q2, .int .i64 E3, .int .i64 d3, .int .i64 a3, .int .i64 e3, .int .i64 ar3, .int .i64 c3] 68)).cell (p := ⟨w1.heap.size, 0, none⟩) (by simp only; have := HSz.out; omega)).trans z0
        have z1' := ((gal w3 (.cells #[.int .i64 q2, .int .i64 E3, .int .i64 d3, .int .i64 a3, .int .i64 e3, .int .i64 ar3, .int .i64 c3] 68)).cell (p := ⟨w1.heap.size + 1, 0, none⟩) (by simp only; have := HSz.out; omega)).trans z1
        have z2' := ((gal w3 (.cells #[.int .i64 q2, .int .i64 E3, .int .i64 d3, .int .i64 a3, .int .i64 e3, .int .i64 ar3, .int .i64 c3] 68)).cell (p := ⟨w1.heap.size + 1, 1, none⟩) (by simp only; have := HSz.out; omega)).trans z2
        have c0 := HC.out _ (gal w3 (.cells #[.int .i64 q2, .int .i64 E3, .int .i64 d3, .int .i64 a3, .int .i64 e3, .int .i64 ar3, .int .i64 c3] 68)) 0 _ y0
        have c1 := HC.out _ (gal w3 (.cells #[.int .i64 q2, .int .i64 E3, .int .i64 d3, .int .i64 a3, .int .i64 e3, .int .i64 ar3, .int .i64 c3] 68)) 1 _ y1
        have c2' := HC.out _ (gal w3 (.cells #[.int .i64 q2, .int .i64 E3, .int .i64 d3, .int .i64 a3, .int .i64 e3, .int .i64 ar3, .int .i64 c3] 68)) 2 _ y2
        have c3' := HC.out _ (gal w3 (.cells #[.int .i64 q2, .int .i64 E3, .int .i64 d3, .int .i64 a3, .int .i64 e3, .int .i64 ar3, .int .i64 c3] 68)) 3 _ y3
        have c4 := HC.out _ (gal w3 (.cells #[.int .i64 q2, .int .i64 E3, .int .i64 d3, .int .i64 a3, .int .i64 e3, .int .i64 ar3, .int .i64 c3] 68)) 4 _ y4
        have c5 := HC.out _ (gal w3 (.cells #[.int .i64 q2, .int .i64 E3, .int .i64 d3, .int .i64 a3, .int .i64 e3, .int .i64 ar3, .int .i64 c3] 68)) 5 _ y5
        go_enter Try.func44, Try.ntmps44
        go_wp2
        refine bodyPost_end (results_none rfl _ _ _) rfl ⟨⟨_, rfl⟩, HF.out.1, HF.out.2⟩
      · have HT : Hid (takeM M (E, d, a, e, ar, c) p = M) := by
          show _ = _; rw [HTk.out, h2, if_neg (by simp [lessB]; omega)]
        have z0' := ((gal w3 (.cells #[.int .i64 q2, .int .i64 E3, .int .i64 d3, .int .i64 a3, .int .i64 e3, .int .i64 ar3, .int .i64 c3] 68)).cell (p := ⟨w1.heap.size, 0, none⟩) (by simp only; have := HSz.out; omega)).trans z0
        clear HTk h2 HYes
        go_enter Try.func44, Try.ntmps44
        go_wp2
        refine bodyPost_end (results_none rfl _ _ _) rfl ⟨⟨_, rfl⟩, (HNo.out _ (gal w3 _) HT.out).1, (HNo.out _ (gal w3 _) HT.out).2⟩

end Go.Proofs.Ytkgbgkcbflicmac

namespace Go.Proofs.Ytkgbgkcbflicmac
open Go.RowKit

/-- memory that is no map stays while a map is written -/
theorem MapAt.cell {w w' : World} {b n : Nat} {M : Mp} (h : MapAt w b n M) (hg : w.grownBy w' (some b)) {a : Addr} {x : Value} (hx : w.cell? a = some x) : w'.cell? a = some x := by
  refine hg.cell hx (fun e => ?_)
  obtain ⟨D, ⟨es, clock, hb, _⟩, _⟩ := h
  have e : a.block = b := by simpa using e
  unfold World.cell? at hx
  rw [e, hb] at hx
  cases hx
theorem gat_keep {w w' : World} {la ea : Option Addr} {g : Gr} (h : GAt w la ea g) (hs : w.heap.size ≤ w'.heap.size) (hc : ∀ a x, w.cell? a = some x → w'.cell? a = some x) : GAt w' la ea g := by
  refine ⟨?_, ?_, h.nl, h.ne⟩
  · rcases h.lv with h | ⟨b, off, rfl, hlt, hk⟩
    · exact .inl h
    · exact .inr ⟨b, off, rfl, Nat.lt_of_lt_of_le hlt hs, fun j hj => ⟨hc _ _ (hk j hj).1, hc _ _ (hk j hj).2⟩⟩
  · rcases h.ed with h | ⟨b, off, rfl, hlt, hk⟩
    · exact .inl h
    · refine .inr ⟨b, off, rfl, Nat.lt_of_lt_of_le hlt hs, fun j hj => ?_⟩
      obtain ⟨c0, c1, lo, lc, c2, hl, n1, n2⟩ := hk j hj
      refine ⟨hc _ _ c0, hc _ _ c1, lo, lc, hc _ _ c2, ?_, n1, n2⟩
      rcases hl with hl | ⟨b', off', rfl, hlt', hk'⟩
      · exact .inl hl
      · exact .inr ⟨b', off', rfl, Nat.lt_of_lt_of_le hlt' hs, fun i hi => ⟨hc _ _ (hk' i hi).1, hc _ _ (hk' i hi).2.1, hc _ _ (hk' i hi).2.2.1, hc _ _ (hk' i hi).2.2.2⟩⟩
theorem MapAt.gat {w w' : World} {b n : Nat} {M : Mp} (h : MapAt w b n M) (hg : w.grownBy w' (some b)) {la ea : Option Addr} {g : Gr} (hG : GAt w la ea g) : GAt w' la ea g := gat_keep hG hg.size (fun _ _ hx => h.cell hg hx)
theorem wi_small {n : Int} (h0 : -1000000 ≤ n) (h1 : n ≤ 1000000) : Wi n := by unfold Wi; omega

theorem waitV_none {g : Gr} {now : Int} {M : Mp} {v : Int} (h : M v (now - 1) = none) : waitV g now M v = M := by unfold waitV; rw [h]
theorem waitV_dead {g : Gr} {now : Int} {M : Mp} {v : Int} (h : aliveB now g.lives v = false) : waitV g now M v = M := by
  unfold waitV
  cases M v (now - 1) with
  | none => rfl
  | some x => simp [h]
theorem waitV_some {g : Gr} {now : Int} {M : Mp} {v : Int} {x : Vs} (h : M v (now - 1) = some x) (ha : aliveB now g.lives v = true) : waitV g now M v = if leqB (M v now) x.1 = true then mset M v now x else M := by
  unfold waitV; rw [h]; simp only; rw [if_pos ha]

set_option maxRecDepth 100000 in
set_option maxHeartbeats 1000000 in
theorem waitTill_any (g : Gr) (la ea : Option Addr) (lc ec : Nat) (b n : Nat) (M : Mp) (now : Int) (w : World) (hG : GAt w la ea g) (hR : Right g) (hM : MapAt w b n M) (hn : n < 50000) (h0 : 0 ≤ now ∧ now < 1000) :
    Calls Try.prog 43 #[.map (some b), .agg #[.int .i64 g.hor, .slice la g.lives.length lc, .slice ea g.edges.length ec], .int .i64 now] w fun res w' => (∃ v, res = .returned v) ∧ MapAt w' b (n + g.lives.length) (waitM g now M g.lives.length) ∧ w.grownBy w' (some b) := by
  obtain ⟨w1, hw1⟩ : ∃ x, x = w.alloc (.cells #[.int .i64 g.hor, .slice la g.lives.length lc, .slice ea g.edges.length ec] 25) := ⟨_, rfl⟩
  have B0 : GBx w w1 w.heap.size g la ea lc ec := by rw [hw1]; exact gbx_start w g la ea lc ec 25
  have M1 := hM.below B0.bel
  have hG1 := hG.below B0.bel
  have hlv := hR.lvs
  have g1 := B0.c1
  have hw1s := hw1.symm
  have HB0 := hideg B0.bel
  have HM1 := hideg M1
  have HG1 := hideg hG1
  have hnow1 : IntKind.i64.wrap (now - 1) = now - 1 := wrap_nj _ (by omega) (by omega)
  clear hM hG hR hw1 B0 M1 hG1
  go_enter Try.func43, Try.ntmps43
  go_wp2_with fail
  clear hw1s
  go_loopw [15] (fun i wr => ∃ k : Nat, k ≤ g.lives.length ∧ i = .int .i64 k ∧ MapAt wr b (n + k) (waitM g now M k) ∧ w1.grownBy wr (some b)) (fun i _ => g.lives.length - (intOf i).toNat)
  case atStart => exact ⟨0, Nat.zero_le _, rfl, HM1.out, gby_refl _ _⟩
  case round =>
    clear g1
    obtain ⟨k, hk, rfl, hMk, hg⟩ := hrel
    by_cases hkl : k < g.lives.length
    · have hki : (k : Int) < (g.lives.length : Int) := by omega
      have hkw : IntKind.i64.wrap ((k : Int) + 1) = (k : Int) + 1 := wrap_nj _ (by omega) (by omega)
      obtain ⟨lb, lof, rfl, hlb, l0, l1⟩ : ∃ b off, la = some ⟨b, off, none⟩ ∧ b < wr.heap.size ∧ (wr.cell? ⟨b, off + k * 2, none⟩ = some (.int .i64 g.lives[k].1) ∧ wr.cell? ⟨b, off + k * 2 + 1, none⟩ = some (.int .i64 g.lives[k].2)) := by
        rcases (HM1.out.gat hg HG1.out).lv with h0 | ⟨b, off, rfl, hbr, hc⟩
        · rw [h0] at hkl; simp at hkl
        exact ⟨b, off, rfl, hbr, IvAt.get hkl hc⟩
      have hal := fun W => jalive_any g.lives[k].1 g.lives[k].2 now W
      rw [← aliveB_at now g.lives k hkl] at hal
      obtain ⟨wa, hwa⟩ : ∃ x, x = wr.alloc (.cells #[.int .i64 g.lives[k].1, .int .i64 g.lives[k].2] 59) := ⟨_, rfl⟩
      have ba : Below wr.heap.size wr wa := by rw [hwa]; exact gal wr _
      have y0 : wa.cell? ⟨wr.heap.size, 0, none⟩ = some (.int .i64 g.lives[k].1) := by rw [hwa]; exact new_cell rfl rfl
      have y1 : wa.cell? ⟨wr.heap.size, 1, none⟩ = some (.int .i64 g.lives[k].2) := by rw [hwa]; exact new_cell rfl rfl
      have sa : wr.heap.size < wa.heap.size := by rw [hwa]; simp
      have Ma := hMk.below ba
      have k1 := Ma.look (v := (k : Int)) (t := now - 1) (wi_small (by omega) (by omega)) (wi_small (by omega) (by omega))
      have HSu : Hid (waitM g now M (k + 1) = waitV g now (waitM g now M k) (k : Int)) := rfl
      generalize waitM g now M k = Mk at *
      have HGa : Hid (∀ W, Below wa.heap.size wa W → w1.grownBy W (some b)) := fun W h => gby_trans hg (gby_of_below (ptg ba h) _)
      have HMa : Hid (∀ W, Below wa.heap.size wa W → MapAt W b (n + k) Mk) := fun W h => Ma.below h
      have hwas := hwa.symm
      clear hwa hMk hg ba Ma
      have NO : Hid (waitM g now M (k + 1) = Mk → ∀ W, Below wa.heap.size wa W → MapAt W b (n + (k + 1)) (waitM g now M (k + 1)) ∧ w1.grownBy W (some b)) := fun h W hW => by rw [h]; exact ⟨(HMa.out W hW).mono (by omega), HGa.out W hW⟩
      cases h1 : Mk (k : Int) (now - 1) with
      | none =>
        have HE := hideg (NO.out (HSu.out.trans (waitV_none h1)))
        rw [h1] at k1
        simp only [keyV, Option.getD_none, encV_mk, Option.isSome_none] at k1
        clear h1 hal HSu NO
        generalize g.lives[k] = lf at *
        go_wp2
        go_roundw
        case rel => exact ⟨k + 1, by omega, by go_num, (HE.out _ (gal wa _)).1, (HE.out _ (gal wa _)).2⟩
        case measure => simp [intOf]; omega
      | some x =>
        obtain ⟨q, E2, d2, a2, e2, ar2, c2⟩ := x
        rw [h1] at k1
        simp only [keyV, Option.getD_some, encV_mk, Option.isSome_some] at k1
        obtain ⟨wb, hwb⟩ : ∃ x, x = wa.alloc (.cells #[.int .i64 q, .int .i64 E2, .int .i64 d2, .int .i64 a2, .int .i64 e2, .int .i64 ar2, .int .i64 c2] 68) := ⟨_, rfl⟩
        have bb : Below wa.heap.size wa wb := by rw [hwb]; exact gal wa _
        have z0 : ∀ j x, #[Value.int .i64 q, .int .i64 E2, .int .i64 d2, .int .i64 a2, .int .i64 e2, .int .i64 ar2, .int .i64 c2][j]? = some x → wb.cell? ⟨wa.heap.size, j, none⟩ = some x := fun j x hx => by rw [hwb]; exact new_cell rfl hx
        have y0b := (bb.cell (p := ⟨wr.heap.size, 0, none⟩) sa).trans y0
        have y1b := (bb.cell (p := ⟨wr.heap.size, 1, none⟩) sa).trans y1
        have sb : wa.heap.size < wb.heap.size := by rw [hwb]; simp
        have hwbs := hwb.symm
        clear hwb
        cases ha : aliveB now g.lives (k : Int) with
        | false =>
          rw [ha] at hal
          have HE := hideg (fun W h => NO.out (HSu.out.trans (waitV_dead ha)) W (ptg bb h))
          clear h1 HSu NO ha z0
          generalize g.lives[k] = lf at *
          go_wp2_with fail
          refine (hal _).mono ?_
          rintro r w5 ⟨rfl, hb5⟩
          have HE5 := hideg (HE.out _ hb5)
          clear hal hb5 HE
          go_wp2
          go_roundw
          case rel => exact ⟨k + 1, by omega, by go_num, HE5.out.1, HE5.out.2⟩
          case measure => simp [intOf]; omega
        | true =>
          rw [ha] at hal
          have HV : Hid (waitM g now M (k + 1) = if leqB (Mk (k : Int) now) q = true then mset Mk (k : Int) now (q, E2, d2, a2, e2, ar2, c2) else Mk) := HSu.out.trans (waitV_some h1 ha)
          have HZ := hideg z0
          clear h1 HSu ha z0
          generalize g.lives[k] = lf at *
          go_wp2_with fail
          refine (hal _).mono ?_
          rintro r w5 ⟨rfl, hb5⟩
          have M5 := HMa.out w5 (ptg bb hb5)
          have k2 := M5.look (v := (k : Int)) (t := now) (wi_small (by omega) (by omega)) (wi_small (by omega) (by omega))
          have YES : Hid (waitM g now M (k + 1) = mset Mk (k : Int) now (q, E2, d2, a2, e2, ar2, c2) → ∀ W, Below w5.heap.size w5 W → ∃ w', (Instr.mapUpdate 64 (.map (some b)) (.agg #[.int .i64 (k : Int), .int .i64 now]) (.agg #[.int .i64 q, .int .i64 E2, .int .i64 d2, .int .i64 a2, .int .i64 e2, .int .i64 ar2, .int .i64 c2])).run Try.prog W = .ok () w' ∧ Hid (MapAt w' b (n + (k + 1)) (waitM g now M (k + 1)) ∧ w1.grownBy w' (some b))) := fun h W hW => by
            obtain ⟨w', r1, r2, r3⟩ := (M5.below hW).store (by unfold maxLen; omega) (v := (k : Int)) (t := now) (wi_small (by omega) (by omega)) (wi_small (by omega) (by omega)) (q, E2, d2, a2, e2, ar2, c2)
            exact ⟨w', r1, by rw [h]; exact r2, gby_trans (HGa.out W (ptg bb (ptg hb5 hW))) r3⟩
          have HC : Hid (∀ W, Below w5.heap.size w5 W → ∀ j x, #[Value.int .i64 q, .int .i64 E2, .int .i64 d2, .int .i64 a2, .int .i64 e2, .int .i64 ar2, .int .i64 c2][j]? = some x → W.cell? ⟨wa.heap.size, j, none⟩ = some x) := fun W hW j x hx => ((ptg hb5 hW).cell (p := ⟨wa.heap.size, j, none⟩) sb).trans (HZ.out j x hx)
          have HNO5 : Hid (waitM g now M (k + 1) = Mk → ∀ W, Below w5.heap.size w5 W → MapAt W b (n + (k + 1)) (waitM g now M (k + 1)) ∧ w1.grownBy W (some b)) := fun h W hW => NO.out h W (ptg bb (ptg hb5 hW))
          clear hal M5 NO HMa HGa hwas hwbs k1 y0 y1 y0b y1b bb hb5 HZ l0 l1
          cases h2 : Mk (k : Int) now with
          | none =>
            rw [h2] at k2
            simp only [keyV, Option.getD_none, encV_mk, Option.isSome_none] at k2
            have HT := hideg (YES.out (by rw [HV.out, h2]; rfl))
            clear h2 HV YES
            obtain ⟨o, ho⟩ : ∃ o : Obj, o = .cells #[.int .i64 0, .int .i64 0, .int .i64 0, .int .i64 0, .int .i64 0, .int .i64 0, .int .i64 0] 68 := ⟨_, rfl⟩
            obtain ⟨w', hup, HF⟩ := HT.out _ (gal w5 o)
            have c0 := HC.out _ (gal w5 o) 0 _ rfl
            have c1 := HC.out _ (gal w5 o) 1 _ rfl
            have c2' := HC.out _ (gal w5 o) 2 _ rfl
            have c3 := HC.out _ (gal w5 o) 3 _ rfl
            have c4 := HC.out _ (gal w5 o) 4 _ rfl
            have c5 := HC.out _ (gal w5 o) 5 _ rfl
            have c6 := HC.out _ (gal w5 o) 6 _ rfl
            subst ho
            clear HT HC
            go_wp2
            go_roundw
            case rel => exact ⟨k + 1, by omega, by go_num, HF.out.1, HF.out.2⟩
            case measure => simp [intOf]; omega
          | some y =>
            obtain ⟨q2, E3, d3, a3, e3, ar3, c3⟩ := y
            rw [h2] at k2
            simp only [keyV, Option.getD_some, encV_mk, Option.isSome_some] at k2
            obtain ⟨w6, hw6⟩ : ∃ x, x = w5.alloc (.cells #[.int .i64 q2, .int .i64 E3, .int .i64 d3, .int .i64 a3, .int .i64 e3, .int .i64 ar3, .int .i64 c3] 68) := ⟨_, rfl⟩
            have b6 : Below w5.heap.size w5 w6 := by rw [hw6]; exact gal w5 _
            have v0 : w6.cell? ⟨w5.heap.size, 0, none⟩ = some (.int .i64 q2) := by rw [hw6]; exact new_cell rfl rfl
            have c0 := HC.out w6 b6 0 _ rfl
            have c1 := HC.out w6 b6 1 _ rfl
            have c2' := HC.out w6 b6 2 _ rfl
            have c3' := HC.out w6 b6 3 _ rfl
            have c4 := HC.out w6 b6 4 _ rfl
            have c5 := HC.out w6 b6 5 _ rfl
            have c6 := HC.out w6 b6 6 _ rfl
            have hw6s := hw6.symm
            clear hw6 HC
            by_cases hl : q ≤ q2
            · have HT := hideg (YES.out (by rw [HV.out, h2, if_pos (by simp [leqB, hl])]))
              obtain ⟨w', hup, HF⟩ := HT.out w6 b6
              clear h2 HV YES HT HNO5
              go_wp2
              go_roundw
              case rel => exact ⟨k + 1, by omega, by go_num, HF.out.1, HF.out.2⟩
              case measure => simp [intOf]; omega
            · have HT := hideg (HNO5.out (by rw [HV.out, h2, if_neg (by simp [leqB]; omega)]) w6 b6)
              clear h2 HV YES HNO5
              go_wp2
              go_roundw
              case rel => exact ⟨k + 1, by omega, by go_num, HT.out.1, HT.out.2⟩
              case measure => simp [intOf]; omega
    · have hke : k = g.lives.length := by omega
      subst hke
      have HF := hideg hMk
      have HG := hideg (gby_trans (gby_of_below HB0.out (some b)) hg)
      clear hMk hg
      go_wp2_with fail
      refine bodyPost_end (results_none rfl _ _ _) rfl ⟨⟨_, rfl⟩, HF.out, HG.out⟩

end Go.Proofs.Ytkgbgkcbflicmac

namespace Go.Proofs.Ytkgbgkcbflicmac
open Go.RowKit

theorem RdOne.gby {w w' : World} {b n : Nat} {M : Mp} (hM : MapAt w b n M) (hg : w.grownBy w' (some b)) {rb o : Nat} {r : Ri} (h : RdOne w rb o r) : RdOne w' rb o r :=
  ⟨hM.cell hg h.c0, hM.cell hg h.c1, hM.cell hg h.c2, hM.cell hg h.c3, hM.cell hg h.c4, hM.cell hg h.c5⟩
theorem GBx.gby {w W W' : World} {B b n : Nat} {M : Mp} {g : Gr} {la ea : Option Addr} {lc ec : Nat} (hM : MapAt W b n M) (hg : W.grownBy W' (some b)) (h : GBx w W B g la ea lc ec) : W'.cell? ⟨B, 0, none⟩ = some (.int .i64 g.hor) ∧ W'.cell? ⟨B, 1, none⟩ = some (.slice la g.lives.length lc) ∧ W'.cell? ⟨B, 2, none⟩ = some (.slice ea g.edges.length ec) := ⟨hM.cell hg h.c0, hM.cell hg h.c1, hM.cell hg h.c2⟩

/-- the rides that are left, in a slot: i taken, m left -/
def RSl (rb cap : Nat) (l : List Ri) (u : Value) (i m : Nat) : Prop := i + m = l.length ∧ ∃ c ao, u = .slice ao m c ∧ i + c = cap ∧ (0 < m → ao = some ⟨rb, i * 6, none⟩)

theorem rides_lie {w : World} {base : Nat} {v : Value} {l : List Ri} (h : w.ownsRow base 66 6 v l.length (encRs l)) : ∃ rb cap, RSl rb cap l v 0 l.length ∧ l.length ≤ cap ∧ cap ≤ maxLen ∧ (l ≠ [] → rb < w.heap.size) ∧ ∀ j, j < l.length → RdOne w rb (j * 6) (l.getD j ri0) := by
  have h' := h
  rcases h.2 with ⟨rfl, h0⟩ | ⟨g, cap, cur, rfl, hb, hh, h3, h4, h5, h6⟩
  · have : l = [] := List.eq_nil_of_length_eq_zero h0
    subst this
    exact ⟨0, 0, ⟨rfl, 0, none, rfl, rfl, fun h => by simp at h⟩, Nat.le_refl _, Nat.zero_le _, fun h => absurd rfl h, fun j hj => by simp at hj⟩
  · refine ⟨g, cap, ⟨by omega, cap, _, rfl, by omega, fun _ => by simp⟩, h3, h4, fun _ => (Array.getElem?_eq_some_iff.1 hh).1, fun j hj => ?_⟩
    obtain ⟨f0, f1, f2, f3, f4, f5⟩ := encRs_get l j hj
    refine ⟨?_, ?_, ?_, ?_, ?_, ?_⟩
    · rw [h'.cellAt (j * 6) (by omega)]; exact f0
    · rw [h'.cellAt (j * 6 + 1) (by omega)]; exact f1
    · rw [h'.cellAt (j * 6 + 2) (by omega)]; exact f2
    · rw [h'.cellAt (j * 6 + 3) (by omega)]; exact f3
    · rw [h'.cellAt (j * 6 + 4) (by omega)]; exact f4
    · rw [h'.cellAt (j * 6 + 5) (by omega)]; exact f5

set_option maxRecDepth 100000 in
set_option maxHeartbeats 1000000 in
theorem spread_any (g : Gr) (la ea : Option Addr) (lc ec : Nat) (F : Int → Int → Option Int) (pr : Ri → Int) (s0 : Int) (fv : FuncId) (eg : ∀ args w, (callFunc fv args).run Try.prog w = .ok (.enter fv args) w) (b n : Nat) (M0 : Mp) (w : World) (hG : GAt w la ea g) (hR : Right g) (hF : FOk g F s0) (hM : MapAt w b n M0) (hn : n ≤ 200) (hs0 : 0 ≤ s0 ∧ s0 < g.hor)
    (hM0 : ∀ v t, (M0 v t).map (·.1) = F v t) (hpr : PrOk g pr) (hPb : ∀ v t p, Pd g F pr v t p → -1000000 ≤ p ∧ p ≤ 1000000)
    (hfv : ∀ r W, Calls Try.prog fv #[rideV r] W fun res w' => res = .returned (.int .i64 (pr r)) ∧ Below W.heap.size W w') :
    Calls Try.prog 29 #[.map (some b), .agg #[.int .i64 g.hor, .slice la g.lives.length lc, .slice ea g.edges.length ec], .int .i64 s0, .func (.func fv) #[] #[]] w fun res w' => (∃ v, res = .returned v) ∧ (∃ n' M, MapAt w' b n' M ∧ SpE g F pr M) ∧ w.grownBy w' (some b) := by
  obtain ⟨w1, hw1⟩ : ∃ x, x = w.alloc (.cells #[.int .i64 g.hor, .slice la g.lives.length lc, .slice ea g.edges.length ec] 25) := ⟨_, rfl⟩
  have B0 : GBx w w1 w.heap.size g la ea lc ec := by rw [hw1]; exact gbx_start w g la ea lc ec 25
  have hhor := hR.hor
  have hlv := hR.lvs
  have g0 := B0.c0
  have g1 := B0.c1
  have g2 := B0.c2
  have hw1s := hw1.symm
  have hRd := Rides_any g la ea lc ec w1 (hG.below B0.bel) hR
  have hll : (ridesF g).length ≤ 3000 := Nat.le_trans (ridesTo_len g _) (Nat.le_trans (Nat.mul_le_mul (show g.hor.toNat ≤ 100 by omega) hR.eds) (by omega))
  have HRt := hideg hR
  have HF := hideg hF
  have HPr := hideg hpr
  have HPb := hideg hPb
  have HFv := hideg hfv
  have HG0 := hideg hG
  have HM0 := hideg hM
  have HI0 : Hid (SpI g F pr s0 s0 (s0 - 1) 0 0 M0) := SpI.start hF hM0
  have HB0 := hideg B0
  clear hR hF hpr hPb hfv hG hM hM0 hw1 B0
  go_enter Try.func29, Try.ntmps29
  go_wp2_with fail
  refine hRd.mono ?_
  rintro r w2 ⟨u, rfl, hu2, hb2⟩
  have HB2 := hideg (HB0.out.below hb2)
  obtain ⟨rb, cap, hRS, hcap, hcapM, hrb, hRo⟩ := rides_lie hu2
  have HRo := hideg hRo
  have HG2 := hideg (HG0.out.below HB2.out.bel)
  have HM2 := hideg (HM0.out.below HB2.out.bel)
  have HOk : Hid (∀ r ∈ ridesF g, RideOk g r) := fun r hr => mem_rides HRt.out hr
  have HTk := hideg (fun now (k i : Nat) M (h : SpI g F pr s0 now now k i M) (hi : i < (ridesF g).length) hd => h.take HRt.out HF.out hi hd)
  have HNx := hideg (fun now (i : Nat) M (h : SpI g F pr s0 now now g.lives.length i M) hd => h.next HRt.out HF.out hd)
  have HMem : Hid (∀ (i : Nat) (hi : i < (ridesF g).length), (ridesF g)[i] ∈ ridesF g) := fun i hi => List.getElem_mem hi
  generalize hrl : ridesF g = rides at hRS hcap hRo HRo HOk HTk HNx HMem hll hrb
  clear hRd hb2 hu2 hRo g0 g1 g2 HB0 HM0 HG0 hw1s
  have HRl := hideg hrl
  clear hrl
  go_wp2_with fail
  go_loopw [8, 9] (fun u x wr => ∃ (i m nn : Nat) (now : Int) (M : Mp), RSl rb cap rides u i m ∧ x = .int .i64 now ∧ s0 ≤ now ∧ now ≤ g.hor ∧ nn ≤ n + 12 * (now - s0).toNat + i ∧ MapAt wr b nn M ∧ SpI g F pr s0 now (now - 1) 0 i M ∧ w2.grownBy wr (some b)) (fun _ x _ => (g.hor - intOf x).toNat)
  case atStart => exact ⟨0, rides.length, n, s0, M0, hRS, rfl, by omega, by omega, by omega, HM2.out, HI0.out, gby_refl _ _⟩
  case round =>
    clear hRS
    obtain ⟨i, m, nn, now, M, hRS, rfl, hnow0, hnow1, hnn, hMk, hI, hg⟩ := hrel
    obtain ⟨him, c, ao, rfl, hic, hao⟩ := hRS
    obtain ⟨g0, g1, g2⟩ := GBx.gby HM2.out hg HB2.out
    by_cases hlt : now < g.hor
    · have hww : IntKind.i64.wrap (now + 1) = now + 1 := wrap_nj _ (by omega) (by omega)
      have hWt := waitTill_any g la ea lc ec b nn M now wr (HM2.out.gat hg HG2.out) HRt.out hMk (by omega) (by omega)
      have HI := hideg (hI.waits g.lives.length).turn
      have HGr := hideg hg
      clear hI hMk hg
      generalize waitM g now M g.lives.length = M1 at HI hWt
      clear M
      go_wp2_with fail
      refine hWt.mono ?_
      rintro r w3 ⟨⟨vv, rfl⟩, hM3, hg3⟩
      have HG3 := hideg (gby_trans HGr.out hg3)
      have HM3 := hideg (hM3.mono (show nn + g.lives.length ≤ n + 12 * (now + 1 - s0).toNat + i by omega))
      clear hWt hM3 hg3 g0 g1 g2 HGr
      go_wp2_with fail
      go_loopw [8] (fun u wq => ∃ (i m : Nat) (M : Mp), RSl rb cap rides u i m ∧ MapAt wq b (n + 12 * (now + 1 - s0).toNat + i) M ∧ SpI g F pr s0 now now g.lives.length i M ∧ w2.grownBy wq (some b)) (fun u _ => match u with | .slice _ m _ => m | _ => 0)
      case atStart => exact ⟨i, m, M1, ⟨him, c, ao, rfl, hic, hao⟩, HM3.out, HI.out, HG3.out⟩
      case round =>
        clear hao hic him HM3 HI HG3 hnn
        obtain ⟨i, m, M, ⟨him, c, ao, rfl, hic, hao⟩, hMq, hI, hg⟩ := hrel
        by_cases hm : 0 < m
        · have hi : i < rides.length := by omega
          have e := hao hm
          subst e
          have hgd : rides.getD i ri0 = rides[i] := by rw [List.getD_eq_getElem?_getD, List.getElem?_eq_getElem hi]; rfl
          have hRo := RdOne.gby HM2.out hg (HRo.out i hi)
          rw [hgd] at hRo
          have hok := HOk.out _ (HMem.out i hi)
          have hprr := HPr.out _ (by rw [HRl.out]; exact HMem.out i hi)
          have hTk := HTk.out now g.lives.length i M hI hi
          have HNx1 := hideg (fun (h : now < rides[i].2.1) => HNx.out now i M hI (fun _ => h))
          have hmi : ((m : Int) > 0) := by omega
          clear hgd hao
          generalize rides[i] = rr at *
          obtain ⟨E, d, a, e, ar, cc⟩ := rr
          have ha0 := hok.a0
          have hb0 := hok.b0
          have hd0 := hok.d0
          have hd1 := hok.lt
          have hd2 := hok.hor
          simp only at ha0 hb0 hd0 hd1 hd2 hTk hRo
          have c0 := hRo.c0
          have c1 := hRo.c1
          have c2 := hRo.c2
          have c3 := hRo.c3
          have c4 := hRo.c4
          have c5 := hRo.c5
          simp only at c0 c1 c2 c3 c4 c5
          clear hok hRo
          by_cases hdn : d ≤ now
          · have ddn : decide (d ≤ now) = true := by simpa using hdn
            have hT := hTk hdn
            have hcl := fun W => HFv.out (E, d, a, e, ar, cc) W
            simp only [rideV] at hcl
            have hxb : ∀ x, M a d = some x → -1000000 ≤ x.1 ∧ x.1 ≤ 1000000 := fun x hx => HPb.out _ _ _ (hI.snd _ _ _ hx)
            have hCt : ∀ W, Below wr.heap.size wr W → True := fun _ _ => trivial
            generalize pr (E, d, a, e, ar, cc) = pp at *
            have HTa := hideg (fun W (h : Below wr.heap.size wr W) => take_any b _ M (E, d, a, e, ar, cc) pp W (hMq.below h) (by omega) ⟨wi_small (by simp only; omega) (by simp only; omega), wi_small (by simp only; omega) (by simp only; omega), wi_small (by simp only; omega) (by simp only; omega), wi_small (by simp only; omega) (by simp only; omega)⟩ hprr hxb)
            have HGr : Hid (∀ W W', Below wr.heap.size wr W → W.grownBy W' (some b) → w2.grownBy W' (some b)) := fun W W' h h' => gby_trans (gby_trans hg (gby_of_below h _)) h'
            have HT := hideg hT
            have hne : Nonempty (HeldIn wr) := ⟨⟨_, Below.refl _ _⟩⟩
            have lrb : rb < wr.heap.size := Nat.lt_of_lt_of_le (hrb (fun h => by rw [h] at hi; simp at hi)) hg.size
            have f0 := fun s : HeldIn wr => (s.h.cell (p := ⟨rb, i * 6, none⟩) lrb).trans c0
            have f1 := fun s : HeldIn wr => (s.h.cell (p := ⟨rb, i * 6 + 1, none⟩) lrb).trans c1
            have f2 := fun s : HeldIn wr => (s.h.cell (p := ⟨rb, i * 6 + 2, none⟩) lrb).trans c2
            have f3 := fun s : HeldIn wr => (s.h.cell (p := ⟨rb, i * 6 + 3, none⟩) lrb).trans c3
            have f4 := fun s : HeldIn wr => (s.h.cell (p := ⟨rb, i * 6 + 4, none⟩) lrb).trans c4
            have f5 := fun s : HeldIn wr => (s.h.cell (p := ⟨rb, i * 6 + 5, none⟩) lrb).trans c5
            clear hTk hT hI hMq hg hxb HNx1 hprr
            go_wp2_with fail
            refine wp_region_held_back _ (Below.refl _ _) (by kernel_rfl) (by simp) (by kernel_rfl) (by kernel_rfl) (by kernel_rfl) ?_
            simp only [List.pop_toArray, List.dropLast, List.back!_toArray, List.getLast!]
            repeat (go_big_quiet_step ((go_at_fn fv; exact held_of (hcl _))))
            refine wpQuiet_nil ?_
            rintro _ ⟨s, rfl⟩
            refine back_last (fun K hK => ?_)
            go_simp
            refine (HTa.out s.w s.h).mono ?_
            rintro r w5 ⟨⟨v5, rfl⟩, hM5, hg5⟩
            refine hK.out _ _ ?_
            have HM5 := hideg hM5
            have HG5 := hideg (HGr.out _ _ s.h hg5)
            clear hM5 hg5 hK K f0 f1 f2 f3 f4 f5 hne c0 c1 c2 c3 c4 c5 HTa HGr hcl hCt
            clear s
            by_cases hc1 : c = 1
            · have hm1 : m = 1 := by omega
              subst hc1
              subst hm1
              go_wp2
              go_roundw
              case rel => exact ⟨i + 1, 0, _, ⟨by omega, 0, _, rfl, by omega, fun h => absurd h (Nat.lt_irrefl _)⟩, HM5.out.mono (by omega), HT.out, HG5.out⟩
              case measure => simp
            · have hcm : m ≤ c := by omega
              have hc1' : ¬ (c : Int) = 1 := by omega
              go_wp2
              go_roundw
              case rel => exact ⟨i + 1, m - 1, _, ⟨by omega, c - 1, _, rfl, by omega, fun _ => by simp⟩, HM5.out.mono (by omega), HT.out, HG5.out⟩
              case measure => simp; omega
          · have ddn : decide (d ≤ now) = false := by simpa using hdn
            have HN := hideg (HNx1.out (by simp only; omega))
            have HM5 := hideg hMq
            have HG5 := hideg hg
            clear hTk hI hMq hg HNx1 hprr HTk
            go_wp2
            go_roundw
            case rel => exact ⟨i, m, _, now + 1, M, ⟨him, c, _, rfl, hic, fun _ => rfl⟩, rfl, by omega, by omega, Nat.le_refl _, HM5.out, HN.out, HG5.out⟩
            case measure => simp [intOf]; omega
        · have hm0 : m = 0 := by omega
          subst hm0
          have HN := hideg (HNx.out now i M hI (fun hi => by omega))
          have HM5 := hideg hMq
          have HG5 := hideg hg
          clear hI hMq hg HTk hao
          go_wp2
          go_roundw
          case rel => exact ⟨i, 0, _, now + 1, M, ⟨him, c, _, rfl, hic, fun h => absurd h (Nat.lt_irrefl _)⟩, rfl, by omega, by omega, Nat.le_refl _, HM5.out, HN.out, HG5.out⟩
          case measure => simp [intOf]; omega
    · have e : now = g.hor := by omega
      subst e
      have HE := hideg (hI.fin HRt.out HF.out)
      have HM5 := hideg hMk
      have HG5 := hideg (gby_trans (gby_of_below HB2.out.bel (some b)) hg)
      clear hI hMk hg
      go_wp2_with fail
      refine bodyPost_end (results_none rfl _ _ _) rfl ⟨⟨_, rfl⟩, ⟨nn, M, HM5.out, HE.out⟩, HG5.out⟩

end Go.Proofs.Ytkgbgkcbflicmac

namespace Go.Proofs.Ytkgbgkcbflicmac
open Go.RowKit

/-- the states of who is at v at t and has paid nothing yet -/
def VisOk (g : Gr) (pr : Ri → Int) (v t : Int) (M : Mp) : Prop := (aliveB t g.lives v = true ∧ SpE g (F1 v t) pr M) ∨ (aliveB t g.lives v = false ∧ M = fun _ _ => none)
theorem VisOk.snd {g : Gr} {pr : Ri → Int} {v t : Int} {M : Mp} (h : VisOk g pr v t M) {x y : Int} {z : Vs} (hz : M x y = some z) : Pay g pr v t x y z.1 := by
  rcases h with ⟨ha, h⟩ | ⟨_, rfl⟩
  · exact ⟨ha, h.snd _ _ _ hz⟩
  · cases hz
theorem VisOk.all {g : Gr} {pr : Ri → Int} {v t : Int} {M : Mp} (h : VisOk g pr v t M) {x y p : Int} (hp : Pay g pr v t x y p) : ∃ z, M x y = some z ∧ z.1 ≤ p := by
  rcases h with ⟨_, h⟩ | ⟨ha, _⟩
  · exact h.all _ _ _ hp.2
  · rw [hp.1] at ha; cases ha
theorem Pay.waits {g : Gr} (R : Right g) {pr : Ri → Int} {v0 t0 v t t' p : Int} (h0 : 0 ≤ v0) (h : Pay g pr v0 t0 v t p) (ht : t ≤ t') (ha : aliveB t' g.lives v = true) : Pay g pr v0 t0 v t' p := ⟨h.1, h.2.waits R (F1_ok h0 h.1) ht ha⟩
theorem Pay.place {g : Gr} (R : Right g) {pr : Ri → Int} {v0 t0 v t p : Int} (h0 : 0 ≤ v0) (h : Pay g pr v0 t0 v t p) : 0 ≤ v ∧ v < g.lives.length ∧ aliveB t g.lives v = true ∧ 0 ≤ t ∧ t < g.hor ∧ t0 ≤ t := h.2.place R (F1_ok h0 h.1)
/-- a state's price, or Inf -/
def prF (M : Mp) (v t : Int) : Int := match M v t with | none => 1099511627776 | some z => z.1
/-- the last time of a vertex -/
def lastT (g : Gr) (v : Nat) : Int := (g.lives.getD v (0, 0)).2 - 1
theorem lastT_at {g : Gr} {v : Nat} (hv : v < g.lives.length) : lastT g v = g.lives[v].2 - 1 := by unfold lastT; rw [List.getD_eq_getElem?_getD, List.getElem?_eq_getElem hv]; rfl
theorem last_alive {g : Gr} (R : Right g) {v : Nat} (hv : v < g.lives.length) : aliveB (lastT g v) g.lives (v : Int) = true ∧ (∀ t, aliveB t g.lives (v : Int) = true → t ≤ lastT g v) ∧ 0 ≤ lastT g v ∧ lastT g v < 100 := by
  have h := R.life _ (List.getElem_mem hv)
  have hh := R.hor
  rw [lastT_at hv]
  refine ⟨?_, fun t ht => ?_, by omega, by omega⟩
  · rw [aliveB_at _ _ _ hv]; exact (hasB_iff _ _ _).2 (by omega)
  · rw [aliveB_at _ _ _ hv] at ht; have := (hasB_iff _ _ _).1 ht; omega
/-- all but the first k numbers are 0 -/
def fillL (f : Nat → Int) (n k : Nat) : List Int := (List.range n).map fun x => if x < k then f x else 0
theorem fill_len (f : Nat → Int) (n k : Nat) : (fillL f n k).length = n := by simp [fillL]
theorem fill_get (f : Nat → Int) (n k x : Nat) (hx : x < n) : (fillL f n k).getD x 0 = if x < k then f x else 0 := by simp [fillL, List.getD_eq_getElem?_getD, hx]
theorem fill_zero (f : Nat → Int) (n : Nat) : fillL f n 0 = List.replicate n 0 := by
  refine list_ext_gd (by simp [fillL]) fun x hx => ?_
  rw [fill_len] at hx
  rw [fill_get _ _ _ _ hx]
  simp [List.getD_eq_getElem?_getD, hx]
theorem fill_set (f : Nat → Int) (n k : Nat) (hk : k < n) : (fillL f n k).set k (f k) = fillL f n (k + 1) := by
  refine list_ext_gd (by simp [fillL]) fun x hx => ?_
  rw [List.length_set, fill_len] at hx
  rw [getD_setI _ _ _ _ (by rw [fill_len]; exact hk), fill_get _ _ _ _ hx, fill_get _ _ _ _ hx]
  by_cases e : x = k
  · subst e; simp
  · rw [if_neg e]
    by_cases h : x < k
    · rw [if_pos h, if_pos (by omega)]
    · rw [if_neg h, if_neg (by omega)]
theorem least_of {g : Gr} (R : Right g) {pr : Ri → Int} {v t : Int} (h0 : 0 ≤ v) {M : Mp} (h : VisOk g pr v t M) : LeastIs g pr v t (fillL (fun x => prF M (x : Int) (lastT g x)) g.lives.length g.lives.length) := by
  refine ⟨fill_len _ _ _, fun x hx => ?_, fun x hx t' p hp => ?_⟩
  · rw [fill_get _ _ _ _ hx, if_pos hx]
    unfold prF
    cases hz : M (x : Int) (lastT g x) with
    | none => exact .inl rfl
    | some z => exact .inr ⟨_, h.snd hz⟩
  · rw [fill_get _ _ _ _ hx, if_pos hx]
    obtain ⟨k1, k2, _⟩ := last_alive R hx
    obtain ⟨z, hz, hzp⟩ := h.all (hp.waits R h0 (k2 _ (hp.place R h0).2.2.1) k1)
    unfold prF; rw [hz]; exact hzp

set_option maxRecDepth 100000 in
theorem atLast_any (g : Gr) (la ea : Option Addr) (lc ec v : Nat) (w : World) (hG : GAt w la ea g) (hR : Right g) (hv : v < g.lives.length) :
    Calls Try.prog 37 #[.agg #[.int .i64 g.hor, .slice la g.lives.length lc, .slice ea g.edges.length ec], .int .i64 v] w fun r w' => r = .returned (.agg #[.int .i64 (v : Int), .int .i64 (lastT g v)]) ∧ Below w.heap.size w w' := by
  obtain ⟨_, _, h3, h4⟩ := last_alive hR hv
  rw [lastT_at hv] at h3 h4 ⊢
  obtain ⟨lb, lof, rfl, hlb, l0, l1⟩ : ∃ b off, la = some ⟨b, off, none⟩ ∧ b < w.heap.size ∧ (w.cell? ⟨b, off + v * 2, none⟩ = some (.int .i64 g.lives[v].1) ∧ w.cell? ⟨b, off + v * 2 + 1, none⟩ = some (.int .i64 g.lives[v].2)) := by
    rcases hG.lv with h0 | ⟨b, off, rfl, hbr, hc⟩
    · rw [h0] at hv; simp at hv
    exact ⟨b, off, rfl, hbr, IvAt.get hv hc⟩
  have hvi : (v : Int) < (g.lives.length : Int) := by omega
  have hww : IntKind.i64.wrap (g.lives[v].2 - 1) = g.lives[v].2 - 1 := wrap_nj _ (by omega) (by omega)
  have m1 := fun W (h : Below w.heap.size w W) => (h.cell (p := ⟨lb, lof + v * 2 + 1, none⟩) hlb).trans l1
  have m2 := m1 _ (ptg (gal w (.cells #[.int .i64 g.hor, .slice (some ⟨lb, lof, none⟩) g.lives.length lc, .slice ea g.edges.length ec] 25)) (gal _ (.cells #[.int .i64 0, .int .i64 0] 70)))
  clear hG l0 l1 hR m1
  generalize g.lives[v] = lf at *
  go_enter Try.func37, Try.ntmps37
  go_wp2
  refine bodyPost_ret (v := .agg #[.int .i64 (v : Int), .int .i64 (lf.2 - 1)]) (by simp [results, Try.results37, go_sem]) rfl ⟨rfl, ?_⟩
  exact ptg (gal w _) (gal _ _)

set_option maxRecDepth 100000 in
set_option maxHeartbeats 1000000 in
theorem visitsFrom_any (g : Gr) (la ea : Option Addr) (lc ec : Nat) (pr : Ri → Int) (v t : Int) (fv : FuncId) (eg : ∀ args w, (callFunc fv args).run Try.prog w = .ok (.enter fv args) w) (w : World) (hG : GAt w la ea g) (hpl : placeE g v t = 0) (hpr : PrOk g pr)
    (hfv : ∀ r W, Calls Try.prog fv #[rideV r] W fun res w' => res = .returned (.int .i64 (pr r)) ∧ Below W.heap.size W w') :
    Calls Try.prog 36 #[.agg #[.int .i64 g.hor, .slice la g.lives.length lc, .slice ea g.edges.length ec], .int .i64 v, .int .i64 t, .func (.func fv) #[] #[]] w fun r w' => ∃ b n M, r = .returned (.map (some b)) ∧ MapAt w' b n M ∧ VisOk g pr v t M ∧ Below w.heap.size w w' := by
  obtain ⟨hg0, ⟨hv0, hv1⟩, ht0, ht1⟩ := placeE_zero hpl
  have hR := gChk_right hg0
  have hhor := hR.hor
  have hlv := hR.lvs
  obtain ⟨V, rfl⟩ : ∃ V : Nat, v = (V : Int) := ⟨v.toNat, by omega⟩
  have hVg : V < g.lives.length := by omega
  obtain ⟨w1, hw1⟩ : ∃ x, x = w.alloc (.cells #[.int .i64 g.hor, .slice la g.lives.length lc, .slice ea g.edges.length ec] 25) := ⟨_, rfl⟩
  have B0 : GBx w w1 w.heap.size g la ea lc ec := by rw [hw1]; exact gbx_start w g la ea lc ec 25
  obtain ⟨w2, hw2⟩ : ∃ x, x = w1.alloc (.map #[] 0) := ⟨_, rfl⟩
  have hM2 : MapAt w2 w1.heap.size 0 (fun _ _ => none) := by rw [hw2]; exact mapAt_made w1
  have b2 : Below w1.heap.size w1 w2 := by rw [hw2]; exact gal w1 _
  have B2 := B0.below b2
  have hG2 := hG.below B2.bel
  have s1 : w.heap.size < w1.heap.size := by rw [hw1]; simp
  obtain ⟨lb, lof, rfl, hlb, l0, l1⟩ : ∃ b off, la = some ⟨b, off, none⟩ ∧ b < w2.heap.size ∧ (w2.cell? ⟨b, off + V * 2, none⟩ = some (.int .i64 g.lives[V].1) ∧ w2.cell? ⟨b, off + V * 2 + 1, none⟩ = some (.int .i64 g.lives[V].2)) := by
    rcases hG2.lv with h0 | ⟨b, off, rfl, hbr, hc⟩
    · rw [h0] at hVg; simp at hVg
    exact ⟨b, off, rfl, hbr, IvAt.get hVg hc⟩
  have hVi : (V : Int) < (g.lives.length : Int) := by omega
  have hal := fun W => jalive_any g.lives[V].1 g.lives[V].2 t W
  rw [← aliveB_at t g.lives V hVg] at hal
  have g0 := B2.c0
  have g1 := B2.c1
  have g2 := B2.c2
  have hmm := @run_makeMap Try.prog
  have hw1s := hw1.symm
  have hw2s := hw2.symm
  have HB := hideg (fun W (h : Below w2.heap.size w2 W) => (B2.below h).bel)
  have HM := hideg (fun W (h : Below w2.heap.size w2 W) => hM2.below h)
  have HB2 := hideg B2
  have HG2 := hideg hG2
  clear hG hw1 hw2 B0 B2 hG2 hM2 hg0
  cases ha : aliveB t g.lives (V : Int) with
  | false =>
    rw [ha] at hal
    have HV : Hid (VisOk g pr (V : Int) t (fun _ _ => none)) := .inr ⟨ha, rfl⟩
    clear ha hR hpl
    generalize g.lives[V] = lf at *
    go_enter Try.func36, Try.ntmps36
    go_wp2_with fail
    refine (hal _).mono ?_
    rintro r w3 ⟨rfl, hb3⟩
    have HM3 := hideg (HM.out w3 hb3)
    have HB3 := hideg (HB.out w3 hb3)
    clear hal hb3 g0 g1 g2 l0 l1
    go_wp2
    go_ret
    exact ⟨_, _, _, rfl, HM3.out, HV.out, HB3.out⟩
  | true =>
    rw [ha] at hal
    have hF := F1_ok (g := g) (v0 := (V : Int)) (t0 := t) hv0 ha
    have hPb : ∀ x y p, Pd g (F1 (V : Int) t) pr x y p → -1000000 ≤ p ∧ p ≤ 1000000 := fun x y p h => by
      have h1 := h.range hR hpr hv0 ha
      have h2 := h.place hR hF
      omega
    have HS := hideg (fun b n M0 W (hGW : GAt W (some ⟨lb, lof, none⟩) ea g) (hMW : MapAt W b n M0) (hn : n ≤ 200) (hM0 : ∀ x y, (M0 x y).map (·.1) = F1 (V : Int) t x y) => spread_any g (some ⟨lb, lof, none⟩) ea lc ec (F1 (V : Int) t) pr t fv eg b n M0 W hGW hR hF hMW hn ⟨ht0, ht1⟩ hM0 hpr hPb hfv)
    have HV : Hid (∀ M, SpE g (F1 (V : Int) t) pr M → VisOk g pr (V : Int) t M) := fun M h => .inl ⟨ha, h⟩
    clear ha hR hpl hF hPb hpr hfv eg
    generalize g.lives[V] = lf at *
    go_enter Try.func36, Try.ntmps36
    go_wp2_with fail
    refine (hal _).mono ?_
    rintro r w3 ⟨rfl, hb3⟩
    have M3 := HM.out w3 hb3
    have G3 := HG2.out.below hb3
    have B3 := HB2.out.below hb3
    obtain ⟨w4, hup, hM4, hg4⟩ := M3.store (by unfold maxLen; omega) (v := (V : Int)) (t := t) (wi_small (by omega) (by omega)) (wi_small (by omega) (by omega)) (0, 0, 0, 0, 0, 0, 0)
    simp only [keyV, encV_mk] at hup
    have G4 := M3.gat hg4 G3
    obtain ⟨k0, k1, k2⟩ := GBx.gby M3 hg4 B3
    have hSp := HS.out w1.heap.size (0 + 1) _ w4 G4 hM4 (by omega) (fun x y => by
      unfold mset F1
      split <;> rfl)
    have HB4 : Hid (∀ W, w4.grownBy W (some w1.heap.size) → Below w.heap.size w W) := fun W h => (B3.bel.grown hg4 B3.bel.size (fun k hk => by cases hk; omega)).grown h (Nat.le_trans B3.bel.size hg4.size) (fun k hk => by cases hk; omega)
    clear hal hb3 g0 g1 g2 l0 l1 M3 G3 B3 hM4 hg4 G4 HS
    go_wp2_with fail
    refine hSp.mono ?_
    rintro r w5 ⟨⟨vv, rfl⟩, ⟨n5, M5, hM5, hE5⟩, hg5⟩
    have HM5 := hideg hM5
    have HE5 := hideg (HV.out _ hE5)
    have HB5 := hideg (HB4.out w5 hg5)
    clear hSp hM5 hE5 hg5 k0 k1 k2 hup HB4
    go_wp2
    go_ret
    exact ⟨_, _, _, rfl, HM5.out, HE5.out, HB5.out⟩

end Go.Proofs.Ytkgbgkcbflicmac

namespace Go.Proofs.Ytkgbgkcbflicmac
open Go.RowKit

/-- what Costs and Hops tell -/
def LeastE (g : Gr) (pr : Ri → Int) (v t : Int) (L : List Int) : Prop := (placeE g v t ≠ 0 ∧ L = []) ∨ (placeE g v t = 0 ∧ LeastIs g pr v t L)
def prCost : Ri → Int := fun r => r.2.2.2.2.2
def prOne : Ri → Int := fun _ => 1
def prZero : Ri → Int := fun _ => 0
theorem prCost_ok {g : Gr} (R : Right g) : PrOk g prCost := fun _ hr => (mem_rides R hr).c0
theorem prOne_ok (g : Gr) : PrOk g prOne := fun _ _ => by unfold prOne; omega
theorem prZero_ok (g : Gr) : PrOk g prZero := fun _ _ => by unfold prZero; omega

set_option maxRecDepth 100000 in
set_option maxHeartbeats 1000000 in
theorem leastPrices_any (g : Gr) (la ea : Option Addr) (lc ec : Nat) (pr : Ri → Int) (v t : Int) (fv : FuncId) (eg : ∀ args w, (callFunc fv args).run Try.prog w = .ok (.enter fv args) w) (w : World) (hG : GAt w la ea g) (hpr : Right g → PrOk g pr)
    (hfv : ∀ r W, Calls Try.prog fv #[rideV r] W fun res w' => res = .returned (.int .i64 (pr r)) ∧ Below W.heap.size W w') :
    Calls Try.prog 24 #[.agg #[.int .i64 g.hor, .slice la g.lives.length lc, .slice ea g.edges.length ec], .int .i64 v, .int .i64 t, .func (.func fv) #[] #[]] w fun r w' => ∃ u L, r = .returned (.tuple #[u, .int .i64 (placeE g v t)]) ∧ LeastE g pr v t L ∧ w'.ownsRow w.heap.size 3 1 u L.length (L.map (Value.int .i64)) ∧ Below w.heap.size w w' := by
  obtain ⟨i0, hi, hz0, hz1, hz2⟩ := info_parts Try.infoInt
  have B0 := gbx_start w g la ea lc ec 25
  have h1 := jcheck_any g la ea lc ec v t _ (hG.below B0.bel)
  by_cases e1 : placeE g v t = 0
  case neg =>
    have HP : Hid (LeastE g pr v t []) := .inl ⟨e1, rfl⟩
    have d1 : (placeE g v t != 0) = true := by simpa using e1
    generalize placeE g v t = n at *
    clear e1 hG hpr hfv eg
    go_enter Try.func24, Try.ntmps24
    go_wp2_with fail
    refine h1.mono ?_
    rintro r w1 ⟨rfl, hb1⟩
    have hbF := (B0.below hb1).bel
    clear h1 hb1 B0
    go_wp2
    (try simp only [Exit.inBlock, Exit.then]); refine bodyPost_ret (results_two_e rfl _ _ _) rfl ?_
    exact ⟨_, _, rfl, HP.out, World.ownsRow_nil _ _ _ _, hbF⟩
  obtain ⟨hg0, ⟨hv0, hv1⟩, ht0, ht1⟩ := placeE_zero e1
  have hR := gChk_right hg0
  have hlv := hR.lvs
  have HV := hideg (fun W (hW : Below w.heap.size w W) => visitsFrom_any g la ea lc ec pr v t fv eg W (hG.below hW) e1 (hpr hR) hfv)
  have HL := hideg (fun W (hW : Below w.heap.size w W) (x : Nat) (hx : x < g.lives.length) => atLast_any g la ea lc ec x W (hG.below hW) hR hx)
  have HE : Hid (∀ M, VisOk g pr v t M → LeastE g pr v t (fillL (fun x => prF M (x : Int) (lastT g x)) g.lives.length g.lives.length)) := fun M h => .inr ⟨e1, least_of hR hv0 h⟩
  have HLt : Hid (∀ x, x < g.lives.length → 0 ≤ lastT g x ∧ lastT g x < 100) := fun x hx => (last_alive hR hx).2.2
  rw [e1] at h1 ⊢
  clear hG e1 hg0 hR hpr hfv eg hv0 hv1 ht0 ht1
  go_enter Try.func24, Try.ntmps24
  go_wp2_with fail
  refine h1.mono ?_
  rintro r w1 ⟨rfl, hb1⟩
  have B1 := B0.below hb1
  have h2 := HV.out w1 B1.bel
  have g0 := B1.c0
  have g1 := B1.c1
  have g2 := B1.c2
  clear h1 hb1 B0 HV
  go_wp2_with fail
  refine h2.mono ?_
  rintro r w2 ⟨b, n, M, rfl, hM2, hV2, hb2⟩
  have B2 := B1.below hb2
  have HE2 := hideg (HE.out M hV2)
  clear h2 hb2 B1 g0 g1 g2 HE hV2
  have g1 := B2.c1
  go_wp2_with (at_make; refine wpList_make_full _ rfl _ _ 28 rfl w.heap.size 3 i0 (.int .i64 0) 1 Try.underlying28 hi hz0 hz1 .i64 .i64 _ _ g.lives.length rfl rfl rfl rfl (by rw [hz2]; omega) (by unfold maxLen; omega) B2.bel.size ?_; intro w3 hown3 hgrow3)
  have e3 : (madeCells (Value.int .i64 0).cells (g.lives.length * 1)).toList = (fillL (fun x => prF M (x : Int) (lastT g x)) g.lives.length 0).map (Value.int .i64) := by
    rw [Nat.mul_one, fill_zero]
    show (madeCells #[Value.int .i64 0] g.lives.length).toList = _
    rw [toList_madeCells_one, List.map_replicate]
  rw [e3] at hown3
  have hb3 : Below w2.heap.size w2 w3 := (Below.refl _ _).grown hgrow3 (Nat.le_refl _) (fun k hk => by cases hk)
  have B3 := B2.below hb3
  have M3 := hM2.below hb3
  have hs3 := (World.ownsRow.lt hown3 _ rfl).2
  have hlt2 := B2.lt
  have hMl := hM2.lt
  have HB3 := hideg B3
  have HM3 := hideg M3
  have HbR : Hid (w.heap.size ≤ w2.heap.size) := B2.bel.size
  have hbne : b ≠ w2.heap.size := by omega
  have hwne : w.heap.size ≠ w2.heap.size := by omega
  obtain ⟨m, hm⟩ : ∃ m, m = w2.heap.size := ⟨_, rfl⟩
  rw [← hm] at hown3 hs3 hbne hwne ⊢
  clear hgrow3 e3 hb3 B2 hM2 g1 hm hlt2 hMl B3 M3
  generalize hf : (fun x : Nat => prF M (x : Int) (lastT g x)) = f at hown3 HE2
  have HF : Hid (∀ x : Nat, f x = prF M (x : Int) (lastT g x)) := fun x => by rw [← hf]
  clear hf
  go_wp2_with fail
  go_loopw [34] (fun i wr => ∃ k : Nat, k ≤ g.lives.length ∧ i = .int .i64 k ∧ Zo wr w.heap.size m g.lives.length g.lives.length (fillL f g.lives.length k) ∧ w3.grownBy wr (some m)) (fun i _ => g.lives.length - (intOf i).toNat)
  case atStart => exact ⟨0, Nat.zero_le _, rfl, hown3, gby_refl _ _⟩
  case round =>
    clear hown3
    obtain ⟨k, hk, rfl, hZ, hg⟩ := hrel
    by_cases hkl : k < g.lives.length
    · have hki : (k : Int) < (g.lives.length : Int) := by omega
      have hkw : IntKind.i64.wrap ((k : Int) + 1) = (k : Int) + 1 := wrap_nj _ (by omega) (by omega)
      have fz := World.ownsRow.frozenAt hZ k
      have cv := Zo.cell hZ hkl
      obtain ⟨w4, hw4⟩ : ∃ x, x = wr.setCell ⟨m, k, none⟩ (.int .i64 1099511627776) := ⟨_, rfl⟩
      have hZ4 : Zo w4 w.heap.size m g.lives.length g.lives.length ((fillL f g.lives.length k).set k 1099511627776) := by rw [hw4]; exact Zo.set hZ k _
      have hg4 : w3.grownBy w4 (some m) := by rw [hw4]; exact gby_trans hg (gby_setOne _ _ _ _)
      have k0 : w4.cell? ⟨w.heap.size, 0, none⟩ = some (.int .i64 g.hor) := hg4.cell HB3.out.c0 (by simp only; intro h; cases h; exact hwne rfl)
      have k1 : w4.cell? ⟨w.heap.size, 1, none⟩ = some (.slice la g.lives.length lc) := hg4.cell HB3.out.c1 (by simp only; intro h; cases h; exact hwne rfl)
      have k2 : w4.cell? ⟨w.heap.size, 2, none⟩ = some (.slice ea g.edges.length ec) := hg4.cell HB3.out.c2 (by simp only; intro h; cases h; exact hwne rfl)
      have hb4 : Below w.heap.size w w4 := HB3.out.bel.grown hg4 HB3.out.bel.size (fun j hj => by cases hj; have := (World.ownsRow.lt hZ _ rfl).1; omega)
      have hL4 := HL.out w4 hb4 k hkl
      have M4 : MapAt w4 b n M := HM3.out.kept hg4 (fun h => hbne (by cases h; rfl))
      have hlt := HLt.out k hkl
      have HFk := hideg (HF.out k)
      have HSt := hideg (fill_set f g.lives.length k hkl)
      have hw4s := hw4.symm
      clear hw4 hZ hg hb4
      generalize lastT g k = T at *
      go_wp2_with fail
      refine hL4.mono ?_
      rintro r w5 ⟨rfl, hb5⟩
      have M5 := M4.below hb5
      have hZ5 := ownsRow_below hZ4 hb5
      have hg5 := gby_trans hg4 (gby_of_below hb5 (some m))
      have q1 := M5.look (v := (k : Int)) (t := T) (wi_small (by omega) (by omega)) (wi_small (by omega) (by omega))
      clear hL4 hb5 M4 M5 hZ4 hg4 k0 k1 k2 hw4s fz cv
      unfold prF at HFk
      cases hz : M (k : Int) T with
      | none =>
        rw [hz] at q1 HFk
        simp only [keyV, Option.getD_none, encV_mk, Option.isSome_none] at q1
        simp only at HFk
        have HZ6 : Hid (∀ o, Zo (w5.alloc o) w.heap.size m g.lives.length g.lives.length (fillL f g.lives.length (k + 1)) ∧ w3.grownBy (w5.alloc o) (some m)) := fun o => by
          rw [← HSt.out, HFk.out]; exact ⟨ownsRow_below hZ5 (gal w5 o), gby_trans hg5 (gby_of_below (gal w5 o) _)⟩
        clear hZ5 hg5 hz HFk HSt
        go_wp2
        go_roundw
        case rel => exact ⟨k + 1, by omega, by go_num, (HZ6.out _).1, (HZ6.out _).2⟩
        case measure => simp [intOf]; omega
      | some z =>
        obtain ⟨q, E2, d2, a2, e2, ar2, c2⟩ := z
        rw [hz] at q1 HFk
        simp only [keyV, Option.getD_some, encV_mk, Option.isSome_some] at q1
        simp only at HFk
        obtain ⟨w6, hw6⟩ : ∃ x, x = w5.alloc (.cells #[.int .i64 q, .int .i64 E2, .int .i64 d2, .int .i64 a2, .int .i64 e2, .int .i64 ar2, .int .i64 c2] 68) := ⟨_, rfl⟩
        have b6 : Below w5.heap.size w5 w6 := by rw [hw6]; exact gal w5 _
        have v0 : w6.cell? ⟨w5.heap.size, 0, none⟩ = some (.int .i64 q) := by rw [hw6]; exact new_cell rfl rfl
        have hZ6 := ownsRow_below hZ5 b6
        have fz := World.ownsRow.frozenAt hZ6 k
        have cv := Zo.cell hZ6 hkl
        have HZ7 : Hid (Zo (w6.setCell ⟨m, k, none⟩ (.int .i64 q)) w.heap.size m g.lives.length g.lives.length (fillL f g.lives.length (k + 1)) ∧ w3.grownBy (w6.setCell ⟨m, k, none⟩ (.int .i64 q)) (some m)) := by
          refine ⟨?_, gby_trans (gby_trans hg5 (gby_of_below b6 _)) (gby_setOne _ _ _ _)⟩
          have h7 := Zo.set hZ6 k q
          have e7 := HSt.out
          rw [HFk.out] at e7
          rw [List.set_set, e7] at h7
          exact h7
        have hw6s := hw6.symm
        clear hZ5 hg5 hz HFk HSt hw6 hZ6 b6
        go_wp2
        go_roundw
        case rel => exact ⟨k + 1, by omega, by go_num, HZ7.out.1, HZ7.out.2⟩
        case measure => simp [intOf]; omega
    · have hke : k = g.lives.length := by omega
      subst hke
      have HZ := hideg hZ
      have hm0 := (World.ownsRow.lt hZ _ rfl).1
      have HbF : Hid (Below w.heap.size w wr) := HB3.out.bel.grown hg HB3.out.bel.size (fun j hj => by cases hj; omega)
      have HLn := hideg (fill_len f g.lives.length g.lives.length)
      clear hZ hg
      go_wp2
      (try simp only [Exit.inBlock, Exit.then]); refine bodyPost_ret (results_two_e rfl _ _ _) rfl ?_
      refine ⟨_, rfl, fillL f g.lives.length g.lives.length, HE2.out, ?_, HbF.out⟩
      rw [HLn.out]; exact HZ.out

set_option maxRecDepth 100000 in
theorem cCosts_any (g : Gr) (la ea : Option Addr) (lc ec : Nat) (v t : Int) (w : World) (hG : GAt w la ea g) :
    Calls Try.prog 9 #[.agg #[.int .i64 g.hor, .slice la g.lives.length lc, .slice ea g.edges.length ec], .int .i64 v, .int .i64 t] w fun r w' => ∃ u L, r = .returned (.tuple #[u, .int .i64 (placeE g v t)]) ∧ LeastE g prCost v t L ∧ w'.ownsRow w.heap.size 3 1 u L.length (L.map (Value.int .i64)) ∧ Below w.heap.size w w' := by
  have B0 := gbx_start w g la ea lc ec 25
  have h1 := leastPrices_any g la ea lc ec prCost v t 25 (fun args w => Try.call25 args w) _ (hG.below B0.bel) (fun R => prCost_ok R) costOf_any
  have HB := hideg B0
  clear hG B0
  go_enter Try.func9, Try.ntmps9
  go_wp2_with fail
  refine h1.mono ?_
  rintro r w1 ⟨u, L, rfl, hL, ho, hb⟩
  have HL := hideg hL
  have HO := hideg (owns_base2 ho HB.out.bel.size)
  have HB1 := hideg (HB.out.below hb).bel
  clear h1 hL ho hb
  go_wp2
  (try simp only [Exit.inBlock, Exit.then]); refine bodyPost_ret (results_two_e rfl _ _ _) rfl ?_
  exact ⟨_, _, rfl, HL.out, HO.out, HB1.out⟩
set_option maxRecDepth 100000 in
theorem cHops_any (g : Gr) (la ea : Option Addr) (lc ec : Nat) (v t : Int) (w : World) (hG : GAt w la ea g) :
    Calls Try.prog 10 #[.agg #[.int .i64 g.hor, .slice la g.lives.length lc, .slice ea g.edges.length ec], .int .i64 v, .int .i64 t] w fun r w' => ∃ u L, r = .returned (.tuple #[u, .int .i64 (placeE g v t)]) ∧ LeastE g prOne v t L ∧ w'.ownsRow w.heap.size 3 1 u L.length (L.map (Value.int .i64)) ∧ Below w.heap.size w w' := by
  have B0 := gbx_start w g la ea lc ec 25
  have h1 := leastPrices_any g la ea lc ec prOne v t 26 (fun args w => Try.call26 args w) _ (hG.below B0.bel) (fun _ => prOne_ok g) oneEach_any
  have HB := hideg B0
  clear hG B0
  go_enter Try.func10, Try.ntmps10
  go_wp2_with fail
  refine h1.mono ?_
  rintro r w1 ⟨u, L, rfl, hL, ho, hb⟩
  have HL := hideg hL
  have HO := hideg (owns_base2 ho HB.out.bel.size)
  have HB1 := hideg (HB.out.below hb).bel
  clear h1 hL ho hb
  go_wp2
  (try simp only [Exit.inBlock, Exit.then]); refine bodyPost_ret (results_two_e rfl _ _ _) rfl ?_
  exact ⟨_, _, rfl, HL.out, HO.out, HB1.out⟩

end Go.Proofs.Ytkgbgkcbflicmac

namespace Go.Proofs.Ytkgbgkcbflicmac

/-- who sets out from v at a time has that time, below nought -/
def FF (g : Gr) (v : Int) : Int → Int → Option Int := fun x t => if x = v ∧ aliveB t g.lives v = true then some (-t) else none
theorem FF_ok {g : Gr} (R : Right g) {v : Int} (h0 : 0 ≤ v) : FOk g (FF g v) 0 := fun x t p h => by
  unfold FF at h
  split at h
  · rename_i e; obtain ⟨rfl, e⟩ := e; exact ⟨h0, e, (alive_hor R e).2.1⟩
  · cases h
theorem pd_rch {g : Gr} (R : Right g) {v x t p : Int} (h : Pd g (FF g v) (fun _ => 0) x t p) : Rch g v (-p) x t := by
  induction h with
  | @base x t p h =>
    unfold FF at h
    split at h
    · rename_i e; obtain ⟨rfl, e⟩ := e; cases h; rw [Int.neg_neg]; exact .base e
    · cases h
  | wait _ ha ih => exact .wait ih ha
  | ride hr _ ih => rw [Int.add_zero]; exact (mem_rides R hr).go ih
theorem rch_pd {g : Gr} (R : Right g) {v s x t : Int} (h0 : 0 ≤ v) (h : Rch g v s x t) : Pd g (FF g v) (fun _ => 0) x t (-s) := by
  induction h with
  | base ha => exact .base (by unfold FF; rw [if_pos ⟨rfl, ha⟩])
  | wait _ ha ih => exact .wait ih ha
  | @ride t q i hi h hq ih =>
    have := Pd.ride (pr := fun _ => 0) (ride_mem R hi (h.place R h0).2.2.1 hq) ih
    rw [Int.add_zero] at this
    exact this
theorem ff_range {g : Gr} (R : Right g) {v x t p : Int} (h : Pd g (FF g v) (fun _ => 0) x t p) : -100 ≤ p ∧ p ≤ 0 ∧ 0 ≤ t + p := by
  have h1 := pd_rch R h
  have h2 := alive_hor R h1.src
  have h3 := R.hor
  have h4 := h1.le R
  omega
/-- what Fastest tells of vertices: the least time, and the first at which one sets out for it -/
def FastIs (g : Gr) (v q d a e : Int) : Prop := (e = 4 ∧ d = 0 ∧ a = 0 ∧ ∀ s t, ¬ Rch g v s q t) ∨ (e = 0 ∧ Rch g v a q (a + d) ∧ (∀ s t, Rch g v s q t → d ≤ t - s) ∧ ∀ s, Rch g v s q (s + d) → a ≤ s)
theorem fast_unique {g : Gr} {v q d a e d' a' e' : Int} (h : FastIs g v q d a e) (h' : FastIs g v q d' a' e') : d = d' ∧ a = a' ∧ e = e' := by
  rcases h with ⟨h1, h2, h3, h4⟩ | ⟨h1, h2, h3, h4⟩ <;> rcases h' with ⟨k1, k2, k3, k4⟩ | ⟨k1, k2, k3, k4⟩
  · omega
  · exact absurd k2 (h4 _ _)
  · exact absurd h2 (k4 _ _)
  · have e1 := h3 _ _ k2
    have e2 := k3 _ _ h2
    have e3 : d = d' := by omega
    subst e3
    have e4 := h4 _ k2
    have e5 := k4 _ h2
    omega
/-- the best of the first k times -/
def fsF (M : Mp) (q : Int) : Nat → Int × Int
  | 0 => (1099511627776, 0)
  | k + 1 => match M q (k : Int) with
    | none => fsF M q k
    | some z => if (k : Int) + z.1 < (fsF M q k).1 then ((k : Int) + z.1, -z.1) else fsF M q k
theorem fsF_spec {M : Mp} {q : Int} (hz : ∀ t z, M q t = some z → t + z.1 < 1099511627776) : ∀ k : Nat, ((fsF M q k).1 = 1099511627776 ∧ ∀ t : Nat, t < k → M q (t : Int) = none) ∨ ∃ (t : Nat) (z : Vs), t < k ∧ M q (t : Int) = some z ∧ fsF M q k = ((t : Int) + z.1, -z.1) ∧ ∀ (t' : Nat) (z' : Vs), t' < k → M q (t' : Int) = some z' → (t : Int) + z.1 ≤ (t' : Int) + z'.1 ∧ ((t : Int) + z.1 = (t' : Int) + z'.1 → t ≤ t')
  | 0 => .inl ⟨rfl, fun t h => by omega⟩
  | k + 1 => by
    have ih := fsF_spec hz k
    rw [fsF]
    cases hk : M q (k : Int) with
    | none =>
      simp only
      rcases ih with ⟨h1, h2⟩ | ⟨t, z, h1, h2, h3, h4⟩
      · refine .inl ⟨h1, fun t ht => ?_⟩
        by_cases e : t = k
        · subst e; exact hk
        · exact h2 t (by omega)
      · refine .inr ⟨t, z, by omega, h2, h3, fun t' z' ht' hz' => ?_⟩
        by_cases e : t' = k
        · subst e; rw [hk] at hz'; cases hz'
        · exact h4 t' z' (by omega) hz'
    | some y =>
      simp only
      have hy := hz _ _ hk
      rcases ih with ⟨h1, h2⟩ | ⟨t, z, h1, h2, h3, h4⟩
      · rw [if_pos (by omega)]
        refine .inr ⟨k, y, by omega, hk, rfl, fun t' z' ht' hz' => ?_⟩
        by_cases e : t' = k
        · subst e; rw [hk] at hz'; cases hz'; exact ⟨Int.le_refl _, fun _ => Nat.le_refl _⟩
        · rw [h2 t' (by omega)] at hz'; cases hz'
      · rw [h3]
        simp only
        split
        · rename_i hlt
          refine .inr ⟨k, y, by omega, hk, rfl, fun t' z' ht' hz' => ?_⟩
          by_cases e : t' = k
          · subst e; rw [hk] at hz'; cases hz'; exact ⟨Int.le_refl _, fun _ => Nat.le_refl _⟩
          · have := (h4 t' z' (by omega) hz').1
            exact ⟨by omega, fun _ => by omega⟩
        · rename_i hlt
          refine .inr ⟨t, z, by omega, h2, rfl, fun t' z' ht' hz' => ?_⟩
          by_cases e : t' = k
          · subst e; rw [hk] at hz'; cases hz'; exact ⟨by omega, fun _ => by omega⟩
          · exact h4 t' z' (by omega) hz'
theorem fast_of {g : Gr} (R : Right g) {v q : Int} (h0 : 0 ≤ v) {M : Mp} (S : SpE g (FF g v) (fun _ => 0) M) :
    ((fsF M q g.hor.toNat).1 = 1099511627776 → FastIs g v q 0 0 4) ∧ ((fsF M q g.hor.toNat).1 ≠ 1099511627776 → FastIs g v q (fsF M q g.hor.toNat).1 (fsF M q g.hor.toNat).2 0) := by
  have hh := R.hor
  have hz : ∀ t z, M q t = some z → t + z.1 < 1099511627776 := fun t z h => by
    have h1 := S.snd _ _ _ h
    have h2 := ff_range R h1
    have h3 := h1.place R (FF_ok R h0)
    omega
  have hin : ∀ s t, Rch g v s q t → ∃ z, M q ((t.toNat : Nat) : Int) = some z ∧ z.1 ≤ -s ∧ t.toNat < g.hor.toNat ∧ ((t.toNat : Nat) : Int) = t := fun s t h => by
    obtain ⟨z, hz, hzs⟩ := S.all _ _ _ (rch_pd R h0 h)
    have hp := h.place R h0
    have e : ((t.toNat : Nat) : Int) = t := by omega
    exact ⟨z, by rw [e]; exact hz, hzs, by omega, e⟩
  rcases fsF_spec hz g.hor.toNat with ⟨h1, h2⟩ | ⟨t, z, h1, h2, h3, h4⟩
  · refine ⟨fun _ => .inl ⟨rfl, rfl, rfl, fun s t h => ?_⟩, fun h => absurd h1 h⟩
    obtain ⟨z, k1, _, k3, _⟩ := hin s t h
    rw [h2 _ k3] at k1; cases k1
  · have hzt := hz _ _ h2
    rw [h3]
    refine ⟨fun h => by simp only at h; omega, fun _ => .inr ⟨rfl, ?_, fun s t' h => ?_, fun s h => ?_⟩⟩
    · have := pd_rch R (S.snd _ _ _ h2)
      simp only
      rw [show -z.1 + ((t : Int) + z.1) = (t : Int) by omega]
      exact this
    · obtain ⟨z', k1, k2, k3, k4⟩ := hin s t' h
      have := (h4 _ z' k3 k1).1
      simp only; omega
    · simp only at h ⊢
      obtain ⟨z', k1, k2, k3, k4⟩ := hin s _ h
      have := h4 _ z' k3 k1
      omega

/-- hops that lead from x, wherever one was there ahead of y, to q, for K -/
def Leads (g : Gr) (x y q K : Int) (l : List Hp) : Prop := ∀ y1 c, y1 ≤ y → ∃ τ, goF g (some (x, y1, c)) l = some (q, τ, c + K)
theorem leads_nil (g : Gr) (x y : Int) : Leads g x y x 0 [] := fun y1 c _ => ⟨y1, by rw [goF_nil, Int.add_zero]⟩
theorem Leads.cons {g : Gr} {x y q K : Int} {l : List Hp} (h : Leads g x y q K l) {r : Ri} (hr : RideOk g r) (hv : r.2.2.2.1 = x) (ha : r.2.2.2.2.1 ≤ y) : Leads g r.2.2.1 r.2.1 q (K + r.2.2.2.2.2) ((r.1, r.2.1) :: l) := fun y1 c hy => by
  obtain ⟨τ, h1⟩ := h r.2.2.2.2.1 (c + r.2.2.2.2.2) ha
  refine ⟨τ, ?_⟩
  rw [goF_cons, Option.bind_some, hr.hop hy, hv, h1]
  congr 3
  omega
/-- what Way of the cheapest tells -/
def CWayIs (g : Gr) (v t q e : Int) (l : List Hp) : Prop :=
  (placeE g v t ≠ 0 ∧ e = placeE g v t ∧ l = []) ∨
  (placeE g v t = 0 ∧ (¬ (0 ≤ q ∧ q < g.lives.length) ∨ ∀ τ p, ¬ Pay g (fun r => r.2.2.2.2.2) v t q τ p) ∧ e = 4 ∧ l = []) ∨
  (placeE g v t = 0 ∧ (0 ≤ q ∧ q < g.lives.length) ∧ e = 0 ∧ l.length ≤ 100 ∧ ∃ τ P, aliveB t g.lives v = true ∧ goF g (some (v, t, 0)) l = some (q, τ, P) ∧ (∃ τ', Pay g (fun r => r.2.2.2.2.2) v t q τ' P) ∧ ∀ τ' p, Pay g (fun r => r.2.2.2.2.2) v t q τ' p → P ≤ p)
/-- at the vertex where one began nothing is paid -/
theorem own_zero {g : Gr} (R : Right g) {pr : Ri → Int} (hpr : PrOk g pr) {v t : Int} (h0 : 0 ≤ v) (ha : aliveB t g.lives v = true) {M : Mp} (S : SpE g (F1 v t) pr M) {y : Int} {z : Vs} (hz : M v y = some z) : z.1 = 0 ∧ t ≤ y := by
  have h1 := S.snd _ _ _ hz
  have h2 := h1.range R hpr h0 ha
  have h3 := h1.place R (F1_ok h0 ha)
  have h4 : Pd g (F1 v t) pr v t 0 := .base (by unfold F1; rw [if_pos ⟨rfl, rfl⟩])
  obtain ⟨z', k1, k2⟩ := S.all _ _ _ (h4.waits R (F1_ok h0 ha) h3.2.2.2.2.2 h3.2.2.1)
  rw [hz] at k1
  cases k1
  omega

end Go.Proofs.Ytkgbgkcbflicmac

namespace Go.Proofs.Ytkgbgkcbflicmac
open Go.RowKit

theorem Try.infoHopJ : (Try.prog.info? 48).map (fun i => (i.zero, i.size, i.bytes)) = some (some (.agg #[.int .i64 0, .int .i64 0]), 2, 16) := by kernel_rfl
theorem stopHere {p : Prop} (h : Hid p) : p := h
theorem encs_appj (a b : List (Int × Int)) : encs (a ++ b) = encs a ++ encs b := by simp [encs, flat]
/-- what Out answers -/
def outAns (g : Gr) (v t : Int) : List Hp := if placeE g v t = 0 then outsF g v t else []

theorem results_two_j {fn : Func} {t u : Tmp} (h : fn.results = #[.tmp t, .tmp u]) (tmps : Array Value) (P : Program) (w : World) :
    (results fn tmps).run P w = .ok (.tuple #[tmps.getD t undef, tmps.getD u undef]) w := by
  simp [results, h]

end Go.Proofs.Ytkgbgkcbflicmac
