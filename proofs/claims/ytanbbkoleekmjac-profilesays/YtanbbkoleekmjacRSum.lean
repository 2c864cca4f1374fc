/-
  What Sums of the reference tells.
-/
import Derived.Test.YtanbbkoleekmjacRSumC
namespace Go.Proofs.Ytanbbkoleekmjac
open Go.RowKit

set_option maxRecDepth 100000 in
set_option maxHeartbeats 16000000 in
theorem Sums_any (g : Gr) (la ea : Option Addr) (lc ec : Nat) (v t : Int) (w : World) (hG : GAt w la ea g) (hpl : placeE g v t = 0) :
    Calls Try.prog 9 #[.agg #[.int .i64 g.hor, .slice la g.lives.length lc, .slice ea g.edges.length ec], .int .i64 v, .int .i64 t] w fun r w' => ∃ goC cC goH cH bc bh X Y, r = .returned (.tuple #[.slice (some ⟨goC, 0, none⟩) g.lives.length cC, .slice (some ⟨goH, 0, none⟩) g.lives.length cH]) ∧ TabM w' w.heap.size goC bc g.hor.toNat X ∧ TabM w' w.heap.size goH bh g.hor.toNat Y ∧ bc.length = g.lives.length ∧ bh.length = g.lives.length ∧ SumIs g v t X Y ∧ Below w.heap.size w w' := by
  obtain ⟨i0, hi, hz0, hz1, hz2⟩ := info_parts Try.infoInt
  obtain ⟨i1, hi', hy0, hy1, hy2⟩ := info_parts Try.infoInts
  obtain ⟨hg0, ⟨hv0, hv1⟩, ht0, ht1⟩ := placeE_zero hpl
  have hR := gChk_right hg0
  obtain ⟨V, rfl⟩ : ∃ V : Nat, v = (V : Int) := ⟨v.toNat, by omega⟩
  obtain ⟨T0, rfl⟩ : ∃ T0 : Nat, t = (T0 : Int) := ⟨t.toNat, by omega⟩
  obtain ⟨H, hH⟩ : ∃ H : Nat, H = g.hor.toNat := ⟨_, rfl⟩
  obtain ⟨n, hn⟩ : ∃ n : Nat, n = g.lives.length := ⟨_, rfl⟩
  have hHi : g.hor = (H : Int) := by have := hR.hor; omega
  have hH1 : 1 ≤ H ∧ H ≤ 100 := by have := hR.hor; omega
  have hn12 : n ≤ 12 := by have := hR.lvs; omega
  have hVn : V < n := by omega
  have hTH : T0 < H := by omega
  have hed := hR.eds
  obtain ⟨w1, hw1⟩ : ∃ x, x = w.alloc (.cells #[.int .i64 g.hor, .slice la g.lives.length lc, .slice ea g.edges.length ec] 25) := ⟨_, rfl⟩
  have B1 : GBox w w1 w.heap.size g la ea lc ec := by rw [hw1]; exact gbox_start w g la ea lc ec _
  have HB1 := hideg B1
  have HG := hideg hG
  have HRt := hideg hR
  have HHi := hideg hHi
  have HN := hideg hn
  have HHd := hideg hH
  have hw1s := hw1.symm
  have hbox : ∀ W, Below w1.heap.size w1 W → W.cell? ⟨w.heap.size, 0, none⟩ = some (.int .i64 (H : Int)) ∧ W.cell? ⟨w.heap.size, 1, none⟩ = some (.slice la n lc) ∧ W.cell? ⟨w.heap.size, 2, none⟩ = some (.slice ea g.edges.length ec) := fun W h => by
    have := B1.below h
    exact ⟨by rw [← hHi]; exact this.c0, by rw [hn]; exact this.c1, this.c2⟩
  have HBX := hideg hbox
  have hal0 : ∀ (vv : Nat) (tt : Int) (W : World), vv < n → Below w1.heap.size w1 W → Calls Try.prog 35 #[.agg #[.int .i64 (H : Int), .slice la n lc, .slice ea g.edges.length ec], .int .i64 vv, .int .i64 tt] W fun r w' => r = .returned (.bool (aliveB tt g.lives vv)) ∧ Below W.heap.size W w' := fun vv tt W hvv h => by
    have := Alive_any (H : Int) la ea lc g.edges.length ec g.lives vv tt W ((hG.below (B1.below h).bel).lv) (by omega) (by omega)
    rw [← hn] at this
    exact this
  have HAl := hideg hal0
  have hld0 : ∀ (ii : Nat) (tt : Int) (W : World) (hii : ii < g.edges.length), Below w1.heap.size w1 W → Calls Try.prog 37 #[.agg #[.int .i64 (H : Int), .slice la n lc, .slice ea g.edges.length ec], .int .i64 ii, .int .i64 tt] W fun r w' => r = .returned (landsV (lands g g.edges[ii] tt)) ∧ Below W.heap.size W w' := fun ii tt W hii h => by
    have := Lands_any g la ea lc ec ii tt W (hG.below (B1.below h).bel) hR hii
    rw [← hn, hHi] at this
    exact this
  have HLd := hideg hld0
  rw [← hn, ← hH]
  rw [hHi, ← hn] at hw1s
  rw [hHi]
  clear hG hpl hg0 hR hv1 ht1 hw1 B1 hHi hn hH hbox hal0 hld0
  go_enter Try.func9, Try.ntmps9
  go_wp2_with fail
  clear hw1s
  go_loopw [6, 7, 8] (fun uc uh i wr => ∃ (k : Nat) (bc bh : List (Nat × Nat)), k ≤ n ∧ i = .int .i64 k ∧ Hf w1 H uc uh bc bh k k wr) (fun _ _ i _ => n - (intOf i).toNat)
  case atStart => exact ⟨0, [], [], Nat.zero_le _, rfl, hf_start w1 H⟩
  case round =>
    obtain ⟨k, bc, bh, hk, rfl, hF⟩ := hrel
    obtain ⟨b0, b1, b2⟩ := HBX.out wr hF.bel
    by_cases hkn : k < n
    · obtain ⟨wo, hwo⟩ : ∃ x, x = wr := ⟨_, rfl⟩
      have HF := hideg hF
      rw [← hwo] at HF b0 b1 b2 ⊢
      clear hF hwo b2
      go_wp2_with fail
      go_loopw [9, 10, 11] (fun ua ub i wr => ∃ (j : Nat), j ≤ H ∧ i = .int .i64 j ∧ wr.ownsRow wo.heap.size 3 1 ua j ((infR j).map (Value.int .i64)) ∧ wr.ownsRow wo.heap.size 3 1 ub j ((infR j).map (Value.int .i64)) ∧ (ua.ownBlock = none ∨ ub.ownBlock = none ∨ ua.ownBlock ≠ ub.ownBlock) ∧ Below wo.heap.size wo wr) (fun _ _ i _ => H - (intOf i).toNat)
      case atStart => exact ⟨0, Nat.zero_le _, rfl, World.ownsRow_nil _ _ _ _, World.ownsRow_nil _ _ _ _, .inl rfl, Below.refl _ _⟩
      case round =>
        clear b0 b1
        obtain ⟨j, hj, rfl, hoa, hob, hap, hb⟩ := hrel
        have hsz := hb.size
        obtain ⟨b0, b1, _⟩ := HBX.out wr (HF.out.bel.trans (hb.mono HF.out.bel.size))
        by_cases hjH : j < H
        · have HI := hideg (infR_succ j)
          have HAP := hideg hap
          have HBb := hideg hb
          clear hap hb
          have HMid : Hid (∀ (ua' : Value) (w3 : World), (wr.alloc (.cells #[.int .i64 1099511627776] 3)).grownBy w3 u9.ownBlock → (ua'.ownBlock = u9.ownBlock ∨ ua'.ownBlock = some (wr.alloc (.cells #[.int .i64 1099511627776] 3)).heap.size) → w3.ownsRow wo.heap.size 3 1 u10 j ((infR j).map (Value.int .i64)) ∧ Below wo.heap.size wo w3 ∧ (ua'.ownBlock = none ∨ u10.ownBlock = none ∨ ua'.ownBlock ≠ u10.ownBlock)) := by
            intro ua' w3 hgr3 hat3
            refine ⟨?_, (HBb.out.alloc hsz _).grown hgr3 (by simp; omega) (fun q hq => (hoa.lt q hq).1), ?_⟩
            · refine World.ownsRow.kept (World.ownsRow.alloc (w := wr) hob _) hgr3 ?_
              rcases HAP.out with e | e | e
              · rw [e]
                cases u10.ownBlock with
                | none => exact .inl rfl
                | some q => right; intro h; cases h
              · exact .inl e
              · exact .inr (fun h => e h.symm)
            · rcases hat3 with e | e
              · rw [e]; exact HAP.out
              · right
                cases hq : u10.ownBlock with
                | none => exact .inl rfl
                | some q =>
                  right
                  rw [e]
                  intro h
                  have h2 := (hob.lt q hq).2
                  have h3 := Option.some.inj h
                  simp at h3
                  omega
          clear hob HAP
          go_wp2_with (first
            | (at_builtin; refine wpList_append_own_at _ rfl _ _ 28 rfl wo.heap.size 3 i0 (.int .i64 0) 1 8 Try.underlying28 hi hz0 hz1 hz2 rfl (by decide) u9 _ _ rfl (World.ownsRow.alloc (w := wr) hoa _) ⟨wr.heap.size, 0, none⟩ 1 1 [.int .i64 1099511627776] rfl rfl (cell_one_new _ _ _) (by intro u hu; simp at hu; subst hu; rfl) (by unfold maxLen; omega) (by omega) (by simp; omega) ?_; intro ua' w3 hoa3 hgr3 _ hat3; have HM3 := HMid.out ua' w3 hgr3 hat3; have hob3 := HM3.1; have hsz3 := HM3.2.1.size)
            | (at_builtin; revert hob3; intro hob3; refine wpList_append_own_at _ rfl _ _ 28 rfl wo.heap.size 3 i0 (.int .i64 0) 1 8 Try.underlying28 hi hz0 hz1 hz2 rfl (by decide) u10 _ _ rfl (World.ownsRow.alloc (w := w3) hob3 _) ⟨w3.heap.size, 0, none⟩ 1 1 [.int .i64 1099511627776] rfl rfl (cell_one_new _ _ _) (by intro u hu; simp at hu; subst hu; rfl) (by unfold maxLen; omega) (by omega) (by simp; omega) ?_; intro ub' w4 hob4 hgr4 _ hat4))
          have hap3 := HM3.2.2
          have hb3 := HM3.2.1
          have hoa4 : w4.ownsRow wo.heap.size 3 1 ua' (j + 1) ((infR j).map (Value.int .i64) ++ [.int .i64 1099511627776]) := by
            refine World.ownsRow.kept (World.ownsRow.alloc (w := w3) hoa3 _) hgr4 ?_
            rcases hap3 with e | e | e
            · exact .inl e
            · rw [e]
              cases ua'.ownBlock with
              | none => exact .inl rfl
              | some q => right; intro h; cases h
            · exact .inr e
          have hb4 : Below wo.heap.size wo w4 := (hb3.alloc hsz3 _).grown hgr4 (by simp; omega) (fun q hq => (hob3.lt q hq).1)
          have HAP4 : Hid (ua'.ownBlock = none ∨ ub'.ownBlock = none ∨ ua'.ownBlock ≠ ub'.ownBlock) := by
            rcases hat4 with e | e
            · rw [e]; exact hap3
            · cases hq : ua'.ownBlock with
              | none => exact .inl rfl
              | some q =>
                right; right
                rw [e]
                intro h
                have h2 := (hoa3.lt q hq).2
                have h3 := Option.some.inj h
                simp at h3
                omega
          rw [← HI.out] at hoa4 hob4
          clear hoa hoa3 hob3 hgr3 hat3 hgr4 hat4 hap3 hb3 HM3 HMid
          go_wp2
          go_roundw
          case rel => exact ⟨j + 1, by omega, by go_num, hoa4, hob4, HAP4.out, hb4⟩
          case measure => simp [intOf]; omega
        · have hje : H = j := by omega
          subst hje
          have FW := HF.out.below hb
          have hsw := FW.bel.size
          have hso := HF.out.bel.size
          rcases hoa.2 with ⟨_, h0⟩ | ⟨ga, ca, cura, e1, _⟩
          · omega
          rcases hob.2 with ⟨_, h0⟩ | ⟨gb, cb, curb, e2, _⟩
          · omega
          subst e1
          subst e2
          have hga := hoa.lt ga rfl
          have hgb := hob.lt gb rfl
          have hab : ga ≠ gb := by
            rcases hap with e | e | e
            · cases e
            · cases e
            · intro h; exact e (by rw [h]; rfl)
          have za : Zo wr w1.heap.size ga H ca (infR H) := owns_base2 hoa hso
          have zb : Zo wr w1.heap.size gb H cb (infR H) := owns_base2 hob hso
          have hna : ga ∉ bc.map Prod.fst ++ bh.map Prod.fst := fun h => by have := HF.out.old ga h; omega
          have hnb : gb ∉ bc.map Prod.fst ++ bh.map Prod.fst := fun h => by have := HF.out.old gb h; omega
          have hnb' : gb ∉ (bc ++ [(ga, ca)]).map Prod.fst ++ bh.map Prod.fst := by
            simp only [List.map_append, List.map_cons, List.map_nil, List.mem_append, List.mem_singleton, not_or] at hnb ⊢
            exact ⟨⟨hnb.1, fun h => hab h.symm⟩, hnb.2⟩
          have HMid : Hid (∀ (uc' : Value) (w3 : World), w3.ownsRow w1.heap.size 28 1 uc' (k + 1) (sls H bc ++ [.slice (some ⟨ga, 0, none⟩) H ca]) → (wr.alloc (.cells #[.slice (some ⟨ga, 0, none⟩) H ca] 28)).grownBy w3 u6.ownBlock → (uc'.ownBlock = u6.ownBlock ∨ uc'.ownBlock = some (wr.alloc (.cells #[.slice (some ⟨ga, 0, none⟩) H ca] 28)).heap.size) → Hf w1 H uc' u7 (bc ++ [(ga, ca)]) bh (k + 1) k w3 ∧ Zo w3 w1.heap.size gb H cb (infR H)) := fun uc' w3 h1 h2 h3 => ⟨FW.appC za hna h1 h2 h3, zo_kept (zb.below (pal _ _)) (ownsRow_below FW.oc (pal _ _)) h2⟩
          have HNB := hideg hnb'
          have foc := FW.oc
          clear hoa hob hap hb hga hgb hab za zb hna hnb hnb' HF
          go_wp2_with (first
            | (at_builtin; refine wpList_append_own_at _ rfl _ _ 29 rfl w1.heap.size 28 i1 (.slice none 0 0) 1 24 Try.underlying29 hi' hy0 hy1 hy2 rfl (by decide) u6 _ _ rfl (World.ownsRow.alloc (w := wr) foc _) ⟨wr.heap.size, 0, none⟩ 1 1 [.slice (some ⟨ga, 0, none⟩) H ca] rfl rfl (cell_one_new _ _ _) (by intro u hu; simp at hu; subst hu; rfl) (by unfold maxLen; omega) (by omega) (by simp; omega) ?_; intro uc' w3 hoc3 hgr3 _ hat3; have HM3 := HMid.out uc' w3 hoc3 hgr3 hat3; have foh := HM3.1.oh; have hsz3 := HM3.1.bel.size)
            | (at_builtin; revert foh; intro foh; refine wpList_append_own_at _ rfl _ _ 29 rfl w1.heap.size 28 i1 (.slice none 0 0) 1 24 Try.underlying29 hi' hy0 hy1 hy2 rfl (by decide) u7 _ _ rfl (World.ownsRow.alloc (w := w3) foh _) ⟨w3.heap.size, 0, none⟩ 1 1 [.slice (some ⟨gb, 0, none⟩) H cb] rfl rfl (cell_one_new _ _ _) (by intro u hu; simp at hu; subst hu; rfl) (by unfold maxLen; omega) (by omega) (by simp; omega) ?_; intro uh' w4 hoh4 hgr4 _ hat4))
          have F4 := HM3.1.appH HM3.2 HNB.out hoh4 hgr4 hat4
          clear foc foh hoc3 hgr3 hat3 HM3 hoh4 hgr4 hat4 HMid
          go_wp2
          go_roundw
          case rel => exact ⟨k + 1, _, _, by omega, by go_num, F4⟩
          case measure => simp [intOf]; omega
    · have hke : n = k := by omega
      subst hke
      obtain ⟨w2, hw2⟩ : ∃ x, x = wr := ⟨_, rfl⟩
      rw [← hw2] at hF b0 b1 b2 ⊢
      clear hw2
      rcases hF.oc.2 with ⟨_, h0⟩ | ⟨goC, cC, curC, e1, _⟩
      · omega
      rcases hF.oh.2 with ⟨_, h0⟩ | ⟨goH, cH, curH, e2, _⟩
      · omega
      subst e1
      subst e2
      obtain ⟨TC, TH, hD⟩ := hf_tab hF
      have hb2 := hF.bel
      have HD := hideg hD
      have HGE : Hid (∀ vv, vv < n → w1.heap.size ≤ bk bc vv ∧ w1.heap.size ≤ bk bh vv) := fun vv hvv => ⟨(World.ownsRow.lt (TC.inn vv (by rw [hD.lc]; exact hvv)) _ rfl).1, (World.ownsRow.lt (TH.inn vv (by rw [hD.lh]; exact hvv)) _ rfl).1⟩
      have HTC := hideg TC
      have HTH := hideg TH
      have hA1 := HAl.out V T0 w2 hVn hb2
      clear hF TC TH hD hk hkn
      go_wp2_with fail
      refine hA1.mono ?_
      rintro r w3 ⟨rfl, hb3⟩
      have hbb3 : Below w1.heap.size w1 w3 := hb2.trans (hb3.mono hb2.size)
      have TC3 := HTC.out.below hb3
      have TH3 := HTH.out.below hb3
      clear hA1 hb3 hb2 b0 b1 b2
      have HTC3 := hideg TC3
      have HTH3 := hideg TH3
      clear HTC HTH TC3 TH3
      cases halv : aliveB (T0 : Int) g.lives (V : Int) with
      | false =>
        have HAlv := hideg halv
        clear halv
        have hTt : ∀ v' t', v' < n → t' < H → tat (infT n H) v' t' = firstT g (V : Int) (T0 : Int) v' t' := fun v' t' h1 h2 => by
          rw [infT_at n H v' t' h1 h2]
          unfold firstT
          rw [if_neg (fun h => by have := HAlv.out; rw [h.1] at this; cases this)]
        have HSh := hideg (infT_shp n H)
        obtain ⟨X0, hX0⟩ : ∃ X, X = infT n H := ⟨_, rfl⟩
        rw [← hX0] at HTC3 HTH3 hTt HSh
        have HTt := hideg hTt
        obtain ⟨w4, hw4⟩ : ∃ x, x = w3 := ⟨_, rfl⟩
        rw [← hw4] at HTC3 HTH3 hbb3 ⊢
        clear hTt hw4 hX0
        go_wp2_with fail
        have hmf : ∀ (fn : Fn) (first cap : Array Value) (w : World), (Instr.makeFunc fn first cap).run Try.prog w = .ok (.func fn first cap) w := fun _ _ _ _ => rfl
        have eg : ∀ args w, (callFunc 36 args).run Try.prog w = .ok (.enter 36 args) w := enters_of Try.func36 (by kernel_rfl) rfl
        have HokC : Hid (∀ a ∈ allA g id H, JOk n H a) := by intro a ha; have := allA_ok HRt.out (pr := id) (fun c h0 h1 => ⟨h0, h1⟩) H (by rw [HHi.out]; omega) a ha; rw [← HN.out, ← HHd.out] at this; exact this
        have HokH : Hid (∀ a ∈ allA g (fun _ => 1) H, JOk n H a) := by intro a ha; have := allA_ok HRt.out (pr := fun _ => 1) (fun c h0 h1 => ⟨by omega, by omega⟩) H (by rw [HHi.out]; omega) a ha; rw [← HN.out, ← HHd.out] at this; exact this
        have Hf0 : Hid (∀ v' t', v' < n → t' < H → 0 ≤ firstT g (V : Int) (T0 : Int) v' t') := fun v' t' _ _ => firstT_lo g _ _ v' t'
        have Hf1 : Hid (∀ v' t', v' < n → t' < H → firstT g (V : Int) (T0 : Int) v' t' ≤ 1099511627776) := fun v' t' _ _ => firstT_hi g _ _ v' t'
        have HS0 := hideg (ss_box HTC3.out HTH3.out HD.out hbb3 true)
        have HSum : Hid (∀ X Y, JBest n H (firstT g (V : Int) (T0 : Int)) (allA g id H) X → JBest n H (firstT g (V : Int) (T0 : Int)) (allA g (fun _ => 1) H) Y → Tm n H X → Tm n H Y → Pr n H X Y → SumIs g (V : Int) (T0 : Int) X Y) := by
          intro X Y h1 h2 h3 h4 h5
          rw [HN.out, HHd.out] at h1 h2 h3 h4 h5
          exact ⟨h1, h2, h3, h4, h5⟩
        have HJ0 : Hid (∀ arcs, JMid n H (firstT g (V : Int) (T0 : Int)) arcs X0) := fun arcs => jmid_first HSh.out HTt.out
        have HT0 : Hid (Tm n H X0) := tm_first HTt.out (firstT_two g _ _)
        have HBw : Hid (∀ W, Below w1.heap.size w1 W → Below w.heap.size w W) := fun W h => (HB1.out.below h).bel
        clear hbb3 HTC3 HTH3 HSh HTt
        go_loopw [12] (fun pm wr => ∃ (Bm : Nat) (X Y : Tb) (ch : Bool), pm = .pointer (some ⟨Bm, 0, none⟩) ∧ SS w1 n H goC goH bc bh Bm X Y ch wr ∧ JMid n H (firstT g (V : Int) (T0 : Int)) (allA g id H) X ∧ JMid n H (firstT g (V : Int) (T0 : Int)) (allA g (fun _ => 1) H) Y ∧ Tm n H X ∧ Tm n H Y ∧ Pr n H X Y ∧ (ch = false → JBest n H (firstT g (V : Int) (T0 : Int)) (allA g id H) X ∧ JBest n H (firstT g (V : Int) (T0 : Int)) (allA g (fun _ => 1) H) Y)) (fun pm wr => 2 * (tsum (rdT wr bc H) + tsum (rdT wr bh H)) + flagAt wr pm)
        case atStart => exact ⟨w4.heap.size, X0, X0, true, rfl, HS0.out, HJ0.out _, HJ0.out _, HT0.out, HT0.out, pr_self n H X0, fun h => by cases h⟩
        case round =>
          clear HS0 HJ0 HT0
          obtain ⟨Bm, X, Y, ch, rfl, hS, hMX, hMY, hTX, hTY, hP, hBest⟩ := hrel
          have cm := hS.cell
          have fm := hS.frz
          cases ch with
          | false =>
            obtain ⟨bX, bY⟩ := hBest rfl
            have HR := hideg (HSum.out X Y bX bY hTX hTY hP)
            have HS := hideg hS
            clear hS hMX hMY hTX hTY hP hBest bX bY
            go_wp2
            go_ret2
            exact ⟨goC, cC, goH, cH, bc, bh, X, Y, rfl, HS.out.c.base HB1.out.bel.size, HS.out.y.base HB1.out.bel.size, HD.out.lc, HD.out.lh, HR.out, HBw.out _ HS.out.bel⟩
          | true =>
            have hS5 := hS.clear HD.out false
            have hR0 : RS w1 n H goC goH bc bh Bm (firstT g (V : Int) (T0 : Int)) (allA g id H) (allA g (fun _ => 1) H) X Y [] [] (wr.setCell ⟨Bm, 0, none⟩ (.bool false)) := ⟨X, Y, false, false, hS5, tn_start hMX, tn_start hMY, hTX, hTY, hP⟩
            have HR0 := hideg hR0
            have hmeas : 2 * (tsum (rdT wr bc H) + tsum (rdT wr bh H)) + flagAt wr (.pointer (some ⟨Bm, 0, none⟩)) = 2 * (tsum X + tsum Y) + 1 := by
              rw [hS.c.rd (by rw [hMX.shp.rows, HD.out.lc]), hS.y.rd (by rw [hMY.shp.rows, HD.out.lh]), hS.flag]; rfl
            have HMs := hideg hmeas
            clear hS hS5 hMX hMY hTX hTY hP hBest hR0 hmeas
            obtain ⟨w5, hw5⟩ : ∃ x, x = wr.setCell ⟨Bm, 0, none⟩ (.bool false) := ⟨_, rfl⟩
            rw [← hw5] at HR0
            have hw5s := hw5.symm
            clear hw5
            go_wp2_with fail
            clear hw5s
            go_loopw [14] (fun tt wr => ∃ k : Nat, k ≤ H ∧ tt = .int .i64 k ∧ RS w1 n H goC goH bc bh Bm (firstT g (V : Int) (T0 : Int)) (allA g id H) (allA g (fun _ => 1) H) X Y (allA g id k) (allA g (fun _ => 1) k) wr) (fun tt _ => H - (intOf tt).toNat)
            case atStart => exact ⟨0, Nat.zero_le _, rfl, HR0.out⟩
            case round =>
              clear HR0
              obtain ⟨k, hk, rfl, hRS⟩ := hrel
              have hbk : Below w1.heap.size w1 wr := by obtain ⟨_, _, _, _, S, _⟩ := hRS; exact S.bel
              obtain ⟨b0, b1, b2⟩ := HBX.out wr hbk
              have HRS := hideg hRS
              by_cases hkH : k < H
              · obtain ⟨wa, hwa⟩ : ∃ x, x = wr := ⟨_, rfl⟩
                rw [← hwa] at HRS b0 b1 b2 ⊢
                clear hRS hwa hbk
                have hkw : IntKind.i64.wrap ((k : Int) + 1) = (k : Int) + 1 := wrap_nr _ (by omega) (by omega)
                have HSt5 : Hid (RS w1 n H goC goH bc bh Bm (firstT g (V : Int) (T0 : Int)) (allA g id H) (allA g (fun _ => 1) H) X Y (allA g id k ++ waitA g k 0) (allA g (fun _ => 1) k ++ waitA g k 0) wa) := by
                  show RS _ _ _ _ _ _ _ _ _ _ _ _ _ _ _ _
                  rw [waitA, List.append_nil, List.append_nil]; exact HRS.out
                clear HRS
                go_wp2_with fail
                go_loopw [15] (fun vv wr => ∃ j : Nat, j ≤ n ∧ vv = .int .i64 j ∧ RS w1 n H goC goH bc bh Bm (firstT g (V : Int) (T0 : Int)) (allA g id H) (allA g (fun _ => 1) H) X Y (allA g id k ++ waitA g k j) (allA g (fun _ => 1) k ++ waitA g k j) wr) (fun vv _ => n - (intOf vv).toNat)
                case atStart => exact ⟨0, Nat.zero_le _, rfl, HSt5.out⟩
                case round =>
                  clear HSt5 b0 b1 b2
                  obtain ⟨j, hj, rfl, hRS⟩ := hrel
                  have hbk : Below w1.heap.size w1 wr := by obtain ⟨_, _, _, _, S, _⟩ := hRS; exact S.bel
                  obtain ⟨b0, b1, b2⟩ := HBX.out wr hbk
                  by_cases hjn : j < n
                  · obtain ⟨P, Q, cC', cH', hS, hTC, hTH, hTP, hTQ, hPQ⟩ := hRS
                    have c0 := hS.c.out j (by rw [HD.out.lc]; exact hjn)
                    have c1 := hS.c.cell (t := k) (by rw [HD.out.lc]; exact hjn) hkH
                    have hjl : j < g.lives.length := by rw [← HN.out]; exact hjn
                    have hji : (j : Int) < (n : Int) := by omega
                    have hki : (k : Int) < (H : Int) := by omega
                    have HS := hideg hS
                    have HTC := hideg hTC
                    have HTH := hideg hTH
                    have HTP := hideg hTP
                    have HTQ := hideg hTQ
                    have HPQ := hideg hPQ
                    clear hS hTC hTH hTP hTQ hPQ
                    by_cases hinf : tat P j k < 1099511627776
                    · have d1 : decide (tat P j k < 1099511627776) = true := by simpa using hinf
                      have hne : tat P j k ≠ 1099511627776 := by omega
                      by_cases hk1 : k + 1 < H
                      · have d2 : decide ((k : Int) + 1 < (H : Int)) = true := by simp; omega
                        have hA := HAl.out j ((k : Int) + 1) wr hjn hbk
                        cases hal : aliveB ((k : Int) + 1) g.lives (j : Int) with
                        | false =>
                          have HW := hideg (waitA_no (g := g) (t := k) (k := j) (fun h => by rw [hal] at h; cases h.2))
                          rw [hal] at hA
                          clear hal
                          go_wp2_with fail
                          refine hA.mono ?_
                          rintro r w6 ⟨rfl, hb6⟩
                          have HRn : Hid (RS w1 n H goC goH bc bh Bm (firstT g (V : Int) (T0 : Int)) (allA g id H) (allA g (fun _ => 1) H) X Y (allA g id k ++ waitA g k (j + 1)) (allA g (fun _ => 1) k ++ waitA g k (j + 1)) w6) := by
                            show RS _ _ _ _ _ _ _ _ _ _ _ _ _ _ _ _
                            rw [HW.out, List.append_nil]; exact ⟨P, Q, cC', cH', HS.out.below hb6, HTC.out, HTH.out, HTP.out, HTQ.out, HPQ.out⟩
                          clear hA hb6 c0 c1 b0 b1 b2
                          go_wp2
                          go_roundw
                          case rel => exact ⟨j + 1, by omega, by go_num, HRn.out⟩
                          case measure => simp [intOf]; omega
                        | true =>
                          have hcond : ((k : Int) + 1 < g.hor) ∧ aliveB ((k : Int) + 1) g.lives (j : Int) = true := ⟨by rw [HHi.out]; omega, hal⟩
                          have HW := hideg (waitA_yes hcond)
                          have HmC := hideg (wait_mem (pr := id) (H := H) hkH hjl hcond)
                          have HmH := hideg (wait_mem (pr := fun _ => 1) (H := H) hkH hjl hcond)
                          rw [hal] at hA
                          clear hal hcond
                          go_wp2_with fail
                          refine hA.mono ?_
                          rintro r w6 ⟨rfl, hb6⟩
                          have S6 := HS.out.below hb6
                          obtain ⟨S7, RS8⟩ := ss_put S6 HTC.out HTH.out HTP.out HTQ.out HPQ.out HD.out HmC.out HmH.out HokC.out HokH.out Hf0.out ⟨rfl, rfl, rfl, rfl⟩ hH1.2 (show src P (j, k, j, k + 1, 0) ≠ 1099511627776 from hne) HGE.out
                          simp only [src, dst, Int.add_zero] at S7 RS8
                          have hp1 := sums1_any w1.heap.size goC cC bc H P j (k + 1) (tat P j k) Bm _ w6 S6.c (by rw [HD.out.lc]; exact hjn) hk1 S6.m (S6.far.2.2 j hjn).1
                          have hp2 := sums1_any w1.heap.size goH cH bh H Q j (k + 1) (tat Q j k) Bm _ _ S7.y (by rw [HD.out.lh]; exact hjn) hk1 S7.m (S7.far.2.2 j hjn).2
                          rw [HD.out.lc, show ((k + 1 : Nat) : Int) = (k : Int) + 1 from by omega] at hp1
                          rw [HD.out.lh, show ((k + 1 : Nat) : Int) = (k : Int) + 1 from by omega] at hp2
                          have x0 := S6.c.out j (by rw [HD.out.lc]; exact hjn)
                          have x1 := S6.c.cell (t := k) (by rw [HD.out.lc]; exact hjn) hkH
                          have y0 := S7.y.out j (by rw [HD.out.lh]; exact hjn)
                          have y1 := S7.y.cell (t := k) (by rw [HD.out.lh]; exact hjn) hkH
                          have HS7 := hideg S7
                          rw [List.append_assoc, List.append_assoc, ← HW.out] at RS8
                          have HRn := hideg RS8
                          generalize putW w6 (bk bc j) (k + 1) Bm (tat P j k) (tat P j (k + 1)) = w7 at *
                          clear hA hb6 c0 c1 b0 b1 b2 S6 S7 RS8
                          go_wp2_with fail
                          go_at_fn 36
                          refine hp1.mono ?_
                          rintro r w7' ⟨rfl, hw7⟩
                          have hw7s := hw7.symm
                          subst hw7s
                          clear hw7 hp1 x0 x1
                          go_wp2_with fail
                          go_at_fn 36
                          refine hp2.mono ?_
                          rintro r w8 ⟨rfl, hw8⟩
                          rw [← hw8] at HRn
                          clear hw8 hp2 y0 y1
                          go_wp2
                          go_roundw
                          case rel => exact ⟨j + 1, by omega, by go_num, HRn.out⟩
                          case measure => simp [intOf]; omega
                      · have d2 : decide ((k : Int) + 1 < (H : Int)) = false := by simp; omega
                        have HW := hideg (waitA_no (g := g) (t := k) (k := j) (fun h => by have := h.1; rw [HHi.out] at this; omega))
                        have HRn : Hid (RS w1 n H goC goH bc bh Bm (firstT g (V : Int) (T0 : Int)) (allA g id H) (allA g (fun _ => 1) H) X Y (allA g id k ++ waitA g k (j + 1)) (allA g (fun _ => 1) k ++ waitA g k (j + 1)) wr) := by
                          show RS _ _ _ _ _ _ _ _ _ _ _ _ _ _ _ _
                          rw [HW.out, List.append_nil]; exact ⟨P, Q, cC', cH', HS.out, HTC.out, HTH.out, HTP.out, HTQ.out, HPQ.out⟩
                        go_wp2
                        go_roundw
                        case rel => exact ⟨j + 1, by omega, by go_num, HRn.out⟩
                        case measure => simp [intOf]; omega
                    · have d1 : decide (tat P j k < 1099511627776) = false := by simpa using hinf
                      have hPi : tat P j k = 1099511627776 := by rcases HTP.out j k hjn hkH with e | e; exact e; omega
                      have hQi : tat Q j k = 1099511627776 := (HPQ.out j k hjn hkH).1 hPi
                      have HRn : Hid (RS w1 n H goC goH bc bh Bm (firstT g (V : Int) (T0 : Int)) (allA g id H) (allA g (fun _ => 1) H) X Y (allA g id k ++ waitA g k (j + 1)) (allA g (fun _ => 1) k ++ waitA g k (j + 1)) wr) := by
                        show RS _ _ _ _ _ _ _ _ _ _ _ _ _ _ _ _
                        by_cases hcond : ((k : Int) + 1 < g.hor) ∧ aliveB ((k : Int) + 1) g.lives (j : Int) = true
                        · rw [waitA_yes hcond, ← List.append_assoc, ← List.append_assoc]
                          exact ⟨P, Q, cC', cH', HS.out, tn_inf HTC.out (HokC.out _ (wait_mem hkH hjl hcond)) Hf1.out hPi, tn_inf HTH.out (HokH.out _ (wait_mem hkH hjl hcond)) Hf1.out hQi, HTP.out, HTQ.out, HPQ.out⟩
                        · rw [waitA_no hcond, List.append_nil]; exact ⟨P, Q, cC', cH', HS.out, HTC.out, HTH.out, HTP.out, HTQ.out, HPQ.out⟩
                      clear hinf hPi hQi
                      go_wp2
                      go_roundw
                      case rel => exact ⟨j + 1, by omega, by go_num, HRn.out⟩
                      case measure => simp [intOf]; omega
                  · clear b0 b1 b2
                    have hje : n = j := by omega
                    subst hje
                    obtain ⟨b0, b1, b2⟩ := HBX.out wr hbk
                    have HRS := hideg hRS
                    obtain ⟨wa2, hwa2⟩ : ∃ x, x = wr := ⟨_, rfl⟩
                    rw [← hwa2] at HRS b0 b1 b2 ⊢
                    clear hRS hwa2 hbk
                    have HSt6 : Hid (RS w1 n H goC goH bc bh Bm (firstT g (V : Int) (T0 : Int)) (allA g id H) (allA g (fun _ => 1) H) X Y (allA g id k ++ (waitA g k n ++ legA g id k 0)) (allA g (fun _ => 1) k ++ (waitA g k n ++ legA g (fun _ => 1) k 0)) wa2) := by
                      show RS _ _ _ _ _ _ _ _ _ _ _ _ _ _ _ _
                      rw [legA, legA, List.append_nil]; exact HRS.out
                    clear HRS
                    go_wp2_with fail
                    go_loopw [16] (fun ii wr => ∃ i : Nat, i ≤ g.edges.length ∧ ii = .int .i64 i ∧ RS w1 n H goC goH bc bh Bm (firstT g (V : Int) (T0 : Int)) (allA g id H) (allA g (fun _ => 1) H) X Y (allA g id k ++ (waitA g k n ++ legA g id k i)) (allA g (fun _ => 1) k ++ (waitA g k n ++ legA g (fun _ => 1) k i)) wr) (fun ii _ => g.edges.length - (intOf ii).toNat)
                    case atStart => exact ⟨0, Nat.zero_le _, rfl, HSt6.out⟩
                    case round =>
                      clear HSt6 b0 b1 b2
                      obtain ⟨i, hi6, rfl, hRS⟩ := hrel
                      have hbk : Below w1.heap.size w1 wr := by obtain ⟨_, _, _, _, S, _⟩ := hRS; exact S.bel
                      obtain ⟨b0, b1, b2⟩ := HBX.out wr hbk
                      by_cases hie : i < g.edges.length
                      · rcases (HG.out.below (HB1.out.below hbk).bel).ed with h0 | ⟨eb, eo, rfl, hebr, hec⟩
                        · rw [h0] at hie; simp at hie
                        obtain ⟨c0, c1, lo, lcap, c2, _⟩ := hec i hie
                        obtain ⟨hA, hB, _⟩ := HRt.out.ends g.edges[i] (List.getElem_mem hie)
                        obtain ⟨A, eA⟩ : ∃ A : Nat, g.edges[i].1 = (A : Int) := ⟨g.edges[i].1.toNat, by omega⟩
                        obtain ⟨B, eB⟩ : ∃ A : Nat, g.edges[i].2.1 = (A : Int) := ⟨g.edges[i].2.1.toNat, by omega⟩
                        have hAn : A < n := by have := HN.out; omega
                        have hBn : B < n := by have := HN.out; omega
                        have hii : (i : Int) < (g.edges.length : Int) := by omega
                        have hAi : (A : Int) < (n : Int) := by omega
                        have hBi : (B : Int) < (n : Int) := by omega
                        have hki : (k : Int) < (H : Int) := by omega
                        rw [eA] at c0
                        rw [eB] at c1
                        generalize hll : g.edges[i].2.2.length = ll at c2
                        have gx := pal wr (.cells #[.int .i64 (A : Int), .int .i64 (B : Int), .slice lo ll lcap] 51)
                        have hL := HLd.out i (k : Int) _ hie (hbk.trans (gx.mono hbk.size))
                        have hx0 : (wr.alloc (.cells #[.int .i64 (A : Int), .int .i64 (B : Int), .slice lo ll lcap] 51)).cell? ⟨wr.heap.size, 0, none⟩ = some (.int .i64 (A : Int)) := by simp
                        have hx1 : (wr.alloc (.cells #[.int .i64 (A : Int), .int .i64 (B : Int), .slice lo ll lcap] 51)).cell? ⟨wr.heap.size, 1, none⟩ = some (.int .i64 (B : Int)) := by simp
                        have hz6 : (wr.alloc (.cells #[.int .i64 (A : Int), .int .i64 (B : Int), .slice lo ll lcap] 51)).heap.size = wr.heap.size + 1 := by simp
                        obtain ⟨z0, z1, z2⟩ := HBX.out _ (hbk.trans (gx.mono hbk.size))
                        have HZ : Hid (∀ W, Below (wr.alloc (.cells #[.int .i64 (A : Int), .int .i64 (B : Int), .slice lo ll lcap] 51)).heap.size (wr.alloc (.cells #[.int .i64 (A : Int), .int .i64 (B : Int), .slice lo ll lcap] 51)) W → Below wr.heap.size wr W ∧ W.cell? ⟨wr.heap.size, 0, none⟩ = some (.int .i64 (A : Int)) ∧ W.cell? ⟨wr.heap.size, 1, none⟩ = some (.int .i64 (B : Int)) ∧ wr.heap.size < W.heap.size) := fun W h => ⟨ptw gx h, (h.cell (p := ⟨wr.heap.size, 0, none⟩) (by simp)).trans hx0, (h.cell (p := ⟨wr.heap.size, 1, none⟩) (by simp)).trans hx1, by have := h.size; rw [hz6] at this; omega⟩
                        have HRS := hideg hRS
                        unfold landsV at hL
                        clear hec hebr hA hB gx hRS hx0 hx1 hz6 hbk
                        obtain ⟨w6, hw6⟩ : ∃ x, x = wr.alloc (.cells #[.int .i64 (A : Int), .int .i64 (B : Int), .slice lo ll lcap] 51) := ⟨_, rfl⟩
                        rw [← hw6] at hL HZ z0 z1 z2
                        have hw6s := hw6.symm
                        clear hw6
                        cases hs : lands g g.edges[i] (k : Int) with
                        | none =>
                          have HW := hideg (legA_no (pr := id) hie hs)
                          have HW' := hideg (legA_no (pr := fun _ => 1) hie hs)
                          rw [hs] at hL
                          simp only [Option.getD_none, Option.isSome_none] at hL
                          clear hs eA eB hll
                          go_wp2_with fail
                          clear hw6s
                          refine hL.mono ?_
                          rintro r w7 ⟨rfl, hb7⟩
                          have HRn : Hid (RS w1 n H goC goH bc bh Bm (firstT g (V : Int) (T0 : Int)) (allA g id H) (allA g (fun _ => 1) H) X Y (allA g id k ++ (waitA g k n ++ legA g id k (i + 1))) (allA g (fun _ => 1) k ++ (waitA g k n ++ legA g (fun _ => 1) k (i + 1))) w7) := by
                            show RS _ _ _ _ _ _ _ _ _ _ _ _ _ _ _ _
                            rw [HW.out, HW'.out, List.append_nil, List.append_nil]; exact HRS.out.below (HZ.out _ hb7).1
                          clear hL hb7 b0 b1 b2 c0 c1 c2 z0 z1 z2
                          go_wp2
                          go_roundw
                          case rel => exact ⟨i + 1, by omega, by go_num, HRn.out⟩
                          case measure => simp [intOf]; omega
                        | some q =>
                          have HW := hideg (legA_yes (pr := id) hie hs)
                          have HW' := hideg (legA_yes (pr := fun _ => 1) hie hs)
                          have HmC := hideg (leg_mem (pr := id) (H := H) hkH hie hs)
                          have HmH := hideg (leg_mem (pr := fun _ => 1) (H := H) hkH hie hs)
                          obtain ⟨to, pc⟩ := q
                          rw [hs] at hL
                          simp only [Option.getD_some, Option.isSome_some] at hL
                          clear hs
                          rw [eA, eB] at HW HW' HmC HmH
                          simp only [Int.toNat_natCast] at HW HW' HmC HmH
                          have okC := HokC.out _ HmC.out
                          have ok1 := okC.t'
                          have ok2 := okC.lt
                          have ok3 := okC.p0
                          have ok4 := okC.p1
                          simp only [id] at ok1 ok2 ok3 ok4
                          obtain ⟨T, rfl⟩ : ∃ T : Nat, to = (T : Int) := ⟨to.toNat, by omega⟩
                          simp only [Int.toNat_natCast] at HW HW' HmC HmH ok1 ok2
                          have hTi : (T : Int) < (H : Int) := by omega
                          clear okC eA eB hll
                          go_wp2_with fail
                          clear hw6s
                          refine hL.mono ?_
                          rintro r w7 ⟨rfl, hb7⟩
                          obtain ⟨hb67, y0, y1, yl⟩ := HZ.out _ hb7
                          have hfar : bk bc B < wr.heap.size ∧ Bm < wr.heap.size := by obtain ⟨_, _, _, _, S0, _⟩ := HRS.out; exact ⟨(World.ownsRow.lt (S0.c.inn B (by rw [HD.out.lc]; exact hBn)) _ rfl).2, S0.lt⟩
                          obtain ⟨P, Q, cC', cH', hS, hTC, hTH, hTP, hTQ, hPQ⟩ := HRS.out.below hb67
                          have x0 := hS.c.out A (by rw [HD.out.lc]; exact hAn)
                          have x1 := hS.c.cell (t := k) (by rw [HD.out.lc]; exact hAn) hkH
                          have HS := hideg hS
                          have HTC := hideg hTC
                          have HTH := hideg hTH
                          have HTP := hideg hTP
                          have HTQ := hideg hTQ
                          have HPQ := hideg hPQ
                          clear hS hTC hTH hTP hTQ hPQ hL hb7 b0 b1 b2 c0 c1 c2 z0 z1 z2 HZ HRS
                          by_cases hinf : tat P A k < 1099511627776
                          · have d1 : decide (tat P A k < 1099511627776) = true := by simpa using hinf
                            have hne : tat P A k ≠ 1099511627776 := by omega
                            have hPlo : 0 ≤ tat P A k ∧ tat P A k ≤ 1000 * (k : Int) := by rcases HTP.out A k hAn hkH with e | e; exact absurd e hne; exact e
                            have hQne : tat Q A k ≠ 1099511627776 := fun e => hne ((HPQ.out A k hAn hkH).2 e)
                            have hQlo : 0 ≤ tat Q A k ∧ tat Q A k ≤ 1000 * (k : Int) := by rcases HTQ.out A k hAn hkH with e | e; exact absurd e hQne; exact e
                            have hwP : IntKind.i64.wrap (tat P A k + pc) = tat P A k + pc := wrap_nr _ (by omega) (by omega)
                            have hwQ : IntKind.i64.wrap (tat Q A k + 1) = tat Q A k + 1 := wrap_nr _ (by omega) (by omega)
                            go_wp2_with fail
                            have lA := (World.ownsRow.lt (HS.out.c.inn A (by rw [HD.out.lc]; exact hAn)) _ rfl).2
                            have lgo := HS.out.c.lt
                            have hne2 : Nonempty (HeldIn w7) := ⟨⟨_, Below.refl _ _⟩⟩
                            have f0 : ∀ s : HeldIn w7, s.w.cell? ⟨wr.heap.size, 0, none⟩ = some (.int .i64 (A : Int)) := fun s => (s.h.cell (p := ⟨wr.heap.size, 0, none⟩) yl).trans y0
                            have f1 : ∀ s : HeldIn w7, s.w.cell? ⟨wr.heap.size, 1, none⟩ = some (.int .i64 (B : Int)) := fun s => (s.h.cell (p := ⟨wr.heap.size, 1, none⟩) yl).trans y1
                            have f2 := fun s : HeldIn w7 => (s.h.cell (p := ⟨goC, A, none⟩) lgo).trans x0
                            have f3 := fun s : HeldIn w7 => (s.h.cell (p := ⟨bk bc A, k, none⟩) lA).trans x1
                            refine wp_region_held_back _ (Below.refl _ _) (by kernel_rfl) (by simp) (by kernel_rfl) (by kernel_rfl) (by kernel_rfl) ?_
                            simp only [List.pop_toArray, List.dropLast, List.back!_toArray, List.getLast!]
                            repeat (go_big_quiet_step (fail))
                            refine wpQuiet_nil ?_
                            rintro _ ⟨s, rfl⟩
                            refine back_last (fun K hK => ?_)
                            go_simp
                            have S6 := HS.out.below s.h
                            have SP := S6.putC HD.out HTC.out.mid.shp.rows (v := B) (t := T) hBn (tat P A k + pc) (HGE.out B hBn).1
                            have hp1 := sums1_any w1.heap.size goC cC bc H P B T (tat P A k + pc) Bm _ s.w S6.c (by rw [HD.out.lc]; exact hBn) ok1 S6.m (S6.far.2.2 B hBn).1
                            rw [HD.out.lc] at hp1
                            have k0 := f0 s
                            have k1 := f1 s
                            have yls : wr.heap.size < s.w.heap.size := Nat.lt_of_lt_of_le yl s.h.size
                            refine hp1.mono ?_
                            rintro r w8 ⟨rfl, hw8⟩
                            refine hK.out _ _ ?_
                            have m0 : w8.cell? ⟨wr.heap.size, 0, none⟩ = some (.int .i64 (A : Int)) := by rw [hw8]; exact (putW_far _ _ _ _ _ _ yls (by omega) (by omega)).trans k0
                            have m1 : w8.cell? ⟨wr.heap.size, 1, none⟩ = some (.int .i64 (B : Int)) := by rw [hw8]; exact (putW_far _ _ _ _ _ _ yls (by omega) (by omega)).trans k1
                            have yl8 : wr.heap.size < w8.heap.size := by rw [hw8]; exact Nat.lt_of_lt_of_le yls (putW_size _ _ _ _ _ _)
                            rw [← hw8] at SP
                            have x0' := SP.y.out A (by rw [HD.out.lh]; exact hAn)
                            have x1' := SP.y.cell (t := k) (by rw [HD.out.lh]; exact hAn) hkH
                            have lA' := (World.ownsRow.lt (SP.y.inn A (by rw [HD.out.lh]; exact hAn)) _ rfl).2
                            have lgo' := SP.y.lt
                            have HS8 := hideg SP
                            clear hw8 hp1 SP S6 k0 k1 yls hK K f0 f1 f2 f3 hne2 y0 y1 yl x0 x1 lA lgo
                            clear s
                            have hne3 : Nonempty (HeldIn w8) := ⟨⟨_, Below.refl _ _⟩⟩
                            have f0 : ∀ s : HeldIn w8, s.w.cell? ⟨wr.heap.size, 0, none⟩ = some (.int .i64 (A : Int)) := fun s => (s.h.cell (p := ⟨wr.heap.size, 0, none⟩) yl8).trans m0
                            have f1 : ∀ s : HeldIn w8, s.w.cell? ⟨wr.heap.size, 1, none⟩ = some (.int .i64 (B : Int)) := fun s => (s.h.cell (p := ⟨wr.heap.size, 1, none⟩) yl8).trans m1
                            have f2 := fun s : HeldIn w8 => (s.h.cell (p := ⟨goH, A, none⟩) lgo').trans x0'
                            have f3 := fun s : HeldIn w8 => (s.h.cell (p := ⟨bk bh A, k, none⟩) lA').trans x1'
                            go_wp2_with fail
                            refine wp_region_held_back _ (Below.refl _ _) (by kernel_rfl) (by simp) (by kernel_rfl) (by kernel_rfl) (by kernel_rfl) ?_
                            simp only [List.pop_toArray, List.dropLast, List.back!_toArray, List.getLast!]
                            repeat (go_big_quiet_step (fail))
                            refine wpQuiet_nil ?_
                            rintro _ ⟨s, rfl⟩
                            refine back_last (fun K hK => ?_)
                            go_simp
                            have S9 := HS8.out.below s.h
                            have hRn := ss_putB (a := (A, k, B, T, pc)) (b := (A, k, B, T, 1)) S9 HTC.out HTH.out HTP.out HTQ.out HPQ.out HD.out HmC.out HmH.out HokC.out HokH.out Hf0.out ⟨rfl, rfl, rfl, rfl⟩ hH1.2 (show src P (A, k, B, T, pc) ≠ 1099511627776 from hne) HGE.out
                            have hp2 := sums1_any w1.heap.size goH cH bh H Q B T (tat Q A k + 1) Bm _ s.w S9.y (by rw [HD.out.lh]; exact hBn) ok1 S9.m (S9.far.2.2 B hBn).2
                            rw [HD.out.lh] at hp2
                            refine hp2.mono ?_
                            rintro r w9 ⟨rfl, hw9⟩
                            refine hK.out _ _ ?_
                            have HRn : Hid (RS w1 n H goC goH bc bh Bm (firstT g (V : Int) (T0 : Int)) (allA g id H) (allA g (fun _ => 1) H) X Y (allA g id k ++ (waitA g k n ++ legA g id k (i + 1))) (allA g (fun _ => 1) k ++ (waitA g k n ++ legA g (fun _ => 1) k (i + 1))) w9) := by
                              show RS _ _ _ _ _ _ _ _ _ _ _ _ _ _ _ _
                              rw [HW.out, HW'.out, ← List.append_assoc (waitA g k n), ← List.append_assoc (waitA g k n), ← List.append_assoc (allA g id k), ← List.append_assoc (allA g (fun _ => 1) k), hw9]
                              exact hRn
                            clear hw9 hp2 hRn S9 hK K f0 f1 f2 f3 hne3 m0 m1 yl8 x0' x1' lA' lgo'
                            clear s
                            go_wp2
                            go_roundw
                            case rel => exact ⟨i + 1, by omega, by go_num, HRn.out⟩
                            case measure => simp [intOf]; omega
                          · have d1 : decide (tat P A k < 1099511627776) = false := by simpa using hinf
                            have hPi : tat P A k = 1099511627776 := by rcases HTP.out A k hAn hkH with e | e; exact e; omega
                            have hQi : tat Q A k = 1099511627776 := (HPQ.out A k hAn hkH).1 hPi
                            have HRn : Hid (RS w1 n H goC goH bc bh Bm (firstT g (V : Int) (T0 : Int)) (allA g id H) (allA g (fun _ => 1) H) X Y (allA g id k ++ (waitA g k n ++ legA g id k (i + 1))) (allA g (fun _ => 1) k ++ (waitA g k n ++ legA g (fun _ => 1) k (i + 1))) w7) := by
                              show RS _ _ _ _ _ _ _ _ _ _ _ _ _ _ _ _
                              rw [HW.out, HW'.out, ← List.append_assoc, ← List.append_assoc, ← List.append_assoc, ← List.append_assoc]
                              exact ⟨P, Q, cC', cH', HS.out, tn_inf (by rw [List.append_assoc]; exact HTC.out) (HokC.out _ HmC.out) Hf1.out hPi, tn_inf (by rw [List.append_assoc]; exact HTH.out) (HokH.out _ HmH.out) Hf1.out hQi, HTP.out, HTQ.out, HPQ.out⟩
                            clear hinf hPi hQi
                            go_wp2
                            go_roundw
                            case rel => exact ⟨i + 1, by omega, by go_num, HRn.out⟩
                            case measure => simp [intOf]; omega
                      · have hil : g.edges.length = i := by omega
                        have HRn : Hid (RS w1 n H goC goH bc bh Bm (firstT g (V : Int) (T0 : Int)) (allA g id H) (allA g (fun _ => 1) H) X Y (allA g id (k + 1)) (allA g (fun _ => 1) (k + 1)) wr) := by
                          show RS _ _ _ _ _ _ _ _ _ _ _ _ _ _ _ _
                          rw [allA, allA, ← HN.out, hil]; exact hRS
                        have hd6 : decide ((i : Int) < (g.edges.length : Int)) = false := by simp; omega
                        clear hRS
                        go_wp2
                        go_roundw
                        case rel => exact ⟨k + 1, by omega, by go_num, HRn.out⟩
                        case measure => simp [intOf]; omega
              · have hke : H = k := by omega
                subst hke
                obtain ⟨P, Q, cC', cH', hS, hTC, hTH, hTP, hTQ, hPQ⟩ := hRS
                have cm := hS.cell
                have fm := hS.frz
                have HFin : Hid ((∃ (Bm : Nat) (X Y : Tb) (ch : Bool), Value.pointer (some ⟨wr.heap.size, 0, none⟩) = .pointer (some ⟨Bm, 0, none⟩) ∧ SS w1 n H goC goH bc bh Bm X Y ch (wr.alloc (.cells #[.bool (cC' || cH')] 4)) ∧ JMid n H (firstT g (V : Int) (T0 : Int)) (allA g id H) X ∧ JMid n H (firstT g (V : Int) (T0 : Int)) (allA g (fun _ => 1) H) Y ∧ Tm n H X ∧ Tm n H Y ∧ Pr n H X Y ∧ (ch = false → JBest n H (firstT g (V : Int) (T0 : Int)) (allA g id H) X ∧ JBest n H (firstT g (V : Int) (T0 : Int)) (allA g (fun _ => 1) H) Y)) ∧ 2 * (tsum (rdT (wr.alloc (.cells #[.bool (cC' || cH')] 4)) bc H) + tsum (rdT (wr.alloc (.cells #[.bool (cC' || cH')] 4)) bh H)) + flagAt (wr.alloc (.cells #[.bool (cC' || cH')] 4)) (.pointer (some ⟨wr.heap.size, 0, none⟩)) < 2 * (tsum X + tsum Y) + 1) := by
                  have SB := ss_box hS.c hS.y HD.out hS.bel (cC' || cH')
                  refine ⟨⟨wr.heap.size, P, Q, cC' || cH', rfl, SB, hTC.mid, hTH.mid, hTP, hTQ, hPQ, fun hf => ?_⟩, ?_⟩
                  · rw [Bool.or_eq_false_iff] at hf
                    obtain ⟨rfl, rfl⟩ := hf
                    exact ⟨tn_end hTC, tn_end hTH⟩
                  · rw [SB.c.rd (by rw [hTC.mid.shp.rows, HD.out.lc]), SB.y.rd (by rw [hTH.mid.shp.rows, HD.out.lh]), SB.flag]
                    have s1 := hTC.sum
                    have s2 := hTH.sum
                    cases cC' with
                    | true => have := hTC.less rfl; simp; omega
                    | false =>
                      cases cH' with
                      | true => have := hTH.less rfl; simp; omega
                      | false => simp; omega
                clear hS hTC hTH hTP hTQ hPQ
                go_wp2_with fail
                rw [HMs.out]
                exact HFin.out
      | true =>
        have HAlv := hideg halv
        clear halv
        have c0 := HTC3.out.out V (by rw [HD.out.lc]; exact hVn)
        have c1 := HTH3.out.out V (by rw [HD.out.lh]; exact hVn)
        have d0 := HTC3.out.cell (t := T0) (by rw [HD.out.lc]; exact hVn) hTH
        have d1 := HTH3.out.cell (t := T0) (by rw [HD.out.lh]; exact hVn) hTH
        have fC := World.ownsRow.frozenAt (HTC3.out.inn V (by rw [HD.out.lc]; exact hVn)) T0
        have fH := World.ownsRow.frozenAt (HTH3.out.inn V (by rw [HD.out.lh]; exact hVn)) T0
        have hne1 := HD.out.ch V V hVn hVn
        have hne2 := (HD.out.gc V hVn)
        have hne3 := (HD.out.gh V hVn)
        have hVi : (V : Int) < (n : Int) := by omega
        have hTi : (T0 : Int) < (H : Int) := by omega
        have kC1 : ∀ (W : World) (u x : Value), W.cell? ⟨goC, V, none⟩ = some x → (W.setCell ⟨bk bc V, T0, none⟩ u).drew.cell? ⟨goC, V, none⟩ = some x := fun W u x h => (World.cell?_setCell_far W ⟨bk bc V, T0, none⟩ ⟨goC, V, none⟩ u (fun e => hne2.1 e.symm)).trans h
        have kC2 : ∀ (W : World) (u x : Value), W.cell? ⟨goH, V, none⟩ = some x → (W.setCell ⟨bk bc V, T0, none⟩ u).drew.cell? ⟨goH, V, none⟩ = some x := fun W u x h => (World.cell?_setCell_far W ⟨bk bc V, T0, none⟩ ⟨goH, V, none⟩ u (fun e => hne2.2 e.symm)).trans h
        have kH1 : ∀ (W : World) (u x : Value), W.cell? ⟨goC, V, none⟩ = some x → (W.setCell ⟨bk bh V, T0, none⟩ u).drew.cell? ⟨goC, V, none⟩ = some x := fun W u x h => (World.cell?_setCell_far W ⟨bk bh V, T0, none⟩ ⟨goC, V, none⟩ u (fun e => hne3.1 e.symm)).trans h
        have kH2 : ∀ (W : World) (u x : Value), W.cell? ⟨goH, V, none⟩ = some x → (W.setCell ⟨bk bh V, T0, none⟩ u).drew.cell? ⟨goH, V, none⟩ = some x := fun W u x h => (World.cell?_setCell_far W ⟨bk bh V, T0, none⟩ ⟨goH, V, none⟩ u (fun e => hne3.2 e.symm)).trans h
        have s1 := kC1 w3 (.int .i64 0) _ c0
        have s2 := kC2 w3 (.int .i64 0) _ c1
        have s3 := kH1 (w3.setCell ⟨bk bc V, T0, none⟩ (.int .i64 0)) (.int .i64 0) _ s1
        have s4 := kH2 (w3.setCell ⟨bk bc V, T0, none⟩ (.int .i64 0)) (.int .i64 0) _ s2
        clear kC1 kC2 kH1 kH2
        go_wp2_with fail
        go_region_held3 (fun w' => w'.cell? ⟨goC, V, none⟩ = some (.slice (some ⟨bk bc V, 0, none⟩) H (ck bc V)) ∧ w'.cell? ⟨goH, V, none⟩ = some (.slice (some ⟨bk bh V, 0, none⟩) H (ck bh V)))
          (first | go_keep | (refine ⟨?_, ?_⟩ <;> assumption))
          (fail)
        have hXC := HTC3.out.set (t := T0) (v := V) (by rw [HD.out.lc]; exact hVn) (by rw [HD.out.lc]; exact (infT_shp n H).rows) 0 (HD.out.gc V hVn).1 (fun v' hv' hne => HD.out.cc V v' hVn (by rw [← HD.out.lc]; exact hv') hne)
        have hXH0 := HTH3.out.kept (gby_set w3 (bk bc V) T0 (.int .i64 0)) (HD.out.gc V hVn).2 (fun v' hv' => (HD.out.ch V v' hVn (by rw [← HD.out.lh]; exact hv')).symm)
        have hXH := hXH0.set (t := T0) (v := V) (by rw [HD.out.lh]; exact hVn) (by rw [HD.out.lh]; exact (infT_shp n H).rows) 0 (HD.out.gh V hVn).2 (fun v' hv' hne => HD.out.hh V v' hVn (by rw [← HD.out.lh]; exact hv') hne)
        have hXC2 := hXC.kept (gby_set _ (bk bh V) T0 (.int .i64 0)) (HD.out.gh V hVn).1 (fun v' hv' => HD.out.ch v' V (by rw [← HD.out.lc]; exact hv') hVn)
        have hbb4 : Below w1.heap.size w1 ((w3.setCell ⟨bk bc V, T0, none⟩ (.int .i64 0)).setCell ⟨bk bh V, T0, none⟩ (.int .i64 0)).drew := ((hbb3.setCell (p := ⟨bk bc V, T0, none⟩) (HGE.out V hVn).1 _).setCell (p := ⟨bk bh V, T0, none⟩) (HGE.out V hVn).2 _).drew
        have hC4 := hXC2.below (Below.refl _ _).drew
        have hH4 := hXH.below (Below.refl _ _).drew
        obtain ⟨w4, hw4⟩ : ∃ x, x = ((w3.setCell ⟨bk bc V, T0, none⟩ (.int .i64 0)).setCell ⟨bk bh V, T0, none⟩ (.int .i64 0)).drew := ⟨_, rfl⟩
        rw [← hw4] at hbb4 hC4 hH4 ⊢
        clear hw4 hXC hXH0 hXH hXC2 hbb3 HTC3 HTH3 s1 s2 s3 s4 c0 c1 d0 d1 fC fH hne1 hne2 hne3
        have hTt : ∀ v' t', v' < n → t' < H → tat (tset (infT n H) V T0 0) v' t' = firstT g (V : Int) (T0 : Int) v' t' := fun v' t' h1 h2 => by
          rw [tat_set (infT_shp n H) hVn hTH]
          unfold firstT
          by_cases e : v' = V ∧ t' = T0
          · rw [if_pos e, if_pos ⟨HAlv.out, by rw [e.1], by rw [e.2]⟩]
          · rw [if_neg e, if_neg (fun h => e ⟨by omega, by omega⟩), infT_at n H v' t' h1 h2]
        have HSh := hideg (shp_set (infT_shp n H) hVn T0 0)
        obtain ⟨X0, hX0⟩ : ∃ X, X = tset (infT n H) V T0 0 := ⟨_, rfl⟩
        rw [← hX0] at hC4 hH4 hTt HSh
        have HTt := hideg hTt
        have HTC3 := hideg hC4
        have HTH3 := hideg hH4
        have hbb3 := hbb4
        clear hTt hX0 hC4 hH4 hbb4
        go_wp2_with fail
        have hmf : ∀ (fn : Fn) (first cap : Array Value) (w : World), (Instr.makeFunc fn first cap).run Try.prog w = .ok (.func fn first cap) w := fun _ _ _ _ => rfl
        have eg : ∀ args w, (callFunc 36 args).run Try.prog w = .ok (.enter 36 args) w := enters_of Try.func36 (by kernel_rfl) rfl
        have HokC : Hid (∀ a ∈ allA g id H, JOk n H a) := by intro a ha; have := allA_ok HRt.out (pr := id) (fun c h0 h1 => ⟨h0, h1⟩) H (by rw [HHi.out]; omega) a ha; rw [← HN.out, ← HHd.out] at this; exact this
        have HokH : Hid (∀ a ∈ allA g (fun _ => 1) H, JOk n H a) := by intro a ha; have := allA_ok HRt.out (pr := fun _ => 1) (fun c h0 h1 => ⟨by omega, by omega⟩) H (by rw [HHi.out]; omega) a ha; rw [← HN.out, ← HHd.out] at this; exact this
        have Hf0 : Hid (∀ v' t', v' < n → t' < H → 0 ≤ firstT g (V : Int) (T0 : Int) v' t') := fun v' t' _ _ => firstT_lo g _ _ v' t'
        have Hf1 : Hid (∀ v' t', v' < n → t' < H → firstT g (V : Int) (T0 : Int) v' t' ≤ 1099511627776) := fun v' t' _ _ => firstT_hi g _ _ v' t'
        have HS0 := hideg (ss_box HTC3.out HTH3.out HD.out hbb3 true)
        have HSum : Hid (∀ X Y, JBest n H (firstT g (V : Int) (T0 : Int)) (allA g id H) X → JBest n H (firstT g (V : Int) (T0 : Int)) (allA g (fun _ => 1) H) Y → Tm n H X → Tm n H Y → Pr n H X Y → SumIs g (V : Int) (T0 : Int) X Y) := by
          intro X Y h1 h2 h3 h4 h5
          rw [HN.out, HHd.out] at h1 h2 h3 h4 h5
          exact ⟨h1, h2, h3, h4, h5⟩
        have HJ0 : Hid (∀ arcs, JMid n H (firstT g (V : Int) (T0 : Int)) arcs X0) := fun arcs => jmid_first HSh.out HTt.out
        have HT0 : Hid (Tm n H X0) := tm_first HTt.out (firstT_two g _ _)
        have HBw : Hid (∀ W, Below w1.heap.size w1 W → Below w.heap.size w W) := fun W h => (HB1.out.below h).bel
        clear hbb3 HTC3 HTH3 HSh HTt
        go_loopw [12] (fun pm wr => ∃ (Bm : Nat) (X Y : Tb) (ch : Bool), pm = .pointer (some ⟨Bm, 0, none⟩) ∧ SS w1 n H goC goH bc bh Bm X Y ch wr ∧ JMid n H (firstT g (V : Int) (T0 : Int)) (allA g id H) X ∧ JMid n H (firstT g (V : Int) (T0 : Int)) (allA g (fun _ => 1) H) Y ∧ Tm n H X ∧ Tm n H Y ∧ Pr n H X Y ∧ (ch = false → JBest n H (firstT g (V : Int) (T0 : Int)) (allA g id H) X ∧ JBest n H (firstT g (V : Int) (T0 : Int)) (allA g (fun _ => 1) H) Y)) (fun pm wr => 2 * (tsum (rdT wr bc H) + tsum (rdT wr bh H)) + flagAt wr pm)
        case atStart => exact ⟨w4.heap.size, X0, X0, true, rfl, HS0.out, HJ0.out _, HJ0.out _, HT0.out, HT0.out, pr_self n H X0, fun h => by cases h⟩
        case round =>
          clear HS0 HJ0 HT0
          obtain ⟨Bm, X, Y, ch, rfl, hS, hMX, hMY, hTX, hTY, hP, hBest⟩ := hrel
          have cm := hS.cell
          have fm := hS.frz
          cases ch with
          | false =>
            obtain ⟨bX, bY⟩ := hBest rfl
            have HR := hideg (HSum.out X Y bX bY hTX hTY hP)
            have HS := hideg hS
            clear hS hMX hMY hTX hTY hP hBest bX bY
            go_wp2
            go_ret2
            exact ⟨goC, cC, goH, cH, bc, bh, X, Y, rfl, HS.out.c.base HB1.out.bel.size, HS.out.y.base HB1.out.bel.size, HD.out.lc, HD.out.lh, HR.out, HBw.out _ HS.out.bel⟩
          | true =>
            have hS5 := hS.clear HD.out false
            have hR0 : RS w1 n H goC goH bc bh Bm (firstT g (V : Int) (T0 : Int)) (allA g id H) (allA g (fun _ => 1) H) X Y [] [] (wr.setCell ⟨Bm, 0, none⟩ (.bool false)) := ⟨X, Y, false, false, hS5, tn_start hMX, tn_start hMY, hTX, hTY, hP⟩
            have HR0 := hideg hR0
            have hmeas : 2 * (tsum (rdT wr bc H) + tsum (rdT wr bh H)) + flagAt wr (.pointer (some ⟨Bm, 0, none⟩)) = 2 * (tsum X + tsum Y) + 1 := by
              rw [hS.c.rd (by rw [hMX.shp.rows, HD.out.lc]), hS.y.rd (by rw [hMY.shp.rows, HD.out.lh]), hS.flag]; rfl
            have HMs := hideg hmeas
            clear hS hS5 hMX hMY hTX hTY hP hBest hR0 hmeas
            obtain ⟨w5, hw5⟩ : ∃ x, x = wr.setCell ⟨Bm, 0, none⟩ (.bool false) := ⟨_, rfl⟩
            rw [← hw5] at HR0
            have hw5s := hw5.symm
            clear hw5
            go_wp2_with fail
            clear hw5s
            go_loopw [14] (fun tt wr => ∃ k : Nat, k ≤ H ∧ tt = .int .i64 k ∧ RS w1 n H goC goH bc bh Bm (firstT g (V : Int) (T0 : Int)) (allA g id H) (allA g (fun _ => 1) H) X Y (allA g id k) (allA g (fun _ => 1) k) wr) (fun tt _ => H - (intOf tt).toNat)
            case atStart => exact ⟨0, Nat.zero_le _, rfl, HR0.out⟩
            case round =>
              clear HR0
              obtain ⟨k, hk, rfl, hRS⟩ := hrel
              have hbk : Below w1.heap.size w1 wr := by obtain ⟨_, _, _, _, S, _⟩ := hRS; exact S.bel
              obtain ⟨b0, b1, b2⟩ := HBX.out wr hbk
              have HRS := hideg hRS
              by_cases hkH : k < H
              · obtain ⟨wa, hwa⟩ : ∃ x, x = wr := ⟨_, rfl⟩
                rw [← hwa] at HRS b0 b1 b2 ⊢
                clear hRS hwa hbk
                have hkw : IntKind.i64.wrap ((k : Int) + 1) = (k : Int) + 1 := wrap_nr _ (by omega) (by omega)
                have HSt5 : Hid (RS w1 n H goC goH bc bh Bm (firstT g (V : Int) (T0 : Int)) (allA g id H) (allA g (fun _ => 1) H) X Y (allA g id k ++ waitA g k 0) (allA g (fun _ => 1) k ++ waitA g k 0) wa) := by
                  show RS _ _ _ _ _ _ _ _ _ _ _ _ _ _ _ _
                  rw [waitA, List.append_nil, List.append_nil]; exact HRS.out
                clear HRS
                go_wp2_with fail
                go_loopw [15] (fun vv wr => ∃ j : Nat, j ≤ n ∧ vv = .int .i64 j ∧ RS w1 n H goC goH bc bh Bm (firstT g (V : Int) (T0 : Int)) (allA g id H) (allA g (fun _ => 1) H) X Y (allA g id k ++ waitA g k j) (allA g (fun _ => 1) k ++ waitA g k j) wr) (fun vv _ => n - (intOf vv).toNat)
                case atStart => exact ⟨0, Nat.zero_le _, rfl, HSt5.out⟩
                case round =>
                  clear HSt5 b0 b1 b2
                  obtain ⟨j, hj, rfl, hRS⟩ := hrel
                  have hbk : Below w1.heap.size w1 wr := by obtain ⟨_, _, _, _, S, _⟩ := hRS; exact S.bel
                  obtain ⟨b0, b1, b2⟩ := HBX.out wr hbk
                  by_cases hjn : j < n
                  · obtain ⟨P, Q, cC', cH', hS, hTC, hTH, hTP, hTQ, hPQ⟩ := hRS
                    have c0 := hS.c.out j (by rw [HD.out.lc]; exact hjn)
                    have c1 := hS.c.cell (t := k) (by rw [HD.out.lc]; exact hjn) hkH
                    have hjl : j < g.lives.length := by rw [← HN.out]; exact hjn
                    have hji : (j : Int) < (n : Int) := by omega
                    have hki : (k : Int) < (H : Int) := by omega
                    have HS := hideg hS
                    have HTC := hideg hTC
                    have HTH := hideg hTH
                    have HTP := hideg hTP
                    have HTQ := hideg hTQ
                    have HPQ := hideg hPQ
                    clear hS hTC hTH hTP hTQ hPQ
                    by_cases hinf : tat P j k < 1099511627776
                    · have d1 : decide (tat P j k < 1099511627776) = true := by simpa using hinf
                      have hne : tat P j k ≠ 1099511627776 := by omega
                      by_cases hk1 : k + 1 < H
                      · have d2 : decide ((k : Int) + 1 < (H : Int)) = true := by simp; omega
                        have hA := HAl.out j ((k : Int) + 1) wr hjn hbk
                        cases hal : aliveB ((k : Int) + 1) g.lives (j : Int) with
                        | false =>
                          have HW := hideg (waitA_no (g := g) (t := k) (k := j) (fun h => by rw [hal] at h; cases h.2))
                          rw [hal] at hA
                          clear hal
                          go_wp2_with fail
                          refine hA.mono ?_
                          rintro r w6 ⟨rfl, hb6⟩
                          have HRn : Hid (RS w1 n H goC goH bc bh Bm (firstT g (V : Int) (T0 : Int)) (allA g id H) (allA g (fun _ => 1) H) X Y (allA g id k ++ waitA g k (j + 1)) (allA g (fun _ => 1) k ++ waitA g k (j + 1)) w6) := by
                            show RS _ _ _ _ _ _ _ _ _ _ _ _ _ _ _ _
                            rw [HW.out, List.append_nil]; exact ⟨P, Q, cC', cH', HS.out.below hb6, HTC.out, HTH.out, HTP.out, HTQ.out, HPQ.out⟩
                          clear hA hb6 c0 c1 b0 b1 b2
                          go_wp2
                          go_roundw
                          case rel => exact ⟨j + 1, by omega, by go_num, HRn.out⟩
                          case measure => simp [intOf]; omega
                        | true =>
                          have hcond : ((k : Int) + 1 < g.hor) ∧ aliveB ((k : Int) + 1) g.lives (j : Int) = true := ⟨by rw [HHi.out]; omega, hal⟩
                          have HW := hideg (waitA_yes hcond)
                          have HmC := hideg (wait_mem (pr := id) (H := H) hkH hjl hcond)
                          have HmH := hideg (wait_mem (pr := fun _ => 1) (H := H) hkH hjl hcond)
                          rw [hal] at hA
                          clear hal hcond
                          go_wp2_with fail
                          refine hA.mono ?_
                          rintro r w6 ⟨rfl, hb6⟩
                          have S6 := HS.out.below hb6
                          obtain ⟨S7, RS8⟩ := ss_put S6 HTC.out HTH.out HTP.out HTQ.out HPQ.out HD.out HmC.out HmH.out HokC.out HokH.out Hf0.out ⟨rfl, rfl, rfl, rfl⟩ hH1.2 (show src P (j, k, j, k + 1, 0) ≠ 1099511627776 from hne) HGE.out
                          simp only [src, dst, Int.add_zero] at S7 RS8
                          have hp1 := sums1_any w1.heap.size goC cC bc H P j (k + 1) (tat P j k) Bm _ w6 S6.c (by rw [HD.out.lc]; exact hjn) hk1 S6.m (S6.far.2.2 j hjn).1
                          have hp2 := sums1_any w1.heap.size goH cH bh H Q j (k + 1) (tat Q j k) Bm _ _ S7.y (by rw [HD.out.lh]; exact hjn) hk1 S7.m (S7.far.2.2 j hjn).2
                          rw [HD.out.lc, show ((k + 1 : Nat) : Int) = (k : Int) + 1 from by omega] at hp1
                          rw [HD.out.lh, show ((k + 1 : Nat) : Int) = (k : Int) + 1 from by omega] at hp2
                          have x0 := S6.c.out j (by rw [HD.out.lc]; exact hjn)
                          have x1 := S6.c.cell (t := k) (by rw [HD.out.lc]; exact hjn) hkH
                          have y0 := S7.y.out j (by rw [HD.out.lh]; exact hjn)
                          have y1 := S7.y.cell (t := k) (by rw [HD.out.lh]; exact hjn) hkH
                          have HS7 := hideg S7
                          rw [List.append_assoc, List.append_assoc, ← HW.out] at RS8
                          have HRn := hideg RS8
                          generalize putW w6 (bk bc j) (k + 1) Bm (tat P j k) (tat P j (k + 1)) = w7 at *
                          clear hA hb6 c0 c1 b0 b1 b2 S6 S7 RS8
                          go_wp2_with fail
                          go_at_fn 36
                          refine hp1.mono ?_
                          rintro r w7' ⟨rfl, hw7⟩
                          have hw7s := hw7.symm
                          subst hw7s
                          clear hw7 hp1 x0 x1
                          go_wp2_with fail
                          go_at_fn 36
                          refine hp2.mono ?_
                          rintro r w8 ⟨rfl, hw8⟩
                          rw [← hw8] at HRn
                          clear hw8 hp2 y0 y1
                          go_wp2
                          go_roundw
                          case rel => exact ⟨j + 1, by omega, by go_num, HRn.out⟩
                          case measure => simp [intOf]; omega
                      · have d2 : decide ((k : Int) + 1 < (H : Int)) = false := by simp; omega
                        have HW := hideg (waitA_no (g := g) (t := k) (k := j) (fun h => by have := h.1; rw [HHi.out] at this; omega))
                        have HRn : Hid (RS w1 n H goC goH bc bh Bm (firstT g (V : Int) (T0 : Int)) (allA g id H) (allA g (fun _ => 1) H) X Y (allA g id k ++ waitA g k (j + 1)) (allA g (fun _ => 1) k ++ waitA g k (j + 1)) wr) := by
                          show RS _ _ _ _ _ _ _ _ _ _ _ _ _ _ _ _
                          rw [HW.out, List.append_nil]; exact ⟨P, Q, cC', cH', HS.out, HTC.out, HTH.out, HTP.out, HTQ.out, HPQ.out⟩
                        go_wp2
                        go_roundw
                        case rel => exact ⟨j + 1, by omega, by go_num, HRn.out⟩
                        case measure => simp [intOf]; omega
                    · have d1 : decide (tat P j k < 1099511627776) = false := by simpa using hinf
                      have hPi : tat P j k = 1099511627776 := by rcases HTP.out j k hjn hkH with e | e; exact e; omega
                      have hQi : tat Q j k = 1099511627776 := (HPQ.out j k hjn hkH).1 hPi
                      have HRn : Hid (RS w1 n H goC goH bc bh Bm (firstT g (V : Int) (T0 : Int)) (allA g id H) (allA g (fun _ => 1) H) X Y (allA g id k ++ waitA g k (j + 1)) (allA g (fun _ => 1) k ++ waitA g k (j + 1)) wr) := by
                        show RS _ _ _ _ _ _ _ _ _ _ _ _ _ _ _ _
                        by_cases hcond : ((k : Int) + 1 < g.hor) ∧ aliveB ((k : Int) + 1) g.lives (j : Int) = true
                        · rw [waitA_yes hcond, ← List.append_assoc, ← List.append_assoc]
                          exact ⟨P, Q, cC', cH', HS.out, tn_inf HTC.out (HokC.out _ (wait_mem hkH hjl hcond)) Hf1.out hPi, tn_inf HTH.out (HokH.out _ (wait_mem hkH hjl hcond)) Hf1.out hQi, HTP.out, HTQ.out, HPQ.out⟩
                        · rw [waitA_no hcond, List.append_nil]; exact ⟨P, Q, cC', cH', HS.out, HTC.out, HTH.out, HTP.out, HTQ.out, HPQ.out⟩
                      clear hinf hPi hQi
                      go_wp2
                      go_roundw
                      case rel => exact ⟨j + 1, by omega, by go_num, HRn.out⟩
                      case measure => simp [intOf]; omega
                  · clear b0 b1 b2
                    have hje : n = j := by omega
                    subst hje
                    obtain ⟨b0, b1, b2⟩ := HBX.out wr hbk
                    have HRS := hideg hRS
                    obtain ⟨wa2, hwa2⟩ : ∃ x, x = wr := ⟨_, rfl⟩
                    rw [← hwa2] at HRS b0 b1 b2 ⊢
                    clear hRS hwa2 hbk
                    have HSt6 : Hid (RS w1 n H goC goH bc bh Bm (firstT g (V : Int) (T0 : Int)) (allA g id H) (allA g (fun _ => 1) H) X Y (allA g id k ++ (waitA g k n ++ legA g id k 0)) (allA g (fun _ => 1) k ++ (waitA g k n ++ legA g (fun _ => 1) k 0)) wa2) := by
                      show RS _ _ _ _ _ _ _ _ _ _ _ _ _ _ _ _
                      rw [legA, legA, List.append_nil]; exact HRS.out
                    clear HRS
                    go_wp2_with fail
                    go_loopw [16] (fun ii wr => ∃ i : Nat, i ≤ g.edges.length ∧ ii = .int .i64 i ∧ RS w1 n H goC goH bc bh Bm (firstT g (V : Int) (T0 : Int)) (allA g id H) (allA g (fun _ => 1) H) X Y (allA g id k ++ (waitA g k n ++ legA g id k i)) (allA g (fun _ => 1) k ++ (waitA g k n ++ legA g (fun _ => 1) k i)) wr) (fun ii _ => g.edges.length - (intOf ii).toNat)
                    case atStart => exact ⟨0, Nat.zero_le _, rfl, HSt6.out⟩
                    case round =>
                      clear HSt6 b0 b1 b2
                      obtain ⟨i, hi6, rfl, hRS⟩ := hrel
                      have hbk : Below w1.heap.size w1 wr := by obtain ⟨_, _, _, _, S, _⟩ := hRS; exact S.bel
                      obtain ⟨b0, b1, b2⟩ := HBX.out wr hbk
                      by_cases hie : i < g.edges.length
                      · rcases (HG.out.below (HB1.out.below hbk).bel).ed with h0 | ⟨eb, eo, rfl, hebr, hec⟩
                        · rw [h0] at hie; simp at hie
                        obtain ⟨c0, c1, lo, lcap, c2, _⟩ := hec i hie
                        obtain ⟨hA, hB, _⟩ := HRt.out.ends g.edges[i] (List.getElem_mem hie)
                        obtain ⟨A, eA⟩ : ∃ A : Nat, g.edges[i].1 = (A : Int) := ⟨g.edges[i].1.toNat, by omega⟩
                        obtain ⟨B, eB⟩ : ∃ A : Nat, g.edges[i].2.1 = (A : Int) := ⟨g.edges[i].2.1.toNat, by omega⟩
                        have hAn : A < n := by have := HN.out; omega
                        have hBn : B < n := by have := HN.out; omega
                        have hii : (i : Int) < (g.edges.length : Int) := by omega
                        have hAi : (A : Int) < (n : Int) := by omega
                        have hBi : (B : Int) < (n : Int) := by omega
                        have hki : (k : Int) < (H : Int) := by omega
                        rw [eA] at c0
                        rw [eB] at c1
                        generalize hll : g.edges[i].2.2.length = ll at c2
                        have gx := pal wr (.cells #[.int .i64 (A : Int), .int .i64 (B : Int), .slice lo ll lcap] 51)
                        have hL := HLd.out i (k : Int) _ hie (hbk.trans (gx.mono hbk.size))
                        have hx0 : (wr.alloc (.cells #[.int .i64 (A : Int), .int .i64 (B : Int), .slice lo ll lcap] 51)).cell? ⟨wr.heap.size, 0, none⟩ = some (.int .i64 (A : Int)) := by simp
                        have hx1 : (wr.alloc (.cells #[.int .i64 (A : Int), .int .i64 (B : Int), .slice lo ll lcap] 51)).cell? ⟨wr.heap.size, 1, none⟩ = some (.int .i64 (B : Int)) := by simp
                        have hz6 : (wr.alloc (.cells #[.int .i64 (A : Int), .int .i64 (B : Int), .slice lo ll lcap] 51)).heap.size = wr.heap.size + 1 := by simp
                        obtain ⟨z0, z1, z2⟩ := HBX.out _ (hbk.trans (gx.mono hbk.size))
                        have HZ : Hid (∀ W, Below (wr.alloc (.cells #[.int .i64 (A : Int), .int .i64 (B : Int), .slice lo ll lcap] 51)).heap.size (wr.alloc (.cells #[.int .i64 (A : Int), .int .i64 (B : Int), .slice lo ll lcap] 51)) W → Below wr.heap.size wr W ∧ W.cell? ⟨wr.heap.size, 0, none⟩ = some (.int .i64 (A : Int)) ∧ W.cell? ⟨wr.heap.size, 1, none⟩ = some (.int .i64 (B : Int)) ∧ wr.heap.size < W.heap.size) := fun W h => ⟨ptw gx h, (h.cell (p := ⟨wr.heap.size, 0, none⟩) (by simp)).trans hx0, (h.cell (p := ⟨wr.heap.size, 1, none⟩) (by simp)).trans hx1, by have := h.size; rw [hz6] at this; omega⟩
                        have HRS := hideg hRS
                        unfold landsV at hL
                        clear hec hebr hA hB gx hRS hx0 hx1 hz6 hbk
                        obtain ⟨w6, hw6⟩ : ∃ x, x = wr.alloc (.cells #[.int .i64 (A : Int), .int .i64 (B : Int), .slice lo ll lcap] 51) := ⟨_, rfl⟩
                        rw [← hw6] at hL HZ z0 z1 z2
                        have hw6s := hw6.symm
                        clear hw6
                        cases hs : lands g g.edges[i] (k : Int) with
                        | none =>
                          have HW := hideg (legA_no (pr := id) hie hs)
                          have HW' := hideg (legA_no (pr := fun _ => 1) hie hs)
                          rw [hs] at hL
                          simp only [Option.getD_none, Option.isSome_none] at hL
                          clear hs eA eB hll
                          go_wp2_with fail
                          clear hw6s
                          refine hL.mono ?_
                          rintro r w7 ⟨rfl, hb7⟩
                          have HRn : Hid (RS w1 n H goC goH bc bh Bm (firstT g (V : Int) (T0 : Int)) (allA g id H) (allA g (fun _ => 1) H) X Y (allA g id k ++ (waitA g k n ++ legA g id k (i + 1))) (allA g (fun _ => 1) k ++ (waitA g k n ++ legA g (fun _ => 1) k (i + 1))) w7) := by
                            show RS _ _ _ _ _ _ _ _ _ _ _ _ _ _ _ _
                            rw [HW.out, HW'.out, List.append_nil, List.append_nil]; exact HRS.out.below (HZ.out _ hb7).1
                          clear hL hb7 b0 b1 b2 c0 c1 c2 z0 z1 z2
                          go_wp2
                          go_roundw
                          case rel => exact ⟨i + 1, by omega, by go_num, HRn.out⟩
                          case measure => simp [intOf]; omega
                        | some q =>
                          have HW := hideg (legA_yes (pr := id) hie hs)
                          have HW' := hideg (legA_yes (pr := fun _ => 1) hie hs)
                          have HmC := hideg (leg_mem (pr := id) (H := H) hkH hie hs)
                          have HmH := hideg (leg_mem (pr := fun _ => 1) (H := H) hkH hie hs)
                          obtain ⟨to, pc⟩ := q
                          rw [hs] at hL
                          simp only [Option.getD_some, Option.isSome_some] at hL
                          clear hs
                          rw [eA, eB] at HW HW' HmC HmH
                          simp only [Int.toNat_natCast] at HW HW' HmC HmH
                          have okC := HokC.out _ HmC.out
                          have ok1 := okC.t'
                          have ok2 := okC.lt
                          have ok3 := okC.p0
                          have ok4 := okC.p1
                          simp only [id] at ok1 ok2 ok3 ok4
                          obtain ⟨T, rfl⟩ : ∃ T : Nat, to = (T : Int) := ⟨to.toNat, by omega⟩
                          simp only [Int.toNat_natCast] at HW HW' HmC HmH ok1 ok2
                          have hTi : (T : Int) < (H : Int) := by omega
                          clear okC eA eB hll
                          go_wp2_with fail
                          clear hw6s
                          refine hL.mono ?_
                          rintro r w7 ⟨rfl, hb7⟩
                          obtain ⟨hb67, y0, y1, yl⟩ := HZ.out _ hb7
                          have hfar : bk bc B < wr.heap.size ∧ Bm < wr.heap.size := by obtain ⟨_, _, _, _, S0, _⟩ := HRS.out; exact ⟨(World.ownsRow.lt (S0.c.inn B (by rw [HD.out.lc]; exact hBn)) _ rfl).2, S0.lt⟩
                          obtain ⟨P, Q, cC', cH', hS, hTC, hTH, hTP, hTQ, hPQ⟩ := HRS.out.below hb67
                          have x0 := hS.c.out A (by rw [HD.out.lc]; exact hAn)
                          have x1 := hS.c.cell (t := k) (by rw [HD.out.lc]; exact hAn) hkH
                          have HS := hideg hS
                          have HTC := hideg hTC
                          have HTH := hideg hTH
                          have HTP := hideg hTP
                          have HTQ := hideg hTQ
                          have HPQ := hideg hPQ
                          clear hS hTC hTH hTP hTQ hPQ hL hb7 b0 b1 b2 c0 c1 c2 z0 z1 z2 HZ HRS
                          by_cases hinf : tat P A k < 1099511627776
                          · have d1 : decide (tat P A k < 1099511627776) = true := by simpa using hinf
                            have hne : tat P A k ≠ 1099511627776 := by omega
                            have hPlo : 0 ≤ tat P A k ∧ tat P A k ≤ 1000 * (k : Int) := by rcases HTP.out A k hAn hkH with e | e; exact absurd e hne; exact e
                            have hQne : tat Q A k ≠ 1099511627776 := fun e => hne ((HPQ.out A k hAn hkH).2 e)
                            have hQlo : 0 ≤ tat Q A k ∧ tat Q A k ≤ 1000 * (k : Int) := by rcases HTQ.out A k hAn hkH with e | e; exact absurd e hQne; exact e
                            have hwP : IntKind.i64.wrap (tat P A k + pc) = tat P A k + pc := wrap_nr _ (by omega) (by omega)
                            have hwQ : IntKind.i64.wrap (tat Q A k + 1) = tat Q A k + 1 := wrap_nr _ (by omega) (by omega)
                            go_wp2_with fail
                            have lA := (World.ownsRow.lt (HS.out.c.inn A (by rw [HD.out.lc]; exact hAn)) _ rfl).2
                            have lgo := HS.out.c.lt
                            have hne2 : Nonempty (HeldIn w7) := ⟨⟨_, Below.refl _ _⟩⟩
                            have f0 : ∀ s : HeldIn w7, s.w.cell? ⟨wr.heap.size, 0, none⟩ = some (.int .i64 (A : Int)) := fun s => (s.h.cell (p := ⟨wr.heap.size, 0, none⟩) yl).trans y0
                            have f1 : ∀ s : HeldIn w7, s.w.cell? ⟨wr.heap.size, 1, none⟩ = some (.int .i64 (B : Int)) := fun s => (s.h.cell (p := ⟨wr.heap.size, 1, none⟩) yl).trans y1
                            have f2 := fun s : HeldIn w7 => (s.h.cell (p := ⟨goC, A, none⟩) lgo).trans x0
                            have f3 := fun s : HeldIn w7 => (s.h.cell (p := ⟨bk bc A, k, none⟩) lA).trans x1
                            refine wp_region_held_back _ (Below.refl _ _) (by kernel_rfl) (by simp) (by kernel_rfl) (by kernel_rfl) (by kernel_rfl) ?_
                            simp only [List.pop_toArray, List.dropLast, List.back!_toArray, List.getLast!]
                            repeat (go_big_quiet_step (fail))
                            refine wpQuiet_nil ?_
                            rintro _ ⟨s, rfl⟩
                            refine back_last (fun K hK => ?_)
                            go_simp
                            have S6 := HS.out.below s.h
                            have SP := S6.putC HD.out HTC.out.mid.shp.rows (v := B) (t := T) hBn (tat P A k + pc) (HGE.out B hBn).1
                            have hp1 := sums1_any w1.heap.size goC cC bc H P B T (tat P A k + pc) Bm _ s.w S6.c (by rw [HD.out.lc]; exact hBn) ok1 S6.m (S6.far.2.2 B hBn).1
                            rw [HD.out.lc] at hp1
                            have k0 := f0 s
                            have k1 := f1 s
                            have yls : wr.heap.size < s.w.heap.size := Nat.lt_of_lt_of_le yl s.h.size
                            refine hp1.mono ?_
                            rintro r w8 ⟨rfl, hw8⟩
                            refine hK.out _ _ ?_
                            have m0 : w8.cell? ⟨wr.heap.size, 0, none⟩ = some (.int .i64 (A : Int)) := by rw [hw8]; exact (putW_far _ _ _ _ _ _ yls (by omega) (by omega)).trans k0
                            have m1 : w8.cell? ⟨wr.heap.size, 1, none⟩ = some (.int .i64 (B : Int)) := by rw [hw8]; exact (putW_far _ _ _ _ _ _ yls (by omega) (by omega)).trans k1
                            have yl8 : wr.heap.size < w8.heap.size := by rw [hw8]; exact Nat.lt_of_lt_of_le yls (putW_size _ _ _ _ _ _)
                            rw [← hw8] at SP
                            have x0' := SP.y.out A (by rw [HD.out.lh]; exact hAn)
                            have x1' := SP.y.cell (t := k) (by rw [HD.out.lh]; exact hAn) hkH
                            have lA' := (World.ownsRow.lt (SP.y.inn A (by rw [HD.out.lh]; exact hAn)) _ rfl).2
                            have lgo' := SP.y.lt
                            have HS8 := hideg SP
                            clear hw8 hp1 SP S6 k0 k1 yls hK K f0 f1 f2 f3 hne2 y0 y1 yl x0 x1 lA lgo
                            clear s
                            have hne3 : Nonempty (HeldIn w8) := ⟨⟨_, Below.refl _ _⟩⟩
                            have f0 : ∀ s : HeldIn w8, s.w.cell? ⟨wr.heap.size, 0, none⟩ = some (.int .i64 (A : Int)) := fun s => (s.h.cell (p := ⟨wr.heap.size, 0, none⟩) yl8).trans m0
                            have f1 : ∀ s : HeldIn w8, s.w.cell? ⟨wr.heap.size, 1, none⟩ = some (.int .i64 (B : Int)) := fun s => (s.h.cell (p := ⟨wr.heap.size, 1, none⟩) yl8).trans m1
                            have f2 := fun s : HeldIn w8 => (s.h.cell (p := ⟨goH, A, none⟩) lgo').trans x0'
                            have f3 := fun s : HeldIn w8 => (s.h.cell (p := ⟨bk bh A, k, none⟩) lA').trans x1'
                            go_wp2_with fail
                            refine wp_region_held_back _ (Below.refl _ _) (by kernel_rfl) (by simp) (by kernel_rfl) (by kernel_rfl) (by kernel_rfl) ?_
                            simp only [List.pop_toArray, List.dropLast, List.back!_toArray, List.getLast!]
                            repeat (go_big_quiet_step (fail))
                            refine wpQuiet_nil ?_
                            rintro _ ⟨s, rfl⟩
                            refine back_last (fun K hK => ?_)
                            go_simp
                            have S9 := HS8.out.below s.h
                            have hRn := ss_putB (a := (A, k, B, T, pc)) (b := (A, k, B, T, 1)) S9 HTC.out HTH.out HTP.out HTQ.out HPQ.out HD.out HmC.out HmH.out HokC.out HokH.out Hf0.out ⟨rfl, rfl, rfl, rfl⟩ hH1.2 (show src P (A, k, B, T, pc) ≠ 1099511627776 from hne) HGE.out
                            have hp2 := sums1_any w1.heap.size goH cH bh H Q B T (tat Q A k + 1) Bm _ s.w S9.y (by rw [HD.out.lh]; exact hBn) ok1 S9.m (S9.far.2.2 B hBn).2
                            rw [HD.out.lh] at hp2
                            refine hp2.mono ?_
                            rintro r w9 ⟨rfl, hw9⟩
                            refine hK.out _ _ ?_
                            have HRn : Hid (RS w1 n H goC goH bc bh Bm (firstT g (V : Int) (T0 : Int)) (allA g id H) (allA g (fun _ => 1) H) X Y (allA g id k ++ (waitA g k n ++ legA g id k (i + 1))) (allA g (fun _ => 1) k ++ (waitA g k n ++ legA g (fun _ => 1) k (i + 1))) w9) := by
                              show RS _ _ _ _ _ _ _ _ _ _ _ _ _ _ _ _
                              rw [HW.out, HW'.out, ← List.append_assoc (waitA g k n), ← List.append_assoc (waitA g k n), ← List.append_assoc (allA g id k), ← List.append_assoc (allA g (fun _ => 1) k), hw9]
                              exact hRn
                            clear hw9 hp2 hRn S9 hK K f0 f1 f2 f3 hne3 m0 m1 yl8 x0' x1' lA' lgo'
                            clear s
                            go_wp2
                            go_roundw
                            case rel => exact ⟨i + 1, by omega, by go_num, HRn.out⟩
                            case measure => simp [intOf]; omega
                          · have d1 : decide (tat P A k < 1099511627776) = false := by simpa using hinf
                            have hPi : tat P A k = 1099511627776 := by rcases HTP.out A k hAn hkH with e | e; exact e; omega
                            have hQi : tat Q A k = 1099511627776 := (HPQ.out A k hAn hkH).1 hPi
                            have HRn : Hid (RS w1 n H goC goH bc bh Bm (firstT g (V : Int) (T0 : Int)) (allA g id H) (allA g (fun _ => 1) H) X Y (allA g id k ++ (waitA g k n ++ legA g id k (i + 1))) (allA g (fun _ => 1) k ++ (waitA g k n ++ legA g (fun _ => 1) k (i + 1))) w7) := by
                              show RS _ _ _ _ _ _ _ _ _ _ _ _ _ _ _ _
                              rw [HW.out, HW'.out, ← List.append_assoc, ← List.append_assoc, ← List.append_assoc, ← List.append_assoc]
                              exact ⟨P, Q, cC', cH', HS.out, tn_inf (by rw [List.append_assoc]; exact HTC.out) (HokC.out _ HmC.out) Hf1.out hPi, tn_inf (by rw [List.append_assoc]; exact HTH.out) (HokH.out _ HmH.out) Hf1.out hQi, HTP.out, HTQ.out, HPQ.out⟩
                            clear hinf hPi hQi
                            go_wp2
                            go_roundw
                            case rel => exact ⟨i + 1, by omega, by go_num, HRn.out⟩
                            case measure => simp [intOf]; omega
                      · have hil : g.edges.length = i := by omega
                        have HRn : Hid (RS w1 n H goC goH bc bh Bm (firstT g (V : Int) (T0 : Int)) (allA g id H) (allA g (fun _ => 1) H) X Y (allA g id (k + 1)) (allA g (fun _ => 1) (k + 1)) wr) := by
                          show RS _ _ _ _ _ _ _ _ _ _ _ _ _ _ _ _
                          rw [allA, allA, ← HN.out, hil]; exact hRS
                        have hd6 : decide ((i : Int) < (g.edges.length : Int)) = false := by simp; omega
                        clear hRS
                        go_wp2
                        go_roundw
                        case rel => exact ⟨k + 1, by omega, by go_num, HRn.out⟩
                        case measure => simp [intOf]; omega
              · have hke : H = k := by omega
                subst hke
                obtain ⟨P, Q, cC', cH', hS, hTC, hTH, hTP, hTQ, hPQ⟩ := hRS
                have cm := hS.cell
                have fm := hS.frz
                have HFin : Hid ((∃ (Bm : Nat) (X Y : Tb) (ch : Bool), Value.pointer (some ⟨wr.heap.size, 0, none⟩) = .pointer (some ⟨Bm, 0, none⟩) ∧ SS w1 n H goC goH bc bh Bm X Y ch (wr.alloc (.cells #[.bool (cC' || cH')] 4)) ∧ JMid n H (firstT g (V : Int) (T0 : Int)) (allA g id H) X ∧ JMid n H (firstT g (V : Int) (T0 : Int)) (allA g (fun _ => 1) H) Y ∧ Tm n H X ∧ Tm n H Y ∧ Pr n H X Y ∧ (ch = false → JBest n H (firstT g (V : Int) (T0 : Int)) (allA g id H) X ∧ JBest n H (firstT g (V : Int) (T0 : Int)) (allA g (fun _ => 1) H) Y)) ∧ 2 * (tsum (rdT (wr.alloc (.cells #[.bool (cC' || cH')] 4)) bc H) + tsum (rdT (wr.alloc (.cells #[.bool (cC' || cH')] 4)) bh H)) + flagAt (wr.alloc (.cells #[.bool (cC' || cH')] 4)) (.pointer (some ⟨wr.heap.size, 0, none⟩)) < 2 * (tsum X + tsum Y) + 1) := by
                  have SB := ss_box hS.c hS.y HD.out hS.bel (cC' || cH')
                  refine ⟨⟨wr.heap.size, P, Q, cC' || cH', rfl, SB, hTC.mid, hTH.mid, hTP, hTQ, hPQ, fun hf => ?_⟩, ?_⟩
                  · rw [Bool.or_eq_false_iff] at hf
                    obtain ⟨rfl, rfl⟩ := hf
                    exact ⟨tn_end hTC, tn_end hTH⟩
                  · rw [SB.c.rd (by rw [hTC.mid.shp.rows, HD.out.lc]), SB.y.rd (by rw [hTH.mid.shp.rows, HD.out.lh]), SB.flag]
                    have s1 := hTC.sum
                    have s2 := hTH.sum
                    cases cC' with
                    | true => have := hTC.less rfl; simp; omega
                    | false =>
                      cases cH' with
                      | true => have := hTH.less rfl; simp; omega
                      | false => simp; omega
                clear hS hTC hTH hTP hTQ hPQ
                go_wp2_with fail
                rw [HMs.out]
                exact HFin.out

end Go.Proofs.Ytanbbkoleekmjac
