/-
  What soonest of the program answers: from each vertex at each time of its life, when one comes to an end.
-/
import Derived.Test.YtanbbkoleekmjagRwRows
import Derived.Test.YtanbbkoleekmjagPfMath
import Derived.Test.YtanbbkoleekmjagErC
namespace Go.Proofs.Ytanbbkoleekmjag
open Go.RowKit

/-- what soonest holds while it looks at the rides -/
structure PfSt (w1 W : World) (go n h : Nat) (bl : List (Nat × Nat)) (T : Tb) (m3 : Nat) (u : Value) (rides : List Ri) : Prop where
  m : RM w1.heap.size 30 3 go n h W bl (tbV T)
  r : W.ownsRow m3 66 6 u rides.length (encRs rides)
  b : Below w1.heap.size w1 W
theorem PfSt.below {w1 W W' : World} {go n h : Nat} {bl : List (Nat × Nat)} {T : Tb} {m3 : Nat} {u : Value} {rides : List Ri} (S : PfSt w1 W go n h bl T m3 u rides) (hb : Below W.heap.size W W') : PfSt w1 W' go n h bl T m3 u rides :=
  ⟨S.m.below hb, ownsRow_below S.r hb, S.b.trans (hb.mono S.b.size)⟩
theorem PfSt.set {w1 W : World} {go n h : Nat} {bl : List (Nat × Nat)} {T : Tb} {m3 : Nat} {u : Value} {rides : List Ri} (S : PfSt w1 W go n h bl T m3 u rides) {v : Nat} (hv : v < bl.length) (hT : v < T.length) (t : Nat) (x : Int) : PfSt w1 (W.setCell ⟨bk bl v, t, none⟩ (.int .i64 x)) go n h bl (T.set v ((T.getD v []).set t x)) m3 u rides := by
  refine ⟨?_, ownsRow_setCell_other S.r ?_ _, S.b.setCell (p := ⟨bk bl v, t, none⟩) (S.m.ltI hv).1 _⟩
  · have := S.m.set (by decide) hv t (.int .i64 x)
    rw [tbV_set hT, List.map_set]
    exact this
  · rcases su_apart S.r (S.m.inn v hv) (by decide) with e | e
    · rw [e]; intro h; cases h
    · exact e
theorem PfSt.ride {w1 W : World} {go n h : Nat} {bl : List (Nat × Nat)} {T : Tb} {m3 : Nat} {u : Value} {rides : List Ri} (S : PfSt w1 W go n h bl T m3 u rides) {k : Nat} (hk : k < rides.length) : ∃ rb cap, u = .slice (some ⟨rb, 0, none⟩) rides.length cap ∧ rb < W.heap.size ∧ RdOne W rb (k * 6) (rides.getD k ri0) := by
  have hr := S.r
  rcases hr.2 with ⟨_, h0⟩ | ⟨rb, cap, cur, e, _, hh, _⟩
  · omega
  · rw [e] at hr
    exact ⟨rb, cap, e, (Array.getElem?_eq_some_iff.1 hh).1, Ro.one hr hk⟩
theorem PfSt.cell {w1 W : World} {go n h : Nat} {bl : List (Nat × Nat)} {T : Tb} {m3 : Nat} {u : Value} {rides : List Ri} (S : PfSt w1 W go n h bl T m3 u rides) {v t : Nat} (hv : v < bl.length) (ht : t < h) : W.cell? ⟨bk bl v, t, none⟩ = some (.int .i64 (tat T v t)) := (rm_tab S.m).cell hv ht
theorem tbV_inf (n h v : Nat) (hv : v < n) : tbV (List.replicate n (List.replicate h (1099511627776 : Int))) v = (List.replicate h (1099511627776 : Int)).map (Value.int .i64) := by
  unfold tbV; rw [List.getD_eq_getElem?_getD, List.getElem?_replicate, if_pos hv]; rfl
theorem life_get {g : Gr} {v : Nat} (hv : v < g.lives.length) : g.lives.getD v (0, 0) = g.lives[v] := by simp [List.getD_eq_getElem?_getD, hv]

theorem tbV_first (n h Q F : Nat) (hQ : Q < n) (v : Nat) (hv : v < n) : tbV ((List.replicate n (List.replicate h (1099511627776 : Int))).set Q (pfRow h F F)) v = (List.replicate h (1099511627776 : Int)).map (Value.int .i64) := by
  rw [tbV_set (by simpa using hQ), pfRow_first]
  unfold upF
  split
  · rfl
  · exact tbV_inf n h v hv
theorem set_set_row (T : Tb) (v : Nat) (r r' : List Int) : (T.set v r).set v r' = T.set v r' := by rw [List.set_set]
theorem row_set (T : Tb) (v : Nat) (r : List Int) (hv : v < T.length) : (T.set v r).getD v [] = r := by rw [getD_set_row _ _ _ _ hv, if_pos rfl]

set_option maxRecDepth 100000 in
set_option maxHeartbeats 1000000 in
theorem soonest_any (g : Gr) (la ea : Option Addr) (lc ec : Nat) (Q : Nat) (w : World) (hG : GAt w la ea g) (hR : Right g) (hQ : Q < g.lives.length) :
    Calls Try.prog 34 #[.agg #[.int .i64 g.hor, .slice la g.lives.length lc, .slice ea g.edges.length ec], .int .i64 (Q : Int)] w fun r w' => ∃ go bl, r = .returned (.slice (some ⟨go, 0, none⟩) g.lives.length g.lives.length) ∧ bl.length = g.lives.length ∧ TabM w' w.heap.size go bl g.hor.toNat (pfF g Q) ∧ Below w.heap.size w w' := by
  obtain ⟨i0, hi, hz0, hz1, hz2⟩ := info_parts Try.infoInts
  have hn12 := hR.lvs
  have hhor := hR.hor
  obtain ⟨H, hH⟩ : ∃ H : Nat, g.hor = (H : Int) := ⟨g.hor.toNat, by omega⟩
  have hHn : g.hor.toNat = H := by omega
  have hH1 : 1 ≤ H ∧ H ≤ 100 := by omega
  obtain ⟨w1, hw1⟩ : ∃ x, x = w.alloc (.cells #[.int .i64 g.hor, .slice la g.lives.length lc, .slice ea g.edges.length ec] 25) := ⟨_, rfl⟩
  have B1 : GBx w w1 w.heap.size g la ea lc ec := by rw [hw1]; exact gbx_start w g la ea lc ec 25
  have hs1 : w1.heap.size = w.heap.size + 1 := by rw [hw1]; simp
  have HGx : Hid (∀ W, Below w1.heap.size w1 W → W.cell? ⟨w.heap.size, 0, none⟩ = some (.int .i64 (H : Int)) ∧ W.cell? ⟨w.heap.size, 1, none⟩ = some (.slice la g.lives.length lc) ∧ W.cell? ⟨w.heap.size, 2, none⟩ = some (.slice ea g.edges.length ec) ∧ GAt W la ea g) := by
    intro W hb
    have B := B1.below hb
    exact ⟨by rw [B.c0, hH], B.c1, B.c2, hG.below B.bel⟩
  obtain ⟨F, hF⟩ : ∃ F : Nat, g.lives[Q].1 = (F : Int) := ⟨g.lives[Q].1.toNat, by have := (hR.life _ (List.getElem_mem hQ)).1; omega⟩
  obtain ⟨E, hE⟩ : ∃ E : Nat, g.lives[Q].2 = (E : Int) := ⟨g.lives[Q].2.toNat, by have := hR.life _ (List.getElem_mem hQ); omega⟩
  have hFE : F < E ∧ E ≤ H := by have := hR.life _ (List.getElem_mem hQ); omega
  have HL : Hid (∀ W, Below w1.heap.size w1 W → ∀ v : Nat, v < g.lives.length → ∃ b off, la = some ⟨b, off, none⟩ ∧ W.cell? ⟨b, off + v * 2, none⟩ = some (.int .i64 (g.lives.getD v (0, 0)).1) ∧ W.cell? ⟨b, off + v * 2 + 1, none⟩ = some (.int .i64 (g.lives.getD v (0, 0)).2)) := by
    intro W hb v hv
    rcases (HGx.out W hb).2.2.2.lv with h0 | ⟨b, off, e, _, hc⟩
    · rw [h0] at hv; simp at hv
    · have := IvAt.get hv hc
      rw [life_get hv]
      exact ⟨b, off, e, this⟩
  obtain ⟨lb, lof, rfl, _, _⟩ := HL.out w1 (Below.refl _ _) Q hQ
  have HL2 : Hid (∀ W, Below w1.heap.size w1 W → ∀ v : Nat, v < g.lives.length → W.cell? ⟨lb, lof + v * 2, none⟩ = some (.int .i64 (g.lives.getD v (0, 0)).1) ∧ W.cell? ⟨lb, lof + v * 2 + 1, none⟩ = some (.int .i64 (g.lives.getD v (0, 0)).2)) := by
    intro W hb v hv
    obtain ⟨b, off, e, c⟩ := HL.out W hb v hv
    simp only [Option.some.injEq, Addr.mk.injEq, and_true] at e
    obtain ⟨rfl, rfl⟩ := e
    exact c
  have HLQ : Hid (∀ W, Below w1.heap.size w1 W → W.cell? ⟨lb, lof + Q * 2, none⟩ = some (.int .i64 (F : Int)) ∧ W.cell? ⟨lb, lof + Q * 2 + 1, none⟩ = some (.int .i64 (E : Int))) := by
    intro W hb
    have := HL2.out W hb Q hQ
    rw [life_get hQ, hF, hE] at this
    exact this
  have HP0 : Hid (pf0 g Q = (List.replicate g.lives.length (List.replicate H (1099511627776 : Int))).set Q (pfRow H F E)) := by show _ = _; unfold pf0; rw [hHn, life_get hQ, hF, hE]
  have hRd := fun W (hb : Below w1.heap.size w1 W) => Rides_any g (some ⟨lb, lof, none⟩) ea lc ec W (HGx.out W hb).2.2.2 hR
  have HOk := hideg (fun r (hr : r ∈ ridesF g) => mem_rides hR hr)
  have HPk := hideg (fun k => PfOk.go (q := Q) hR ((ridesF g).reverse.take k) (pf0 g Q) (fun r hr => mem_rides hR (List.mem_reverse.1 (List.mem_of_mem_take hr))) (pf0_ok hR hQ))
  have hll : (ridesF g).length ≤ 3000 := Nat.le_trans (ridesTo_len g _) (Nat.le_trans (Nat.mul_le_mul (show g.hor.toNat ≤ 100 by omega) hR.eds) (by omega))
  have hlife := hideg (fun v (hv : v < g.lives.length) => hR.life g.lives[v] (List.getElem_mem hv))
  rw [hHn]
  rw [hH] at hw1 hRd ⊢
  have HHor := hideg hH
  have hbw := gal w (.cells #[.int .i64 (H : Int), .slice (some ⟨lb, lof, none⟩) g.lives.length lc, .slice ea g.edges.length ec] 25)
  rw [← hw1] at hbw
  have HBW := hideg hbw
  have hQi : (Q : Int) < (g.lives.length : Int) := by omega
  obtain ⟨k0, k1, k2, _⟩ := HGx.out w1 (Below.refl _ _)
  have hw1s := hw1.symm
  have HHn := hideg hHn
  clear hG hR B1 hw1 HL hH hHn hhor hF hE hbw
  go_enter Try.func34, Try.ntmps34
  go_wp2_with (at_make; refine wpList_make_full _ rfl _ _ 83 rfl w1.heap.size 30 i0 _ 1 Try.underlying83 hi hz0 hz1 .i64 .i64 _ _ g.lives.length rfl rfl rfl rfl (by rw [hz2]; omega) (by unfold maxLen; omega) (by omega) ?_; intro w2 hown2 hgrow2; refine stopHereR ?_)
  refine hideg ?_
  have hb2 : Below w1.heap.size w1 w2 := (Below.refl _ _).grown hgrow2 (Nat.le_refl _) (fun k hk => by cases hk)
  have e2 : (madeCells (Value.slice none 0 0).cells (g.lives.length * 1)).toList = sls H [] ++ List.replicate (g.lives.length - ([] : List (Nat × Nat)).length) (.slice none 0 0) := by
    rw [Nat.mul_one]
    show (madeCells #[Value.slice none 0 0] g.lives.length).toList = _
    rw [toList_madeCells_one]; rfl
  rw [e2] at hown2
  have M2 : RM w1.heap.size 30 3 w1.heap.size g.lives.length H w2 [] (fun _ => (List.replicate H (1099511627776 : Int)).map (Value.int .i64)) := ⟨hown2, fun v hv => absurd hv (by simp), fun v _ hv => absurd hv (by simp), Nat.zero_le _⟩
  clear hown2 hgrow2 e2 hw1s k0 k1 k2
  obtain ⟨GO, hGO⟩ : ∃ x, x = w.heap.size + 1 := ⟨_, rfl⟩
  rw [← hGO]
  have M2' : RM w1.heap.size 30 3 GO g.lives.length H w2 [] (fun _ => (List.replicate H (1099511627776 : Int)).map (Value.int .i64)) := by rw [hGO, ← hs1]; exact M2
  have HGO : Hid (GO = w1.heap.size) := by show _ = _; rw [hs1]; exact hGO
  clear M2 hGO
  go_wp2_with fail
  go_loopw [20] (fun i wr => ∃ bl : List (Nat × Nat), i = .int .i64 ((bl.length : Nat) : Int) ∧ RM w1.heap.size 30 3 GO g.lives.length H wr bl (fun _ => (List.replicate H (1099511627776 : Int)).map (Value.int .i64)) ∧ Below w1.heap.size w1 wr) (fun i _ => g.lives.length - (intOf i).toNat)
  case atStart => exact ⟨[], rfl, M2', hb2⟩
  case round =>
    clear M2' hb2
    obtain ⟨bl, rfl, M, hb⟩ := hrel
    have hble := M.le
    by_cases hlt : bl.length < g.lives.length
    · obtain ⟨k, hk⟩ : ∃ k, k = bl.length := ⟨_, rfl⟩
      have hki : (k : Int) < (g.lives.length : Int) := by omega
      have hkw : IntKind.i64.wrap ((k : Int) + 1) = (k : Int) + 1 := wrap_nj _ (by omega) (by omega)
      obtain ⟨w3, hw3⟩ : ∃ x, x = wr.alloc (.cells #[.int .i64 1099511627776] 3) := ⟨_, rfl⟩
      have hb3 : Below wr.heap.size wr w3 := by rw [hw3]; exact gal wr _
      have hs3 : w3.heap.size = wr.heap.size + 1 := by rw [hw3]; simp
      have hRep := Repeat_any 1099511627776 wr.heap.size 0 1 H hH1.2 w3 (by rw [hw3]; exact new_cell rfl rfl) (by omega)
      have g0 := (HGx.out w3 (hb.trans (hb3.mono hb.size))).1
      have HM := hideg M
      have HB := hideg hb
      have HB3 := hideg hb3
      have hsz := hb.size
      have hw3s := hw3.symm
      rw [← hk]
      have HKk := hideg hk
      have hk12 : k < g.lives.length := by omega
      have hlt2 := hideg hlt
      clear M hb hb3 hw3 hk hlt hble
      go_wp2_with fail
      refine hRep.mono ?_
      rintro r w4 ⟨rfl, hZ4, hb4⟩
      have M4 := (HM.out.below HB3.out).below hb4
      have hb4' := HB.out.trans ((ptg HB3.out hb4).mono HB.out.size)
      have fz := World.ownsRow.frozenAt M4.own k
      have cv := M4.nil (v := k) (by have := HKk.out; omega) hk12
      have M5 := M4.put (by decide) hlt2.out (owns_base2 hZ4 (by omega)) (fun v hv => by have := (HM.out.ltI hv).2; omega)
      rw [← HKk.out] at M5
      have hb5 := hb4'.setCell (p := ⟨GO, k, none⟩) (by have := HGO.out; simp only; omega) (.slice (some ⟨w3.heap.size, 0, none⟩) H H)
      have HM5 := hideg (M5.congr (T' := fun _ => (List.replicate H (1099511627776 : Int)).map (Value.int .i64)) (fun v _ => by unfold upF; split <;> rfl))
      have HB5 := hideg hb5
      have HK : Hid ((k : Int) + 1 = (((bl ++ [(w3.heap.size, H)]).length : Nat) : Int)) := by show _ = _; rw [HKk.out]; simp
      clear hRep hw3s HM M4 M5 hb4 hb4' hZ4 hb5 g0 HB HB3 hs3
      go_wp2
      go_roundw
      case rel => exact ⟨bl ++ [(w3.heap.size, H)], by rw [← HK.out], HM5.out, HB5.out⟩
      case measure => simp [intOf]; omega
    · have hbn : bl.length = g.lives.length := by omega
      have M0 := M.congr (T' := tbV ((List.replicate g.lives.length (List.replicate H (1099511627776 : Int))).set Q (pfRow H F F))) (fun v hv => (tbV_first g.lives.length H Q F hQ v (by omega)).symm)
      have hQb : Q < bl.length := by omega
      obtain ⟨wo, hwo⟩ : ∃ x, x = wr := ⟨_, rfl⟩
      subst hwo
      obtain ⟨k0, k1, k2, _⟩ := HGx.out wo hb
      obtain ⟨l0, l1⟩ := HLQ.out wo hb
      have hni : ¬ ((bl.length : Int) < (g.lives.length : Int)) := by omega
      have HBn := hideg hbn
      clear M hlt hble hbn
      go_wp2_with fail
      clear k0 k1 k2 l0 l1
      go_loopw [7] (fun x wr => ∃ T : Nat, x = .int .i64 (T : Int) ∧ F ≤ T ∧ T ≤ E ∧ RM w1.heap.size 30 3 GO g.lives.length H wr bl (tbV ((List.replicate g.lives.length (List.replicate H (1099511627776 : Int))).set Q (pfRow H F T))) ∧ Below w1.heap.size w1 wr) (fun x _ => E - (intOf x).toNat)
      case atStart => exact ⟨F, rfl, Nat.le_refl _, by omega, M0, hb⟩
      case round =>
        clear M0 hb
        obtain ⟨T, rfl, hFT, hTE, M, hb⟩ := hrel
        obtain ⟨k0, k1, k2, _⟩ := HGx.out wr hb
        obtain ⟨l0, l1⟩ := HLQ.out wr hb
        by_cases hlt : T < E
        · have hTi : (T : Int) < (E : Int) := by omega
          have hTH : (T : Int) < (H : Int) := by omega
          have hTw : IntKind.i64.wrap ((T : Int) + 1) = (T : Int) + 1 := wrap_nj _ (by omega) (by omega)
          have oq := M.out hQb
          have cq := (rm_tab M).cell hQb (t := T) (by omega)
          have fz := World.ownsRow.frozenAt (M.inn Q hQb) T
          have M' := M.set (by decide) hQb T (.int .i64 (T : Int))
          have hb' := hb.setCell (p := ⟨bk bl Q, T, none⟩) (M.ltI hQb).1 (.int .i64 (T : Int))
          have HM' : Hid (RM w1.heap.size 30 3 GO g.lives.length H (wr.setCell ⟨bk bl Q, T, none⟩ (.int .i64 (T : Int))) bl (tbV ((List.replicate g.lives.length (List.replicate H (1099511627776 : Int))).set Q (pfRow H F ((T + 1 : Nat) : Int))))) := by
            refine M'.congr (fun v _ => ?_)
            rw [tbV_set (by simpa using hQ), tbV_set (by simpa using hQ)]
            unfold upF
            split
            · rename_i e
              subst e
              rw [if_pos rfl, ← List.map_set, pfRow_next _ _ _ (by omega) (by omega)]
              rfl
            · rfl
          have HB' := hideg hb'
          generalize tat ((List.replicate g.lives.length (List.replicate H (1099511627776 : Int))).set Q (pfRow H F T)) Q T = y at cq
          clear M M' hb hb'
          generalize bk bl Q = bq at *
          generalize ck bl Q = cp at *
          go_wp2
          go_roundw
          case rel => exact ⟨T + 1, by go_num, by omega, by omega, HM'.out, HB'.out⟩
          case measure => simp [intOf]; omega
        · have hTE' : T = E := by omega
          subst hTE'
          rw [← HP0.out] at M
          have hnT : ¬ ((T : Int) < (T : Int)) := by omega
          have HM := hideg M
          have HB := hideg hb
          have hr3 := hRd wr hb
          clear M hb hlt hRd
          go_wp2_with fail
          refine hr3.mono ?_
          rintro r w7 ⟨u, rfl, hu7, hb7⟩
          have S7 : PfSt w1 w7 GO g.lives.length H bl (pfGo g (pf0 g Q) ((ridesF g).reverse.take 0)) wr.heap.size u (ridesF g) := ⟨HM.out.below hb7, hu7, HB.out.trans (hb7.mono HB.out.size)⟩
          obtain ⟨ao, cap, rfl, _⟩ := rdAt_of_owns hu7
          obtain ⟨M3, hM3⟩ : ∃ M, M = wr.heap.size := ⟨_, rfl⟩
          rw [← hM3] at S7
          have HFin : Hid (pfF g Q = pfGo g (pf0 g Q) (ridesF g).reverse) := rfl
          generalize ridesF g = rides at *
          have hwl : IntKind.i64.wrap ((rides.length : Int) - 1) = (rides.length : Int) - 1 := wrap_nj _ (by omega) (by omega)
          clear hr3 hu7 hb7 HM HB k0 k1 k2 l0 l1 hM3
          go_wp2_with fail
          go_loopw [9] (fun i wr => ∃ k : Nat, k ≤ rides.length ∧ i = .int .i64 ((rides.length : Int) - 1 - (k : Int)) ∧ PfSt w1 wr GO g.lives.length H bl (pfGo g (pf0 g Q) (rides.reverse.take k)) M3 (.slice ao rides.length cap) rides) (fun i _ => (intOf i + 1).toNat)
          case atStart => exact ⟨0, Nat.zero_le _, by simp, S7⟩
          case round =>
            clear S7 hwl
            obtain ⟨k, hk, rfl, S⟩ := hrel
            by_cases hkl : k < rides.length
            · obtain ⟨J, hJ⟩ : ∃ J : Nat, J = rides.length - 1 - k := ⟨_, rfl⟩
              have hJl : J < rides.length := by omega
              have hJi : (rides.length : Int) - 1 - (k : Int) = (J : Int) := by omega
              have HJn : Hid ((J : Int) - 1 = (rides.length : Int) - 1 - ((k + 1 : Nat) : Int)) := by show _ = _; omega
              have hJw : IntKind.i64.wrap ((J : Int) - 1) = (J : Int) - 1 := wrap_nj _ (by omega) (by omega)
              have hJli : (J : Int) < (rides.length : Int) := by omega
              rw [hJi]
              obtain ⟨rb, cap', e, hrb, hRo⟩ := S.ride hJl
              simp only [Value.slice.injEq, true_and] at e
              obtain ⟨rfl, rfl⟩ := e
              have hmem := HOk.out rides[J] (List.getElem_mem hJl)
              have hgd : rides.getD J ri0 = rides[J] := by rw [List.getD_eq_getElem?_getD, List.getElem?_eq_getElem hJl]; rfl
              have hrev : rides.reverse[k]'(by simpa using hkl) = rides[J] := by rw [List.getElem_reverse]; simp only [hJ]
              have HT := pfGo_take (g := g) (T := pf0 g Q) (l := rides.reverse) (k := k) (by simpa using hkl)
              rw [hrev] at HT
              have HT := hideg HT
              have hPk := HPk.out k
              rw [hgd] at hRo
              clear hrev hJ hJi hgd
              generalize rides[J] = rr at *
              obtain ⟨Eg, d, a, b, ar, c⟩ := rr
              have ha0 := hmem.a0
              have hb0 := hmem.b0
              have hd0 := hmem.d0
              have hd1 := hmem.lt
              have hd2 := hmem.hor
              have hal := hmem.alA
              simp only at ha0 hb0 hd0 hd1 hd2 hal
              rw [HHor.out] at hd2
              obtain ⟨A, rfl⟩ : ∃ A : Nat, a = (A : Int) := ⟨a.toNat, by omega⟩
              obtain ⟨B, rfl⟩ : ∃ B : Nat, b = (B : Int) := ⟨b.toNat, by omega⟩
              obtain ⟨D, rfl⟩ : ∃ D : Nat, d = (D : Int) := ⟨d.toNat, by omega⟩
              obtain ⟨R, rfl⟩ : ∃ R : Nat, ar = (R : Int) := ⟨ar.toNat, by omega⟩
              have hA : A < g.lives.length := by omega
              have hB : B < g.lives.length := by omega
              have hAb : A < bl.length := by rw [HBn.out]; exact hA
              have hBb : B < bl.length := by rw [HBn.out]; exact hB
              have hAi : (A : Int) < (g.lives.length : Int) := by omega
              have hBi : (B : Int) < (g.lives.length : Int) := by omega
              have hRi : (R : Int) < (H : Int) := by omega
              have hDi : (D : Int) < (H : Int) := by omega
              generalize pfGo g (pf0 g Q) (rides.reverse.take k) = T at *
              have hTl : T.length = g.lives.length := hPk.shp.rows
              have hrow : (T.getD A []).length = H := by rw [← HHn.out]; exact hPk.shp.cols A hA
              obtain ⟨x, hx⟩ : ∃ x, x = tat T B R := ⟨_, rfl⟩
              obtain ⟨fA, hfA⟩ : ∃ fA : Nat, (g.lives.getD A (0, 0)).1 = (fA : Int) := ⟨(g.lives.getD A (0, 0)).1.toNat, by have := hlife.out A hA; rw [life_get hA]; omega⟩
              have hfD : fA ≤ D := by have := (life_at hA _).1 hal; omega
              have HTn : Hid (pfGo g (pf0 g Q) (rides.reverse.take (k + 1)) = T.set A (lowR (T.getD A []) (fA : Int) (D : Int) x)) := by
                show _ = _
                rw [HT.out]
                unfold pfT
                simp only [Int.toNat_natCast]
                rw [hfA, hx]
              have HMono : Hid (∀ s t : Nat, fA ≤ s → s ≤ t → t ≤ D → (T.getD A []).getD s 0 ≤ (T.getD A []).getD t 0) := by
                intro s t h1 h2 h3
                have l0 := (life_at hA _).1 hal
                have := hPk.mono' hA (s := s) ((life_at hA _).2 (by omega)) (t - s) ((life_at hA _).2 (by omega))
                rw [show s + (t - s) = t by omega] at this
                exact this
              obtain ⟨wa, hwa⟩ : ∃ x, x = wr.alloc (.cells #[.int .i64 Eg, .int .i64 (D : Int), .int .i64 (A : Int), .int .i64 (B : Int), .int .i64 (R : Int), .int .i64 c] 66) := ⟨_, rfl⟩
              have c0 := hRo.c0
              have c1 := hRo.c1
              have c2 := hRo.c2
              have c3 := hRo.c3
              have c4 := hRo.c4
              have c5 := hRo.c5
              simp only at c0 c1 c2 c3 c4 c5
              have Sa : PfSt w1 wa GO g.lives.length H bl T M3 (.slice (some ⟨rb, 0, none⟩) rides.length cap) rides := by rw [hwa]; exact S.below (gal wr _)
              have oA := Sa.m.out hAb
              have oB := Sa.m.out hBb
              have xB := Sa.cell hBb (t := R) (by omega)
              rw [← hx] at xB
              have y0 : wa.cell? ⟨wr.heap.size, 0, none⟩ = some (.int .i64 Eg) := by rw [hwa]; exact new_cell rfl rfl
              have y1 : wa.cell? ⟨wr.heap.size, 1, none⟩ = some (.int .i64 (D : Int)) := by rw [hwa]; exact new_cell rfl rfl
              have y2 : wa.cell? ⟨wr.heap.size, 2, none⟩ = some (.int .i64 (A : Int)) := by rw [hwa]; exact new_cell rfl rfl
              have y3 : wa.cell? ⟨wr.heap.size, 3, none⟩ = some (.int .i64 (B : Int)) := by rw [hwa]; exact new_cell rfl rfl
              have y4 : wa.cell? ⟨wr.heap.size, 4, none⟩ = some (.int .i64 (R : Int)) := by rw [hwa]; exact new_cell rfl rfl
              have hwas := hwa.symm
              have HSa := hideg Sa
              have HLt : Hid (bk bl A < wr.heap.size) := (S.m.ltI hAb).2
              clear hRo S Sa hmem hwa hPk hal HT
              have Hx := hideg hx
              have HfA := hideg hfA
              clear hx hfA
              generalize hbA : bk bl A = bA at *
              generalize hcA : ck bl A = cA at *
              go_wp2_with fail
              go_quiet (fail)
              clear oA oB xB y0 y3 y4 c0 c1 c2 c3 c4 c5 hwas
              go_wp2_with fail
              have Sb : PfSt w1 (wa.drewN nq) GO g.lives.length H bl T M3 (.slice (some ⟨rb, 0, none⟩) rides.length cap) rides := HSa.out.below (below_drewN (Below.refl _ _) nq)
              have y2' : (wa.drewN nq).cell? ⟨wr.heap.size, 2, none⟩ = some (.int .i64 (A : Int)) := y2
              obtain ⟨RB, hRB⟩ : ∃ x, x = wr.heap.size := ⟨_, rfl⟩
              rw [← hRB]
              rw [← hRB] at y2' HLt
              have HTsh : Hid (T.length = g.lives.length ∧ (T.getD A []).length = H) := ⟨hTl, hrow⟩
              have HbA := hideg hbA
              have hDw : IntKind.i64.wrap ((D : Int) - 1) = (D : Int) - 1 := wrap_nj _ (by omega) (by omega)
              clear y1 y2 HSa hTl hrow hbA hcA hRB
              generalize wa.drewN nq = wb at *
              obtain ⟨wo2, hwo2⟩ : ∃ x, x = wr := ⟨_, rfl⟩
              subst hwo2
              go_loopw [13] (fun y wr => ∃ s : Int, y = .int .i64 s ∧ (fA : Int) ≤ s + 1 ∧ s ≤ (D : Int) ∧ PfSt w1 wr GO g.lives.length H bl (T.set A (lowR (T.getD A []) (s + 1) (D : Int) x)) M3 (.slice (some ⟨rb, 0, none⟩) rides.length cap) rides ∧ wr.cell? ⟨RB, 2, none⟩ = some (.int .i64 (A : Int))) (fun y _ => (intOf y + 1).toNat)
              case atStart =>
                refine ⟨(D : Int), rfl, by omega, Int.le_refl _, ?_, y2'⟩
                rw [lowR_start _ _ _ _ (by omega)]
                have e : T.set A (T.getD A []) = T := by
                  apply List.ext_getElem (by simp)
                  intro i h1 h2
                  rw [List.getElem_set]
                  split
                  · rename_i e; subst e; simp [List.getD_eq_getElem?_getD, h2]
                  · rfl
                rw [e]
                exact Sb
              case round =>
                clear Sb y2'
                obtain ⟨s, rfl, hs1', hs2', S, y2⟩ := hrel
                obtain ⟨k0, k1, k2, _⟩ := HGx.out wr S.b
                obtain ⟨l0, l1⟩ := HL2.out wr S.b A hA
                rw [HfA.out] at l0
                by_cases hsf : (fA : Int) ≤ s
                · obtain ⟨s, rfl⟩ : ∃ n : Nat, s = (n : Int) := ⟨s.toNat, by omega⟩
                  have hsH : (s : Int) < (H : Int) := by omega
                  have hsw : IntKind.i64.wrap ((s : Int) - 1) = (s : Int) - 1 := wrap_nj _ (by omega) (by omega)
                  have xs := S.cell hAb (t := s) (by omega)
                  have exs : tat (T.set A (lowR (T.getD A []) ((s : Int) + 1) (D : Int) x)) A s = (T.getD A []).getD s 0 := by
                    unfold tat
                    rw [row_set _ _ _ (by rw [HTsh.out.1]; exact hA), lowR_get _ _ _ _ _ (by rw [HTsh.out.2]; omega), if_neg (by omega)]
                  rw [exs, HbA.out] at xs
                  obtain ⟨y, hy⟩ : ∃ y, y = (T.getD A []).getD s 0 := ⟨_, rfl⟩
                  rw [← hy] at xs
                  have Hy := hideg hy
                  have hsfN : fA ≤ s := by omega
                  clear hy exs
                  by_cases hxy : x < y
                  · have dx : decide (x < y) = true := by simpa using hxy
                    have fz := World.ownsRow.frozenAt (S.m.inn A hAb) s
                    rw [HbA.out] at fz
                    have S' := S.set hAb (by rw [List.length_set, HTsh.out.1]; exact hA) s x
                    rw [set_set_row, row_set _ _ _ (by rw [HTsh.out.1]; exact hA), lowR_step _ _ _ _ (by rw [HTsh.out.2]; omega) (by omega) (by rw [← Hy.out]; exact hxy), HbA.out] at S'
                    have y2' : (wr.setCell ⟨bA, s, none⟩ (.int .i64 x)).cell? ⟨RB, 2, none⟩ = some (.int .i64 (A : Int)) := by rw [cellFar (by have := HLt.out; omega)]; exact y2
                    have HS' := hideg S'
                    have HY2 := hideg y2'
                    clear S S' y2' hxy hsf
                    go_wp2
                    go_roundw
                    case rel => exact ⟨(s : Int) - 1, rfl, by omega, by omega, by rw [show (s : Int) - 1 + 1 = (s : Int) by omega]; exact HS'.out, HY2.out⟩
                    case measure => simp [intOf] <;> omega
                  · have dx : decide (x < y) = false := by simpa using hxy
                    rw [lowR_stop (T.getD A []) (fA : Int) (D : Int) x s (by rw [← Hy.out]; omega) (fun s' h1 h2 => HMono.out s' s (by omega) h2 (by omega)) hsf, ← HTn.out] at S
                    have HS' := hideg S
                    clear S hxy hsf
                    go_wp2
                    go_roundw
                    case rel => exact ⟨k + 1, by omega, by rw [← HJn.out], HS'.out⟩
                    case measure => simp [intOf] <;> omega
                · have hsq : s + 1 = (fA : Int) := by omega
                  rw [hsq, ← HTn.out] at S
                  have HS' := hideg S
                  have ds : decide ((fA : Int) ≤ s) = false := by simpa using hsf
                  clear S hsq
                  go_wp2
                  go_roundw
                  case rel => exact ⟨k + 1, by omega, by rw [← HJn.out], HS'.out⟩
                  case measure => simp [intOf] <;> omega
            · have hke : rides.length = k := by omega
              have hm1 : (rides.length : Int) - 1 - (k : Int) = -1 := by omega
              rw [hm1]
              rw [← hke, List.take_of_length_le (by simp), ← HFin.out] at S
              have HS := hideg S
              clear S hm1 hke
              go_wp2
              go_ret
              exact ⟨_, bl, rfl, HBn.out, (rm_tab HS.out.m).base HBW.out.size, HBW.out.trans (HS.out.b.mono HBW.out.size)⟩

end Go.Proofs.Ytanbbkoleekmjag
