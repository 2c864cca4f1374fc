/-
  What Way of the cheapest answers: a journey that costs as little as can be, or an error.
-/
import Derived.Test.YtanbbkoleekmjaiChF
import Derived.Test.YtanbbkoleekmjaiErD
namespace Go.Proofs.Ytanbbkoleekmjai
open Go.RowKit

theorem VisOk.none {g : Gr} (R : Right g) {pr : Ri → Int} {v t : Int} (h0 : 0 ≤ v) {M : Mp} (h : VisOk g pr v t M) {x : Nat} (hx : x < g.lives.length) (hz : M (x : Int) (lastT g x) = .none) : ∀ τ p, ¬ Pay g pr v t (x : Int) τ p := fun τ p hp => by
  obtain ⟨k1, k2, _⟩ := last_alive R hx
  obtain ⟨z, hz', _⟩ := h.all (hp.waits R h0 (k2 _ (hp.place R h0).2.2.1) k1)
  rw [hz] at hz'; cases hz'
theorem VisOk.least {g : Gr} (R : Right g) {pr : Ri → Int} {v t : Int} (h0 : 0 ≤ v) {M : Mp} (h : VisOk g pr v t M) {x : Nat} (hx : x < g.lives.length) {z : Vs} (hz : M (x : Int) (lastT g x) = some z) : ∀ τ p, Pay g pr v t (x : Int) τ p → z.1 ≤ p := fun τ p hp => by
  obtain ⟨k1, k2, _⟩ := last_alive R hx
  obtain ⟨z', hz', h1⟩ := h.all (hp.waits R h0 (k2 _ (hp.place R h0).2.2.1) k1)
  rw [hz] at hz'; cases hz'; exact h1
/-- on the way back: at x at y, the hops l (the last one first) lead on to q -/
structure Bk (g : Gr) (M : Mp) (q P x y : Int) (l : List Hp) : Prop where
  at_ : ∃ z, M x y = some z ∧ ∃ K, Leads g x y q K l.reverse ∧ z.1 + K = P
  len : (l.length : Int) + y ≤ 100
theorem Bk.step {g : Gr} (R : Right g) {v t : Int} {M : Mp} (S : SpE g (F1 v t) prCost M) {q P x y : Int} {l : List Hp} (h : Bk g M q P x y l) (hx : x ≠ v) {z : Vs} (hz : M x y = some z) :
    Bk g M q P z.2.2.2.1 z.2.2.1 (l ++ [(z.2.1, z.2.2.1)]) ∧ z.2.2.1 < y ∧ RideOk g z.2 := by
  obtain ⟨⟨z', hz', K, hL, hP⟩, hl⟩ := h
  rw [hz] at hz'; cases hz'
  rcases S.way _ _ _ hz with ⟨t0, h1, _⟩ | ⟨h1, h2, h3, z2, h4, h5⟩
  · unfold F1 at h1
    split at h1
    · rename_i e; exact absurd e.1 hx
    · cases h1
  · have hok := mem_rides R h1
    have hlt := hok.lt
    refine ⟨⟨⟨z2, h4, K + z.2.2.2.2.2.2, ?_, ?_⟩, ?_⟩, by omega, hok⟩
    · rw [List.reverse_append]; exact hL.cons hok h2 h3
    · unfold prCost at h5; omega
    · rw [List.length_append, List.length_singleton]; omega
theorem Bk.fin {g : Gr} (R : Right g) {v t : Int} (h0 : 0 ≤ v) (ha : aliveB t g.lives v = true) {M : Mp} (S : SpE g (F1 v t) prCost M) {q P y : Int} {l : List Hp} (h : Bk g M q P v y l) : ∃ τ, goF g (some (v, t, 0)) l.reverse = some (q, τ, P) := by
  obtain ⟨⟨z, hz, K, hL, hP⟩, _⟩ := h
  obtain ⟨k1, k2⟩ := own_zero R (prCost_ok R) h0 ha S hz
  obtain ⟨τ, h1⟩ := hL t 0 k2
  exact ⟨τ, by rw [h1]; congr 3; omega⟩

theorem gby_ownW {w1 wq w3 : World} {ge : Nat} {v : Value} (h : w1.grownBy wq (some ge)) (o : Obj) (hgr : (wq.alloc o).grownBy w3 v.ownBlock) (hv : ∀ j, v.ownBlock = some j → w1.heap.size ≤ j) : w1.grownBy w3 (some ge) :=
  ⟨hgr.os.trans h.os, hgr.tape.trans h.tape, hgr.output.trans h.output, Nat.le_trans h.size (Nat.le_trans (gal wq o).size hgr.size), fun k hk hne => by
    have hk2 : k < wq.heap.size := Nat.lt_of_lt_of_le hk h.size
    rw [hgr.block k (Nat.lt_of_lt_of_le hk2 (gal wq o).size) (fun e => by have := hv k e.symm; omega), (gal wq o).block k hk2]
    exact h.block k hk hne⟩

theorem run_by (p E d a e ar c : Int) (w : World) : (Instr.field 70 (.agg #[.int .i64 p, .int .i64 E, .int .i64 d, .int .i64 a, .int .i64 e, .int .i64 ar, .int .i64 c]) 1).run Try.prog w = .ok (.agg #[.int .i64 E, .int .i64 d, .int .i64 a, .int .i64 e, .int .i64 ar, .int .i64 c]) w := by kernel_rfl
set_option maxRecDepth 100000 in
set_option maxHeartbeats 1000000 in
theorem cWay_any (g : Gr) (la ea : Option Addr) (lc ec : Nat) (v t q : Int) (w : World) (hG : GAt w la ea g) :
    Calls Try.prog 14 #[.agg #[.int .i64 g.hor, .slice la g.lives.length lc, .slice ea g.edges.length ec], .int .i64 v, .int .i64 t, .int .i64 q] w fun r w' => ∃ u e l, r = .returned (.tuple #[u, .int .i64 e]) ∧ CWayIs g v t q e l ∧ w'.ownsRow w.heap.size 47 2 u l.length (encs l) ∧ Below w.heap.size w w' := by
  obtain ⟨i0, hi, hz0, hz1, hz2⟩ := info_parts Try.infoHopE
  have B0 := gbx_start w g la ea lc ec 25
  have h1 := jcheck_any g la ea lc ec v t _ (hG.below B0.bel)
  by_cases e1 : placeE g v t = 0
  case neg =>
    have HP : Hid (CWayIs g v t q (placeE g v t) []) := .inl ⟨e1, rfl, rfl⟩
    have d1 : (placeE g v t != 0) = true := by simpa using e1
    generalize placeE g v t = n at *
    clear e1 hG
    go_enter Try.func14, Try.ntmps14
    go_wp2_with fail
    refine h1.mono ?_
    rintro r w1 ⟨rfl, hb1⟩
    have hbF := (B0.below hb1).bel
    clear h1 hb1 B0
    go_wp2
    (try simp only [Exit.inBlock, Exit.then]); refine bodyPost_ret (results_two_e rfl _ _ _) rfl ?_
    exact ⟨_, _, _, rfl, HP.out, World.ownsRow_nil _ _ _ _, hbF⟩
  obtain ⟨hg0, ⟨hv0, hv1⟩, ht0, ht1⟩ := placeE_zero e1
  have hR := gChk_right hg0
  have hlv := hR.lvs
  have hhor := hR.hor
  have hq := fun W => hasVertex_any g la ea lc ec q W hR.lvs
  have HQi := hideg (vtxB_iff g q)
  have HP2 : Hid ((¬ (0 ≤ q ∧ q < g.lives.length) ∨ ∀ τ p, ¬ Pay g prCost v t q τ p) → CWayIs g v t q 4 []) := fun h => .inr (.inl ⟨e1, h, rfl, rfl⟩)
  have HP3 : Hid ((0 ≤ q ∧ q < g.lives.length) → ∀ (l : List Hp) (τ P : Int), l.length ≤ 100 → aliveB t g.lives v = true → goF g (some (v, t, 0)) l = some (q, τ, P) → (∃ τ', Pay g prCost v t q τ' P) → (∀ τ' p, Pay g prCost v t q τ' p → P ≤ p) → CWayIs g v t q 0 l) := fun k1 l τ P k2 k3 k4 k5 k6 => .inr (.inr ⟨e1, k1, rfl, k2, τ, P, k3, k4, k5, k6⟩)
  have HVf := hideg (fun W (hW : Below w.heap.size w W) => visitsFrom_any g la ea lc ec prCost v t 23 (fun args w => Try.call23 args w) W (hG.below hW) e1 (prCost_ok hR) costOf_any)
  have HAl := hideg (fun W (hW : Below w.heap.size w W) (x : Nat) (hx : x < g.lives.length) => atLast_any g la ea lc ec x W (hG.below hW) hR hx)
  rw [e1] at h1
  have HRt := hideg hR
  clear hG e1 hg0 hR
  cases bq : vtxB g q with
  | false =>
    rw [bq] at hq HQi
    have HW := hideg (HP2.out (.inl (fun h => by have := HQi.out.2 h; cases this)))
    clear HP2 HP3 HVf HAl HQi bq
    go_enter Try.func14, Try.ntmps14
    go_wp2_with fail
    refine h1.mono ?_
    rintro r w1 ⟨rfl, hb1⟩
    have B1 := B0.below hb1
    have g0 := B1.c0
    have g1 := B1.c1
    have g2 := B1.c2
    clear h1 hb1 B0
    go_wp2_with fail
    refine (hq _).mono ?_
    rintro r w2 ⟨rfl, hb2⟩
    have hbF := (B1.below hb2).bel
    clear hq hb2 B1 g0 g1 g2
    go_wp2
    (try simp only [Exit.inBlock, Exit.then]); refine bodyPost_ret (results_two_e rfl _ _ _) rfl ?_
    exact ⟨_, _, _, rfl, HW.out, World.ownsRow_nil _ _ _ _, hbF⟩
  | true =>
    have hq01 := HQi.out.1 bq
    rw [bq] at hq
    obtain ⟨Y, rfl⟩ : ∃ Y : Nat, q = (Y : Int) := ⟨q.toNat, by omega⟩
    have hY : Y < g.lives.length := by omega
    obtain ⟨lk1, lk2, lk3, lk4⟩ := last_alive HRt.out hY
    have HNone : Hid (∀ M, VisOk g prCost v t M → M (Y : Int) (lastT g Y) = none → CWayIs g v t (Y : Int) 4 []) := fun M h hz => HP2.out (.inr (h.none HRt.out hv0 hY hz))
    have HSome : Hid (∀ M, VisOk g prCost v t M → ∀ z, M (Y : Int) (lastT g Y) = some z → Bk g M (Y : Int) z.1 (Y : Int) (lastT g Y) [] ∧ (∀ y l, Bk g M (Y : Int) z.1 v y l → l.length ≤ 100 → CWayIs g v t (Y : Int) 0 l.reverse) ∧ ∀ x y l, Bk g M (Y : Int) z.1 x y l → x ≠ v → ∀ z', M x y = some z' → Bk g M (Y : Int) z.1 z'.2.2.2.1 z'.2.2.1 (l ++ [(z'.2.1, z'.2.2.1)]) ∧ z'.2.2.1 < y ∧ RideOk g z'.2) := fun M h z hz => by
      have hP := h.snd hz
      have S : SpE g (F1 v t) prCost M := by
        rcases h with ⟨_, h⟩ | ⟨ha, _⟩
        · exact h
        · rw [hP.1] at ha; cases ha
      refine ⟨⟨⟨z, hz, 0, leads_nil g _ _, by omega⟩, by simp; omega⟩, fun y l hB hl => ?_, fun x y l hB hx z' hz' => hB.step HRt.out S hx hz'⟩
      obtain ⟨τ, h2⟩ := hB.fin HRt.out hv0 hP.1 S
      exact HP3.out hq01 _ τ z.1 (by rw [List.length_reverse]; exact hl) hP.1 h2 ⟨_, hP⟩ (h.least HRt.out hv0 hY hz)
    have HT0 : Hid (∀ x y l M P, Bk g M (Y : Int) P x y l → ∀ z, M x y = some z → z.1 + 0 = z.1) := fun _ _ _ _ _ _ _ _ => by omega
    clear HP2 HP3 HQi bq lk1 lk2 HT0
    generalize hT : lastT g Y = T at *
    have HTl := hideg hT
    clear hT
    have hTi : Hid (∀ W (hW : Below w.heap.size w W), Calls Try.prog 35 #[.agg #[.int .i64 g.hor, .slice la g.lives.length lc, .slice ea g.edges.length ec], .int .i64 (Y : Int)] W fun r w' => r = .returned (.agg #[.int .i64 (Y : Int), .int .i64 T]) ∧ Below W.heap.size W w') := fun W hW => by rw [← HTl.out]; exact HAl.out W hW Y hY
    clear HAl HTl
    go_enter Try.func14, Try.ntmps14
    go_wp2_with fail
    refine h1.mono ?_
    rintro r w1 ⟨rfl, hb1⟩
    have B1 := B0.below hb1
    have g0 := B1.c0
    have g1 := B1.c1
    have g2 := B1.c2
    clear h1 hb1 B0
    go_wp2_with fail
    refine (hq _).mono ?_
    rintro r w2 ⟨rfl, hb2⟩
    have B2 := B1.below hb2
    have h2 := HVf.out w2 B2.bel
    clear hq hb2 B1 g0 g1 g2 HVf
    have g0 := B2.c0
    have g1 := B2.c1
    have g2 := B2.c2
    go_wp2_with fail
    refine h2.mono ?_
    rintro r w3 ⟨b, n, M, rfl, hM3, hV3, hb3⟩
    have B3 := B2.below hb3
    have h3 := hTi.out w3 B3.bel
    have HN := hideg (HNone.out M hV3)
    have HS := hideg (HSome.out M hV3)
    have HPl : Hid (∀ x y z, M x y = some z → (0 ≤ x ∧ x < 100) ∧ 0 ≤ y ∧ y < 100) := fun x y z h => by
      have := (hV3.snd h).place HRt.out hv0
      omega
    clear h2 hb3 B2 g0 g1 g2 hTi HNone HSome hV3
    have g0 := B3.c0
    have g1 := B3.c1
    have g2 := B3.c2
    go_wp2_with fail
    refine h3.mono ?_
    rintro r w4 ⟨rfl, hb4⟩
    have hbx := (B3.below hb4).bel
    have M4 := hM3.below hb4
    clear h3 hb4 B3 hM3 g0 g1 g2
    obtain ⟨w5, hw5⟩ : ∃ x, x = w4.alloc (.cells #[.int .i64 (Y : Int), .int .i64 T] 72) := ⟨_, rfl⟩
    have b5 : Below w4.heap.size w4 w5 := by rw [hw5]; exact gal w4 _
    have M5 := M4.below b5
    have hMl := M4.lt
    have q5 := M5.look (v := (Y : Int)) (t := T) (wi_small (by omega) (by omega)) (wi_small (by omega) (by omega))
    have s0 : w5.cell? ⟨w4.heap.size, 0, none⟩ = some (.int .i64 (Y : Int)) := by rw [hw5]; exact new_cell rfl rfl
    have s1 : w5.cell? ⟨w4.heap.size, 1, none⟩ = some (.int .i64 T) := by rw [hw5]; exact new_cell rfl rfl
    have z0 : w5.frozen? ⟨w4.heap.size, 0, none⟩ = false := by rw [hw5]; simp
    have z1 : w5.frozen? ⟨w4.heap.size, 1, none⟩ = false := by rw [hw5]; simp
    have hw5s := hw5.symm
    have HB5 := hideg (ptg hbx b5)
    have HM5 := hideg M5
    have hs5 : w4.heap.size < w5.heap.size := by rw [hw5]; simp
    have hs4 := hbx.size
    clear hw5 b5 M5 M4 hbx
    cases hz : M (Y : Int) T with
    | none =>
      have HW := hideg (HN.out hz)
      rw [hz] at q5
      simp only [keyV, Option.getD_none, encV_mk, Option.isSome_none] at q5
      have HBk := hideg (fun o => ptg HB5.out (gal w5 o))
      clear HN HS hz z0 z1
      go_wp2
      (try simp only [Exit.inBlock, Exit.then]); refine bodyPost_ret (results_two_e rfl _ _ _) rfl ?_
      exact ⟨_, _, _, rfl, HW.out, World.ownsRow_nil _ _ _ _, HBk.out _⟩
    | some z =>
      obtain ⟨HB1, HB2, HB3⟩ := HS.out z hz
      have HB1 := hideg HB1
      have HB2 := hideg HB2
      have HB3 := hideg HB3
      rw [hz] at q5
      obtain ⟨P, E2, d2, a2, e2, ar2, c2⟩ := z
      simp only [keyV, Option.getD_some, encV_mk, Option.isSome_some] at q5
      simp only at HB1 HB2 HB3
      obtain ⟨w6, hw6⟩ : ∃ x, x = w5.alloc (.cells #[.int .i64 P, .int .i64 E2, .int .i64 d2, .int .i64 a2, .int .i64 e2, .int .i64 ar2, .int .i64 c2] 70) := ⟨_, rfl⟩
      have b6 : Below w5.heap.size w5 w6 := by rw [hw6]; exact gal w5 _
      have HM6 := hideg (HM5.out.below b6)
      have HB6 := hideg (ptg HB5.out b6)
      have t0 := (b6.cell (p := ⟨w4.heap.size, 0, none⟩) hs5).trans s0
      have t1 := (b6.cell (p := ⟨w4.heap.size, 1, none⟩) hs5).trans s1
      have y0 := (b6.frozen (p := ⟨w4.heap.size, 0, none⟩) hs5).trans z0
      have y1 := (b6.frozen (p := ⟨w4.heap.size, 1, none⟩) hs5).trans z1
      have hs6 : w4.heap.size < w6.heap.size := Nat.lt_of_lt_of_le hs5 b6.size
      have hw6s := hw6.symm
      clear hw6 b6 z0 z1 HN HS hz HB5 HM5
      obtain ⟨V, rfl⟩ : ∃ V : Nat, v = (V : Int) := ⟨v.toNat, by omega⟩
      go_wp2_with fail
      clear hw6s hw5s q5 s0 s1
      obtain ⟨na, hna⟩ : ∃ na, na = w4.heap.size := ⟨_, rfl⟩
      rw [← hna] at t0 t1 y0 y1 hs6 hMl hs4 ⊢
      clear hna hs5
      have hbna : b ≠ na := by omega
      have HN0 : Hid (w.heap.size ≤ na) := hs4
      go_loopw [15] (fun u wr => ∃ (x y : Int) (l : List Hp), Bk g M (Y : Int) P x y l ∧ wr.cell? ⟨na, 0, none⟩ = some (.int .i64 x) ∧ wr.cell? ⟨na, 1, none⟩ = some (.int .i64 y) ∧ wr.frozen? ⟨na, 0, none⟩ = false ∧ wr.frozen? ⟨na, 1, none⟩ = false ∧ wr.ownsRow w6.heap.size 47 2 u l.length (encs l) ∧ w6.grownBy wr (some na)) (fun _ wr => match wr.cell? ⟨na, 1, none⟩ with | some (.int _ y) => y.toNat | _ => 0)
      case atStart => exact ⟨(Y : Int), T, [], HB1.out, t0, t1, y0, y1, World.ownsRow_nil _ _ _ _, gby_refl _ _⟩
      case round =>
        clear t0 t1 y0 y1
        obtain ⟨x, y, l, hB, t0, t1, y0, y1, hown, hg⟩ := hrel
        obtain ⟨z, hz⟩ : ∃ z, M x y = some z := ⟨_, hB.at_.choose_spec.1⟩
        obtain ⟨⟨hx0, hx1⟩, hyy0, hyy1⟩ := HPl.out x y z hz
        have hll : l.length ≤ 100 := by have := hB.len; omega
        have hM := HM6.out.kept hg (fun h => hbna (by cases h; rfl))
        by_cases hxv : x = (V : Int)
        · subst hxv
          have HWl := hideg (HB2.out y l hB hll)
          have hbF : Below w.heap.size w wr := HB6.out.grown hg HB6.out.size (fun j hj => by cases hj; exact HN0.out)
          clear hB hz hM hg hs4
          rcases hown.2 with ⟨hu, h0⟩ | ⟨gb, cap, cur, hu, hgb, hh, h3, h4, h5, h6⟩
          · have hl0 : l = [] := List.eq_nil_of_length_eq_zero h0
            subst hl0
            subst hu
            have hRv := fun W => Reverse_nil W
            clear hown h0
            go_wp2_with fail
            refine (hRv _).mono ?_
            rintro r w5 ⟨⟨vv, rfl⟩, rfl⟩
            clear hRv
            go_wp2
            (try simp only [Exit.inBlock, Exit.then]); refine bodyPost_ret (results_two_e rfl _ _ _) rfl ?_
            exact ⟨_, _, _, rfl, HWl.out, World.ownsRow_nil _ _ _ _, hbF⟩
          · subst hu
            have hRv := Reverse_any w6.heap.size gb cap l wr hown (by omega)
            clear hown hh h6 h5 h3 h4 hgb
            go_wp2_with fail
            refine hRv.mono ?_
            rintro r w7 ⟨⟨vv, rfl⟩, hO7, hb7⟩
            have HO7 : Hid (w7.ownsRow w.heap.size 47 2 (.slice (some ⟨gb, 0, none⟩) l.length cap) l.reverse.length (encs l.reverse)) := by
              rw [List.length_reverse]; exact owns_base2 hO7 HB6.out.size
            have HB7 := hideg (hbF.trans (hb7.mono HB6.out.size))
            clear hRv hO7 hb7
            go_wp2
            (try simp only [Exit.inBlock, Exit.then]); refine bodyPost_ret (results_two_e rfl _ _ _) rfl ?_
            exact ⟨_, _, _, rfl, HWl.out, HO7.out, HB7.out⟩
        · have hxvi : (x != (V : Int)) = true := by simpa using hxv
          obtain ⟨hS, hlt, hok⟩ := HB3.out x y l hB hxv z hz
          have q1 := hM.look1 (v := x) (t := y) (wi_small (by omega) (by omega)) (wi_small (by omega) (by omega))
          rw [hz] at q1
          obtain ⟨p, E, d, a, e, ar, c⟩ := z
          simp only [keyV, Option.getD_some, encV_mk] at q1
          have hd0 := hok.d0
          simp only at hS hlt hd0
          have HS := hideg hS
          obtain ⟨wb, hwb⟩ : ∃ x, x = wr.alloc (.cells #[.int .i64 E, .int .i64 d, .int .i64 a, .int .i64 e, .int .i64 ar, .int .i64 c] 68) := ⟨_, rfl⟩
          have bb : Below wr.heap.size wr wb := by rw [hwb]; exact gal wr _
          have hgb := gby_trans hg (gby_of_below bb (some na))
          have hnr : na < wr.heap.size := Nat.lt_of_lt_of_le hs6 hg.size
          have r0 : wb.cell? ⟨wr.heap.size, 0, none⟩ = some (.int .i64 E) := by rw [hwb]; exact new_cell rfl rfl
          have r1 : wb.cell? ⟨wr.heap.size, 1, none⟩ = some (.int .i64 d) := by rw [hwb]; exact new_cell rfl rfl
          have r2 : wb.cell? ⟨wr.heap.size, 2, none⟩ = some (.int .i64 a) := by rw [hwb]; exact new_cell rfl rfl
          have hownb := ownsRow_below hown bb
          have hsb : wr.heap.size < wb.heap.size := by rw [hwb]; simp
          have ub : ∀ j, u15.ownBlock = some j → w6.heap.size ≤ j ∧ j < wr.heap.size := fun j hj => hown.lt j hj
          have HG5 : Hid (∀ (o : Obj) (W : World), (wb.alloc o).grownBy W u15.ownBlock → w6.grownBy W (some na) ∧ W.cell? ⟨wr.heap.size, 1, none⟩ = some (.int .i64 d) ∧ W.cell? ⟨wr.heap.size, 2, none⟩ = some (.int .i64 a) ∧ W.cell? ⟨na, 0, none⟩ = some (.int .i64 x) ∧ W.cell? ⟨na, 1, none⟩ = some (.int .i64 y) ∧ W.frozen? ⟨na, 0, none⟩ = false ∧ W.frozen? ⟨na, 1, none⟩ = false) := fun o W hgr => by
            have hk : ∀ j, j < wr.heap.size + 1 → (∀ i, u15.ownBlock = some i → i ≠ j) → W.heap[j]? = wb.heap[j]? := fun j hj hne => by
              rw [hgr.block j (by have := (gal wb o).size; omega) (fun e => hne j e.symm rfl), (gal wb o).block j (by omega)]
            have hk1 := hk wr.heap.size (by omega) (fun i h => by have := ub i h; omega)
            have hk2 := (hk na (by omega) (fun i h => by have := ub i h; omega)).trans (bb.block na hnr)
            exact ⟨gby_ownW hgb o hgr (fun j hj => (ub j hj).1), (World.cell?_of_block (a := ⟨wr.heap.size, 1, none⟩) hk1).trans r1, (World.cell?_of_block (a := ⟨wr.heap.size, 2, none⟩) hk1).trans r2, (World.cell?_of_block (a := ⟨na, 0, none⟩) hk2).trans t0, (World.cell?_of_block (a := ⟨na, 1, none⟩) hk2).trans t1, (World.frozen?_of_block (a := ⟨na, 0, none⟩) hk2).trans y0, (World.frozen?_of_block (a := ⟨na, 1, none⟩) hk2).trans y1⟩
          have hwbs := hwb.symm
          have hsr := hg.size
          have HT1 := hideg t1
          clear hwb hB hz hM hg hgb hS hok bb hown
          have hby := run_by p E d a e ar c
          go_wp2_with (at_builtin; refine stopHereR ?_)
          refine hideg ?_
          clear hby
          refine wpList_append_own _ rfl _ _ 31 rfl w6.heap.size 47 i0 _ 2 16 Try.underlying31 hi hz0 hz1 hz2 rfl (by decide) _ _ _ rfl (World.ownsRow.alloc (w := wb) hownb _) ⟨wb.heap.size, 0, none⟩ 1 1 [.int .i64 E, .int .i64 d] rfl rfl (cells_two_new _ _ _ _ _ (by simp)) (by intro u hu; simp at hu; rcases hu with rfl | rfl <;> rfl) (by unfold maxLen; omega) (by omega) (by simp; omega) ?_
          intro v' w7 hown7 hgrow _
          obtain ⟨hg7, f1, f2, f3, f4, f5, f6⟩ := HG5.out _ _ hgrow
          have R7 : w7.ownsRow w6.heap.size 47 2 v' (l ++ [(E, d)]).length (encs (l ++ [(E, d)])) := by
            rw [show encs (l ++ [(E, d)]) = encs l ++ [.int .i64 E, .int .i64 d] from by simp [encs, flat], List.length_append]; exact hown7
          have HR8 : Hid (((w7.setCell ⟨na, 0, none⟩ (.int .i64 a)).setCell ⟨na, 1, none⟩ (.int .i64 d)).ownsRow w6.heap.size 47 2 v' (l ++ [(E, d)]).length (encs (l ++ [(E, d)]))) := by
            have hv' : v'.ownBlock ≠ some na := fun e => by have := (R7.lt na e).1; omega
            exact ownsRow_setCell_other (ownsRow_setCell_other R7 hv' _) hv' _
          have HG8 := hideg (gby_trans (gby_trans hg7 (gby_setOne w7 na 0 (.int .i64 a))) (gby_setOne _ na 1 (.int .i64 d)))
          clear hgrow hown7 HG5 R7 hg7 t0 t1 y0 y1 r0 r1 r2 hwbs q1 ub hownb
          obtain ⟨w8, hw8⟩ : ∃ x, x = (w7.setCell ⟨na, 0, none⟩ (.int .i64 a)).setCell ⟨na, 1, none⟩ (.int .i64 d) := ⟨_, rfl⟩
          have HC : Hid (w8.cell? ⟨na, 0, none⟩ = some (.int .i64 a) ∧ w8.cell? ⟨na, 1, none⟩ = some (.int .i64 d) ∧ w8.frozen? ⟨na, 0, none⟩ = false ∧ w8.frozen? ⟨na, 1, none⟩ = false) := by
            rw [hw8]
            have o1 : (w7.setCell ⟨na, 0, none⟩ (.int .i64 a)).cell? ⟨na, 0, none⟩ = some (.int .i64 a) := World.cell?_setCell_same _ _ _ f3
            have o2 : (w7.setCell ⟨na, 0, none⟩ (.int .i64 a)).cell? ⟨na, 1, none⟩ = some (.int .i64 y) := (World.cell?_setCell_other _ _ _ _ (by simp)).trans f4
            refine ⟨(World.cell?_setCell_other _ _ _ _ (by simp)).trans o1, World.cell?_setCell_same _ _ _ o2, ?_, ?_⟩
            · rw [World.frozen?_setCell, World.frozen?_setCell]; exact f5
            · rw [World.frozen?_setCell, World.frozen?_setCell]; exact f6
          rw [← hw8] at HR8 HG8
          have hw8s := hw8.symm
          clear hw8
          go_wp2
          go_roundw
          case rel => exact ⟨a, d, l ++ [(E, d)], HS.out, HC.out.1, HC.out.2.1, HC.out.2.2.1, HC.out.2.2.2, HR8.out, HG8.out⟩
          case measure => simp only [HC.out.2.1, HT1.out]; omega

end Go.Proofs.Ytanbbkoleekmjai
