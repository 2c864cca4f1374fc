/-
  What latest of the program answers: the latest times; and Arrivals and Departures.
-/
import Derived.Test.YtanbbkoleekmjagErB
import Derived.Test.YtanbbkoleekmjagPop
namespace Go.Proofs.Ytanbbkoleekmjag
open Go.RowKit

theorem ltGo_take {T : List Int} {l : List Ri} {k : Nat} (hk : k < l.length) : ltGo T (l.take (k + 1)) = ltT (ltGo T (l.take k)) l[k] := by
  unfold ltGo; rw [List.take_succ_eq_append_getElem hk, List.foldl_append]; rfl
/-- what latest holds while it looks at the rides -/
structure LtSt (w0 w : World) (m1 m3 n : Nat) (u : Value) (rides : List Ri) (T : List Int) : Prop where
  t : Zo w w0.heap.size m1 n n T
  r : w.ownsRow m3 66 6 u rides.length (encRs rides)
  b : Below w0.heap.size w0 w
theorem LtSt.below {w0 w w' : World} {m1 m3 n : Nat} {u : Value} {rides : List Ri} {T : List Int} (h : LtSt w0 w m1 m3 n u rides T) (hb : Below w.heap.size w w') : LtSt w0 w' m1 m3 n u rides T :=
  ⟨ownsRow_below h.t hb, ownsRow_below h.r hb, h.b.trans (hb.mono h.b.size)⟩
theorem LtSt.set {w0 w : World} {m1 m3 n : Nat} {u : Value} {rides : List Ri} {T : List Int} (h : LtSt w0 w m1 m3 n u rides T) (h13 : m1 < m3) (k : Nat) (x : Int) : LtSt w0 (w.setCell ⟨m1, k, none⟩ (.int .i64 x)) m1 m3 n u rides (T.set k x) := by
  have hm1 : w0.heap.size ≤ m1 := (World.ownsRow.lt h.t m1 rfl).1
  have hu : u.ownBlock ≠ some m1 := own_none fun k hk => Nat.lt_of_lt_of_le h13 (World.ownsRow.lt h.r k hk).1
  exact ⟨Zo.set h.t k x, ownsRow_setCell_other h.r hu _, h.b.setCell (p := ⟨m1, k, none⟩) hm1 _⟩
theorem LtSt.ride {w0 w : World} {m1 m3 n : Nat} {u : Value} {rides : List Ri} {T : List Int} (h : LtSt w0 w m1 m3 n u rides T) {k : Nat} (hk : k < rides.length) : ∃ rb cap, u = .slice (some ⟨rb, 0, none⟩) rides.length cap ∧ rb < w.heap.size ∧ RdOne w rb (k * 6) (rides.getD k ri0) := by
  have hr := h.r
  rcases hr.2 with ⟨_, h0⟩ | ⟨rb, cap, cur, e, _, hh, _⟩
  · omega
  · rw [e] at hr
    exact ⟨rb, cap, e, (Array.getElem?_eq_some_iff.1 hh).1, Ro.one hr hk⟩

set_option maxRecDepth 100000 in
set_option maxHeartbeats 400000 in
theorem latest_any (g : Gr) (la ea : Option Addr) (lc ec : Nat) (v t : Int) (w : World) (hG : GAt w la ea g) (hpl : placeE g v t = 0) :
    Calls Try.prog 48 #[.agg #[.int .i64 g.hor, .slice la g.lives.length lc, .slice ea g.edges.length ec], .int .i64 v, .int .i64 t] w fun r w' => ∃ m1, r = .returned (.slice (some ⟨m1, 0, none⟩) g.lives.length g.lives.length) ∧ Zo w' w.heap.size m1 g.lives.length g.lives.length (ltF g v t) ∧ Below w.heap.size w w' := by
  obtain ⟨hg0, ⟨hv0, hv1⟩, ht0, ht1⟩ := placeE_zero hpl
  have hR := gChk_right hg0
  have hn12 := hR.lvs
  obtain ⟨V, rfl⟩ : ∃ V : Nat, v = (V : Int) := ⟨v.toNat, by omega⟩
  have hVg : V < g.lives.length := by omega
  obtain ⟨w1, hw1⟩ : ∃ x, x = w.alloc (.cells #[.int .i64 g.hor, .slice la g.lives.length lc, .slice ea g.edges.length ec] 25) := ⟨_, rfl⟩
  have B1 : GBx w w1 w.heap.size g la ea lc ec := by rw [hw1]; exact gbx_start w g la ea lc ec 25
  obtain ⟨w2, hw2⟩ : ∃ x, x = w1.alloc (.cells #[.int .i64 (-1)] 3) := ⟨_, rfl⟩
  have B2 : GBx w w2 w.heap.size g la ea lc ec := by rw [hw2]; exact B1.below (gal w1 _)
  have hs1 : w1.heap.size = w.heap.size + 1 := by rw [hw1]; simp
  have hs2 : w2.heap.size = w.heap.size + 1 + 1 := by rw [hw2]; simp [hs1]
  have hRep := Repeat_any (-1) (w.heap.size + 1) 0 1 g.lives.length (by omega) w2 (by rw [hw2]; exact new_cell hs1.symm rfl) (by omega)
  have g1 := B2.c1
  have HG := hideg hG
  have HB2 := hideg B2
  have HRt := hideg hR
  have hw1s := hw1.symm
  have hw2s := hw2.symm
  clear hG hpl hg0 hR B1 B2 hw1 hw2
  go_enter Try.func48, Try.ntmps48
  go_wp2_with fail
  refine hRep.mono ?_
  rintro r w3 ⟨rfl, hZ3, hb3⟩
  have B3 := HB2.out.below hb3
  have hs3 := (World.ownsRow.lt hZ3 _ rfl).2
  have hZ4 := owns_base2 hZ3 (show w.heap.size ≤ w2.heap.size by omega)
  have hGA := HG.out.below B3.bel
  obtain ⟨lb, lof, rfl, hlb, hlc⟩ : ∃ b off, la = some ⟨b, off, none⟩ ∧ b < w3.heap.size ∧ (w3.cell? ⟨b, off + V * 2, none⟩ = some (.int .i64 g.lives[V].1) ∧ w3.cell? ⟨b, off + V * 2 + 1, none⟩ = some (.int .i64 g.lives[V].2)) := by
    rcases hGA.lv with h0 | ⟨b, off, rfl, hbr, hc⟩
    · rw [h0] at hVg; simp at hVg
    exact ⟨b, off, rfl, hbr, IvAt.get hVg hc⟩
  obtain ⟨lc0, lc1⟩ := hlc
  have g1' := B3.c1
  have hal := fun W => jalive_any g.lives[V].1 g.lives[V].2 t W
  rw [← aliveB_at t g.lives V hVg] at hal
  have HB3 := hideg B3
  clear hRep hw1s hw2s g1 HB2 B3 hZ3 hb3 hGA
  cases ha : aliveB t g.lives (V : Int) with
  | false =>
    rw [ha] at hal
    have HE : Hid (ltF g (V : Int) t = List.replicate g.lives.length (-1)) := by show _ = _; unfold ltF; rw [if_neg (by rw [ha]; simp)]
    clear ha
    go_wp2_with fail
    refine (hal _).mono ?_
    rintro r w5 ⟨rfl, hb5⟩
    have hZ5 := ownsRow_below hZ4 hb5
    rw [hs2] at hZ5
    have HZ5 := hideg hZ5
    have HB5 := hideg (HB3.out.below hb5).bel
    clear hal hb5 hZ4 HB3 lc0 lc1 g1' hZ5
    go_wp2
    go_ret
    exact ⟨_, rfl, by rw [HE.out]; exact HZ5.out, HB5.out⟩
  | true =>
    rw [ha] at hal
    have HE : Hid (ltF g (V : Int) t = ltGo (lt0 g (V : Int) t) (ridesF g).reverse) := by show _ = _; unfold ltF; rw [if_pos ha]
    clear ha
    go_wp2_with fail
    refine (hal _).mono ?_
    rintro r w5 ⟨rfl, hb5⟩
    have hZ5 := ownsRow_below hZ4 hb5
    have B5 := HB3.out.below hb5
    have hs5 := hb5.size
    have fz := World.ownsRow.frozenAt hZ5 V
    have cv := Zo.cell hZ5 hVg
    rw [hs2] at fz cv
    clear hal hb5 hZ4 HB3 lc0 lc1 g1'
    obtain ⟨w6, hw6⟩ : ∃ x, x = w5.setCell ⟨w.heap.size + 1 + 1, V, none⟩ (.int .i64 t) := ⟨_, rfl⟩
    have hZ6 : Zo w6 w.heap.size (w.heap.size + 1 + 1) g.lives.length g.lives.length (lt0 g (V : Int) t) := by
      rw [hw6]; rw [hs2] at hZ5
      have := Zo.set hZ5 V t
      simpa [lt0] using this
    have hb6 : Below w.heap.size w w6 := by rw [hw6]; exact B5.bel.setCell (p := ⟨w.heap.size + 1 + 1, V, none⟩) (by simp only; omega) _
    have hs6 : w5.heap.size = w6.heap.size := by rw [hw6]; simp [World.setCell]
    have k0 : w6.cell? ⟨w.heap.size, 0, none⟩ = some (.int .i64 g.hor) := by rw [hw6, cellFar (by omega)]; exact B5.c0
    have k1 : w6.cell? ⟨w.heap.size, 1, none⟩ = some (.slice (some ⟨lb, lof, none⟩) g.lives.length lc) := by rw [hw6, cellFar (by omega)]; exact B5.c1
    have k2 : w6.cell? ⟨w.heap.size, 2, none⟩ = some (.slice ea g.edges.length ec) := by rw [hw6, cellFar (by omega)]; exact B5.c2
    have hRd := Rides_any g (some ⟨lb, lof, none⟩) ea lc ec w6 (HG.out.below hb6) HRt.out
    have hw6s := hw6.symm
    clear hw6 hZ5 B5
    obtain ⟨M1, hM1⟩ : ∃ M, M = w.heap.size + 1 + 1 := ⟨_, rfl⟩
    obtain ⟨M3, hM3⟩ : ∃ M, M = w6.heap.size := ⟨_, rfl⟩
    have h13 : M1 < M3 := by omega
    go_wp2_with fail
    refine hRd.mono ?_
    rintro r w7 ⟨u, rfl, hu7, hb7⟩
    rw [← hM1]
    rw [← hM1] at hZ6
    rw [← hM3] at hu7
    have S7 : LtSt w w7 M1 M3 g.lives.length u (ridesF g) (ltGo (lt0 g (V : Int) t) ((ridesF g).reverse.take 0)) := ⟨ownsRow_below hZ6 hb7, hu7, hb6.trans (hb7.mono hb6.size)⟩
    have hok : ∀ r ∈ ridesF g, RideOk g r := fun r hr => mem_rides HRt.out hr
    have hll : (ridesF g).length ≤ 3000 := Nat.le_trans (ridesTo_len g _) (Nat.le_trans (Nat.mul_le_mul (show g.hor.toNat ≤ 100 by have := HRt.out.hor; omega) HRt.out.eds) (by omega))
    obtain ⟨ao, cap, rfl, _⟩ := rdAt_of_owns hu7
    have hhor : g.hor ≤ 100 := HRt.out.hor.2
    generalize ridesF g = rides at *
    have HOk := hideg hok
    have hwl : IntKind.i64.wrap ((rides.length : Int) - 1) = (rides.length : Int) - 1 := wrap_nj _ (by omega) (by omega)
    clear hRd hw6s hZ6 hb6 hu7 hb7 k0 k1 k2 fz cv hM1 hM3 hs6 hs5 hs3 hs2 hs1 HG HRt hok hlb
    go_wp2_with fail
    go_loopw [9] (fun i wr => ∃ k : Nat, k ≤ rides.length ∧ i = .int .i64 ((rides.length : Int) - 1 - (k : Int)) ∧ LtSt w wr M1 M3 g.lives.length (.slice ao rides.length cap) rides (ltGo (lt0 g (V : Int) t) (rides.reverse.take k))) (fun i _ => (intOf i + 1).toNat)
    case atStart => exact ⟨0, Nat.zero_le _, by simp, S7⟩
    case round =>
      clear S7 hwl
      obtain ⟨k, hk, rfl, S⟩ := hrel
      by_cases hkl : k < rides.length
      · obtain ⟨J, hJ⟩ : ∃ J : Nat, J = rides.length - 1 - k := ⟨_, rfl⟩
        have hJl : J < rides.length := by omega
        have hJi : (rides.length : Int) - 1 - (k : Int) = (J : Int) := by omega
        have HJn : Hid ((J : Int) - 1 = (rides.length : Int) - 1 - ((k + 1 : Nat) : Int)) := by show _ = _; omega
        have hJw : IntKind.i64.wrap ((J : Int) - 1) = (J : Int) - 1 := wrap_nj _ (by omega) (by omega)
        have hJli : (J : Int) < (rides.length : Int) := by omega
        rw [hJi]
        obtain ⟨rb, cap', e, hrb, hRo⟩ := S.ride hJl
        simp only [Value.slice.injEq, true_and] at e
        obtain ⟨rfl, rfl⟩ := e
        have hmem := HOk.out rides[J] (List.getElem_mem hJl)
        have hgd : rides.getD J ri0 = rides[J] := by rw [List.getD_eq_getElem?_getD, List.getElem?_eq_getElem hJl]; rfl
        have hrev : rides.reverse[k]'(by simpa using hkl) = rides[J] := by rw [List.getElem_reverse]; simp only [hJ]
        have HT := ltGo_take (T := lt0 g (V : Int) t) (l := rides.reverse) (k := k) (by simpa using hkl)
        rw [hrev] at HT
        have HT := hideg HT
        rw [hgd] at hRo
        clear hrev hJ hJi
        generalize rides[J] = rr at *
        obtain ⟨E, d, a, b, ar, c⟩ := rr
        have ha0 := hmem.a0
        have hb0 := hmem.b0
        have hd0 := hmem.d0
        have hd1 := hmem.lt
        have hd2 := hmem.hor
        simp only at ha0 hb0 hd0 hd1 hd2
        obtain ⟨A, rfl⟩ : ∃ A : Nat, a = (A : Int) := ⟨a.toNat, by omega⟩
        obtain ⟨B, rfl⟩ : ∃ B : Nat, b = (B : Int) := ⟨b.toNat, by omega⟩
        have hA : A < g.lives.length := by omega
        have hB : B < g.lives.length := by omega
        generalize ltGo (lt0 g (V : Int) t) (rides.reverse.take k) = T at *
        obtain ⟨wa, hwa⟩ : ∃ x, x = wr.alloc (.cells #[.int .i64 E, .int .i64 d, .int .i64 (A : Int), .int .i64 (B : Int), .int .i64 ar, .int .i64 c] 66) := ⟨_, rfl⟩
        have c0 := hRo.c0
        have c1 := hRo.c1
        have c2 := hRo.c2
        have c3 := hRo.c3
        have c4 := hRo.c4
        have c5 := hRo.c5
        simp only at c0 c1 c2 c3 c4 c5
        have Sa : LtSt w wa M1 M3 g.lives.length (.slice (some ⟨rb, 0, none⟩) rides.length cap) rides T := by rw [hwa]; exact S.below (gal wr _)
        have xa := Zo.cell Sa.t hA
        have xb := Zo.cell Sa.t hB
        have y0 : wa.cell? ⟨wr.heap.size, 0, none⟩ = some (.int .i64 E) := by rw [hwa]; exact new_cell rfl rfl
        have y1 : wa.cell? ⟨wr.heap.size, 1, none⟩ = some (.int .i64 d) := by rw [hwa]; exact new_cell rfl rfl
        have y2 : wa.cell? ⟨wr.heap.size, 2, none⟩ = some (.int .i64 (A : Int)) := by rw [hwa]; exact new_cell rfl rfl
        have y3 : wa.cell? ⟨wr.heap.size, 3, none⟩ = some (.int .i64 (B : Int)) := by rw [hwa]; exact new_cell rfl rfl
        have y4 : wa.cell? ⟨wr.heap.size, 4, none⟩ = some (.int .i64 ar) := by rw [hwa]; exact new_cell rfl rfl
        have hwas := hwa.symm
        have HSa := hideg Sa
        clear hRo S Sa hmem hgd hwa
        obtain ⟨x1, hx1⟩ : ∃ x, x = T.getD A 0 := ⟨_, rfl⟩
        obtain ⟨x2, hx2⟩ : ∃ x, x = T.getD B 0 := ⟨_, rfl⟩
        rw [← hx1] at xa
        rw [← hx2] at xb
        have HX1 := hideg hx1
        have HX2 := hideg hx2
        have hAi : (A : Int) < (g.lives.length : Int) := by omega
        have hBi : (B : Int) < (g.lives.length : Int) := by omega
        have HNo : Hid (¬ (ar ≤ x2) → ltGo (lt0 g (V : Int) t) (rides.reverse.take (k + 1)) = T) := by
          intro h
          rw [HT.out]
          unfold ltT
          simp only [Int.toNat_natCast]
          rw [← HX2.out, if_neg h]
        have HYes : Hid (ar ≤ x2 → ltGo (lt0 g (V : Int) t) (rides.reverse.take (k + 1)) = T.set A (if x1 < d then d else x1)) := by
          intro h
          have hmx : (if x1 < d then d else x1) = max x1 d := by split <;> omega
          rw [HT.out]
          unfold ltT
          simp only [Int.toNat_natCast]
          rw [← HX1.out, ← HX2.out, if_pos h, hmx]
        have HSn : Hid (¬ (ar ≤ x2) → ∀ N, LtSt w (wa.drewN N) M1 M3 g.lives.length (.slice (some ⟨rb, 0, none⟩) rides.length cap) rides (ltGo (lt0 g (V : Int) t) (rides.reverse.take (k + 1)))) := by
          intro h N
          rw [HNo.out h]
          exact HSa.out.below (below_drewN (Below.refl _ _) N)
        clear hx1 hx2 HT HNo
        by_cases q2 : ar ≤ x2
        · have d2 : decide (ar ≤ x2) = true := by simpa using q2
          have HE2 := hideg (HYes.out q2)
          have HSet := hideg (fun (W : World) (h : LtSt w W M1 M3 g.lives.length (.slice (some ⟨rb, 0, none⟩) rides.length cap) rides T) => h.set h13 A (if x1 < d then d else x1))
          clear HSn HYes
          go_wp2_with fail
          go_quiet (fail)
          clear xb q2 d2 c0 c1 c2 c3 c4 c5
          go_wp2_with fail
          refine wp_region_back (S := fun w3 => w3.cell? ⟨wr.heap.size, 1, none⟩ = some (.int .i64 d) ∧ w3.cell? ⟨wr.heap.size, 2, none⟩ = some (.int .i64 (A : Int)) ∧ w3.cell? ⟨M1, A, none⟩ = some (.int .i64 x1)) (by kernel_rfl) (by simp) (by kernel_rfl) (by kernel_rfl) ⟨y1, y2, xa⟩ (fun hHeld => ?_)
          generalize hw8 : (wa.drewN nq).drew = w8 at *
          have S8 : LtSt w w8 M1 M3 g.lives.length (.slice (some ⟨rb, 0, none⟩) rides.length cap) rides T := by rw [← hw8]; exact HSa.out.below (below_drewN (Below.refl _ _) (nq + 1))
          simp only [List.pop_toArray, List.dropLast, List.back!_toArray, List.getLast!]
          clear hw8 y0 y1 y2 y3 y4 xa
          refine take_lit (i := 0) (v := ?_) rfl (by kernel_rfl) (by kernel_rfl) (by kernel_rfl) (fun _ _ _ h => h) (Or.inl ⟨by rfl, ?hy0⟩) (by assumption) ?_
          case hy0 => (intro w hSw; (try dsimp only at hSw); go_simp; try with_reducible rfl)
          try simp only [Act.put, List.setIfInBounds_toArray, List.set_cons_zero, List.set_cons_succ]
          refine take_lit (i := 1) (v := ?_) rfl (by kernel_rfl) (by kernel_rfl) (by kernel_rfl) (fun _ _ _ h => h) (Or.inl ⟨by rfl, ?hy1⟩) (by assumption) ?_
          case hy1 => (intro w hSw; (try dsimp only at hSw); go_simp; try with_reducible rfl)
          try simp only [Act.put, List.setIfInBounds_toArray, List.set_cons_zero, List.set_cons_succ]
          refine take_lit (i := 2) (v := ?_) rfl (by kernel_rfl) (by kernel_rfl) (by kernel_rfl) (fun _ _ _ h => h) (Or.inl ⟨by rfl, ?hy2⟩) (by assumption) ?_
          case hy2 => (intro w hSw; (try dsimp only at hSw); go_simp; try with_reducible rfl)
          try simp only [Act.put, List.setIfInBounds_toArray, List.set_cons_zero, List.set_cons_succ]
          refine take_lit (i := 3) (v := ?_) rfl (by kernel_rfl) (by kernel_rfl) (by kernel_rfl) (fun _ _ _ h => h) (Or.inl ⟨by rfl, ?hy3⟩) (by assumption) ?_
          case hy3 => (intro w hSw; (try dsimp only at hSw); go_simp; try with_reducible rfl)
          try simp only [Act.put, List.setIfInBounds_toArray, List.set_cons_zero, List.set_cons_succ]
          refine take_lit (i := 4) (v := ?_) rfl (by kernel_rfl) (by kernel_rfl) (by kernel_rfl) (fun _ _ _ h => h) (Or.inl ⟨by rfl, ?hy4⟩) (by assumption) ?_
          case hy4 => (intro w hSw; (try dsimp only at hSw); go_simp; try with_reducible rfl)
          try simp only [Act.put, List.setIfInBounds_toArray, List.set_cons_zero, List.set_cons_succ]
          refine take_lit (i := 5) (v := ?_) rfl (by kernel_rfl) (by kernel_rfl) (by kernel_rfl) (fun _ _ _ h => h) (Or.inl ⟨by rfl, ?hy5⟩) (by assumption) ?_
          case hy5 => (intro w hSw; (try dsimp only at hSw); go_simp; try with_reducible rfl)
          try simp only [Act.put, List.setIfInBounds_toArray, List.set_cons_zero, List.set_cons_succ]
          refine take_lit (i := 6) (v := ?_) rfl (by kernel_rfl) (by kernel_rfl) (by kernel_rfl) (fun _ _ _ h => h) (Or.inl ⟨by rfl, ?hy6⟩) (by assumption) ?_
          case hy6 => (intro w hSw; (try dsimp only at hSw); go_simp; try with_reducible rfl)
          try simp only [Act.put, List.setIfInBounds_toArray, List.set_cons_zero, List.set_cons_succ]
          refine take_lit (i := 7) (v := ?_) rfl (by kernel_rfl) (by kernel_rfl) (by kernel_rfl) (fun _ _ _ h => h) (Or.inl ⟨by rfl, ?hy7⟩) (by assumption) ?_
          case hy7 => (intro w hSw; (try dsimp only at hSw); go_simp; try with_reducible rfl)
          try simp only [Act.put, List.setIfInBounds_toArray, List.set_cons_zero, List.set_cons_succ]
          refine take_lit (i := 8) (v := ?_) rfl (by kernel_rfl) (by kernel_rfl) (by kernel_rfl) (fun _ _ _ h => h) (Or.inl ⟨by rfl, ?hy8⟩) (by assumption) ?_
          case hy8 => (intro w hSw; (try dsimp only at hSw); go_simp; try with_reducible rfl)
          try simp only [Act.put, List.setIfInBounds_toArray, List.set_cons_zero, List.set_cons_succ]
          refine take_lit (i := 9) (v := ?_) rfl (by kernel_rfl) (by kernel_rfl) (by kernel_rfl) (fun _ _ _ h => h) (Or.inl ⟨by rfl, ?hy9⟩) (by assumption) ?_
          case hy9 => (intro w hSw; (try dsimp only at hSw); go_simp; try with_reducible rfl)
          try simp only [Act.put, List.setIfInBounds_toArray, List.set_cons_zero, List.set_cons_succ]
          refine take_lit (i := 10) (v := ?_) rfl (by kernel_rfl) (by kernel_rfl) (by kernel_rfl) (fun _ _ _ h => h) (Or.inl ⟨by rfl, ?hy10⟩) (by assumption) ?_
          case hy10 => (intro w hSw; (try dsimp only at hSw); go_simp; try with_reducible rfl)
          try simp only [Act.put, List.setIfInBounds_toArray, List.set_cons_zero, List.set_cons_succ]
          refine take_lit (i := 11) (v := ?_) rfl (by kernel_rfl) (by kernel_rfl) (by kernel_rfl) (fun _ _ _ h => h) (Or.inl ⟨by rfl, ?hy11⟩) (by assumption) ?_
          case hy11 => (intro w hSw; (try dsimp only at hSw); go_simp; try with_reducible rfl)
          try simp only [Act.put, List.setIfInBounds_toArray, List.set_cons_zero, List.set_cons_succ]
          refine take_lit (i := 12) (v := ?_) rfl (by kernel_rfl) (by kernel_rfl) (by kernel_rfl) (fun _ _ _ h => h) (Or.inl ⟨by rfl, ?hy12⟩) (by assumption) ?_
          case hy12 => (intro w hSw; (try dsimp only at hSw); go_simp; try with_reducible rfl)
          try simp only [Act.put, List.setIfInBounds_toArray, List.set_cons_zero, List.set_cons_succ]
          refine wpAnyH_done (by kernel_rfl) ?_ _
          refine back_last (fun K hK => ?_)
          have fA := World.ownsRow.frozenAt S8.t A
          have xA := hHeld.2.2
          have hS10 := HSet.out _ S8
          clear hHeld
          go_simp
          refine hK.out _ _ ?_
          clear hK K fA xA
          try rw [show max x1 d = if x1 < d then d else x1 by split <;> omega]
          generalize w8.setCell ⟨M1, A, none⟩ (.int .i64 (if x1 < d then d else x1)) = w10 at *
          have HS10 : Hid (LtSt w w10 M1 M3 g.lives.length (.slice (some ⟨rb, 0, none⟩) rides.length cap) rides (ltGo (lt0 g (V : Int) t) (rides.reverse.take (k + 1)))) := by rw [HE2.out]; exact hS10
          clear hS10 S8 HE2 HSet
          generalize (if x1 < d then d else x1) = mx at *
          go_wp2
          go_roundw
          case rel => exact ⟨k + 1, by omega, by rw [← HJn.out], HS10.out⟩
          case measure => simp [intOf] <;> omega
        · have d2 : decide (ar ≤ x2) = false := by simpa using q2
          have HS2 := hideg (HSn.out q2)
          clear HSn HYes
          go_wp2_with fail
          go_quiet (fail)
          clear xa xb c0 c1 c2 c3 c4 c5 y0 y1 y2 y3 y4 hwas q2 d2
          go_wp2
          go_roundw
          case rel => exact ⟨k + 1, by omega, by rw [← HJn.out], HS2.out _⟩
          case measure => simp [intOf] <;> omega
      · have hke : rides.length = k := by omega
        have hm1 : (rides.length : Int) - 1 - (k : Int) = -1 := by omega
        rw [hm1]
        rw [← hke, List.take_of_length_le (by simp), ← HE.out] at S
        have HS := hideg S
        clear S hm1 hke
        go_wp2
        go_ret
        exact ⟨_, rfl, HS.out.t, HS.out.b⟩

/-- what Arrivals and Departures answer -/
def arrA (g : Gr) (v t : Int) : List Int := if placeE g v t = 0 then (erF g v t).1 else []
def depA (g : Gr) (v t : Int) : List Int := if placeE g v t = 0 then ltF g v t else []

set_option maxRecDepth 100000 in
set_option maxHeartbeats 1000000 in
theorem eArr_any (g : Gr) (la ea : Option Addr) (lc ec : Nat) (v t : Int) (w : World) (hG : GAt w la ea g) :
    Calls Try.prog 11 #[.agg #[.int .i64 g.hor, .slice la g.lives.length lc, .slice ea g.edges.length ec], .int .i64 v, .int .i64 t] w fun r w' => ∃ u, r = .returned (.tuple #[u, .int .i64 (placeE g v t)]) ∧ w'.ownsRow w.heap.size 3 1 u (arrA g v t).length ((arrA g v t).map (Value.int .i64)) ∧ Below w.heap.size w w' := by
  have B0 := gbx_start w g la ea lc ec 25
  have h1 := jcheck_any g la ea lc ec v t _ (hG.below B0.bel)
  by_cases e1 : placeE g v t = 0
  case neg =>
    have HP : Hid (arrA g v t = []) := by show _ = _; unfold arrA; rw [if_neg e1]
    have d1 : (placeE g v t != 0) = true := by simpa using e1
    generalize placeE g v t = n at *
    clear e1 hG
    go_enter Try.func11, Try.ntmps11
    go_wp2_with fail
    refine h1.mono ?_
    rintro r w1 ⟨rfl, hb1⟩
    have hbF := (B0.below hb1).bel
    clear h1 hb1 B0
    go_wp2
    (try simp only [Exit.inBlock, Exit.then]); refine bodyPost_ret (results_two_e rfl _ _ _) rfl ?_
    exact ⟨_, rfl, by rw [HP.out]; exact World.ownsRow_nil _ _ _ _, hbF⟩
  have HP : Hid (arrA g v t = (erF g v t).1) := by show _ = _; unfold arrA; rw [if_pos e1]
  have HL := hideg (erF_len g v t).1
  have h2 := fun W (hb : Below w.heap.size w W) => earliest_any g la ea lc ec v t W (hG.below hb) e1
  rw [e1] at h1 ⊢
  generalize (erF g v t).1 = T at *
  generalize (erF g v t).2 = L at *
  have HP2 := HP.out
  have HQ := hideg HP2
  clear hG e1 HP HP2
  go_enter Try.func11, Try.ntmps11
  go_wp2_with fail
  refine h1.mono ?_
  rintro r w1 ⟨rfl, hb1⟩
  have B1 := B0.below hb1
  have g0 := B1.c0
  have g1 := B1.c1
  have g2 := B1.c2
  have hbx := B1.bel
  clear h1 hb1 B0
  go_wp2_with fail
  refine (h2 _ hbx).mono ?_
  rintro r w2 ⟨m1, m2, rfl, hZ, _, hb2⟩
  have HZ := hideg (owns_base2 hZ hbx.size)
  have hbF := ptg hbx hb2
  clear h2 hZ hb2 g0 g1 g2 hbx B1
  go_wp2
  (try simp only [Exit.inBlock, Exit.then]); refine bodyPost_ret (results_two_e rfl _ _ _) rfl ?_
  exact ⟨_, rfl, by rw [HQ.out, HL.out]; exact HZ.out, hbF⟩

set_option maxRecDepth 100000 in
set_option maxHeartbeats 1000000 in
theorem eDep_any (g : Gr) (la ea : Option Addr) (lc ec : Nat) (v t : Int) (w : World) (hG : GAt w la ea g) :
    Calls Try.prog 26 #[.agg #[.int .i64 g.hor, .slice la g.lives.length lc, .slice ea g.edges.length ec], .int .i64 v, .int .i64 t] w fun r w' => ∃ u, r = .returned (.tuple #[u, .int .i64 (placeE g v t)]) ∧ w'.ownsRow w.heap.size 3 1 u (depA g v t).length ((depA g v t).map (Value.int .i64)) ∧ Below w.heap.size w w' := by
  have B0 := gbx_start w g la ea lc ec 25
  have h1 := jcheck_any g la ea lc ec v t _ (hG.below B0.bel)
  by_cases e1 : placeE g v t = 0
  case neg =>
    have HP : Hid (depA g v t = []) := by show _ = _; unfold depA; rw [if_neg e1]
    have d1 : (placeE g v t != 0) = true := by simpa using e1
    generalize placeE g v t = n at *
    clear e1 hG
    go_enter Try.func26, Try.ntmps26
    go_wp2_with fail
    refine h1.mono ?_
    rintro r w1 ⟨rfl, hb1⟩
    have hbF := (B0.below hb1).bel
    clear h1 hb1 B0
    go_wp2
    (try simp only [Exit.inBlock, Exit.then]); refine bodyPost_ret (results_two_e rfl _ _ _) rfl ?_
    exact ⟨_, rfl, by rw [HP.out]; exact World.ownsRow_nil _ _ _ _, hbF⟩
  have HP : Hid (depA g v t = ltF g v t) := by show _ = _; unfold depA; rw [if_pos e1]
  have HL := hideg (ltF_len g v t)
  have h2 := fun W (hb : Below w.heap.size w W) => latest_any g la ea lc ec v t W (hG.below hb) e1
  rw [e1] at h1 ⊢
  generalize ltF g v t = T at *
  have HP2 := HP.out
  have HQ := hideg HP2
  clear hG e1 HP HP2
  go_enter Try.func26, Try.ntmps26
  go_wp2_with fail
  refine h1.mono ?_
  rintro r w1 ⟨rfl, hb1⟩
  have B1 := B0.below hb1
  have g0 := B1.c0
  have g1 := B1.c1
  have g2 := B1.c2
  have hbx := B1.bel
  clear h1 hb1 B0
  go_wp2_with fail
  refine (h2 _ hbx).mono ?_
  rintro r w2 ⟨m1, rfl, hZ, hb2⟩
  have HZ := hideg (owns_base2 hZ hbx.size)
  have hbF := ptg hbx hb2
  clear h2 hZ hb2 g0 g1 g2 hbx B1
  go_wp2
  (try simp only [Exit.inBlock, Exit.then]); refine bodyPost_ret (results_two_e rfl _ _ _) rfl ?_
  exact ⟨_, rfl, by rw [HQ.out, HL.out]; exact HZ.out, hbF⟩

end Go.Proofs.Ytanbbkoleekmjag
