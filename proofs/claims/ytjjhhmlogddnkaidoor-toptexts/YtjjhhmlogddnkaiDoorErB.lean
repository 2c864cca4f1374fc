/-
  What earliest of the program answers: the earliest times, and the last rides.
-/
import Derived.Test.YtjjhhmlogddnkaiDoorErA
import Derived.Test.YtjjhhmlogddnkaiDoorErRep
import Derived.Test.YtjjhhmlogddnkaiDoorRJn
import Derived.OneCell
namespace Go.Proofs.YtjjhhmlogddnkaiDoor
open Go.RowKit

theorem results_two_e {fn : Func} {t u : Tmp} (h : fn.results = #[.tmp t, .tmp u]) (tmps : Array Value) (P : Program) (w : World) :
    (results fn tmps).run P w = .ok (.tuple #[tmps.getD t undef, tmps.getD u undef]) w := by
  simp [results, h]
theorem made_six (n : Nat) : (madeCells (Value.agg #[.int .i64 0, .int .i64 0, .int .i64 0, .int .i64 0, .int .i64 0, .int .i64 0]).cells (n * 6)).toList = encRs (List.replicate n (0, 0, 0, 0, 0, 0)) := by
  apply List.ext_getElem?
  intro j
  have hl : (madeCells (Value.agg #[.int .i64 0, .int .i64 0, .int .i64 0, .int .i64 0, .int .i64 0, .int .i64 0]).cells (n * 6)).toList.length = n * 6 := by rw [Array.length_toList, size_madeCells]
  by_cases hj : j < n * 6
  · have e0 : ∀ x ∈ encRs (List.replicate n ((0 : Int), (0 : Int), (0 : Int), (0 : Int), (0 : Int), (0 : Int))), x = Value.int .i64 0 := by
      intro x hx
      unfold encRs at hx
      simp only [List.mem_flatMap, List.mem_replicate] at hx
      obtain ⟨y, ⟨_, rfl⟩, hy⟩ := hx
      simp [encR] at hy
      exact hy
    have hj2 : j < (encRs (List.replicate n ((0 : Int), (0 : Int), (0 : Int), (0 : Int), (0 : Int), (0 : Int)))).length := by rw [encRs_length, List.length_replicate]; exact hj
    rw [List.getElem?_eq_getElem (by omega), List.getElem?_eq_getElem hj2, e0 _ (List.getElem_mem hj2)]
    congr 1
    have h3 : (Value.agg #[.int .i64 0, .int .i64 0, .int .i64 0, .int .i64 0, .int .i64 0, .int .i64 0]).cells = #[Value.int .i64 0, .int .i64 0, .int .i64 0, .int .i64 0, .int .i64 0, .int .i64 0] := by rfl
    simp only [madeCells, h3, Array.getElem_toList, Array.getElem_map, Array.getElem_range]
    have : j % 6 = 0 ∨ j % 6 = 1 ∨ j % 6 = 2 ∨ j % 6 = 3 ∨ j % 6 = 4 ∨ j % 6 = 5 := by omega
    rcases this with e | e | e | e | e | e <;> simp [e]
  · rw [List.getElem?_eq_none (by omega), List.getElem?_eq_none (by rw [encRs_length, List.length_replicate]; omega)]
theorem encRs_cons (x : Ri) (l : List Ri) : encRs (x :: l) = .int .i64 x.1 :: .int .i64 x.2.1 :: .int .i64 x.2.2.1 :: .int .i64 x.2.2.2.1 :: .int .i64 x.2.2.2.2.1 :: .int .i64 x.2.2.2.2.2 :: encRs l := by simp [encRs, encR]
theorem encRs_set : ∀ (m : List Ri) (k : Nat) (q : Ri), k < m.length → ((((((encRs m).set (k * 6) (.int .i64 q.1)).set (k * 6 + 1) (.int .i64 q.2.1)).set (k * 6 + 2) (.int .i64 q.2.2.1)).set (k * 6 + 3) (.int .i64 q.2.2.2.1)).set (k * 6 + 4) (.int .i64 q.2.2.2.2.1)).set (k * 6 + 5) (.int .i64 q.2.2.2.2.2) = encRs (m.set k q)
  | [], k, q, h => by simp at h
  | x :: m, 0, q, _ => by
    have e : (x :: m).set 0 q = q :: m := rfl
    rw [e, encRs_cons, encRs_cons]; rfl
  | x :: m, k + 1, q, h => by
    have ih := encRs_set m k q (by simpa using h)
    have e : (x :: m).set (k + 1) q = x :: m.set k q := rfl
    rw [e, encRs_cons, encRs_cons, ← ih, show (k + 1) * 6 = k * 6 + 1 + 1 + 1 + 1 + 1 + 1 from by omega]
    rfl
/-- a row of rides, in memory of the call's own -/
abbrev Ro (w : World) (base gb n cap : Nat) (x : List Ri) : Prop := w.ownsRow base 68 6 (.slice (some ⟨gb, 0, none⟩) n cap) n (encRs x)
theorem Ro.len {w : World} {base gb n cap : Nat} {x : List Ri} (h : Ro w base gb n cap x) : x.length = n := by have := h.1; rw [encRs_length] at this; omega
theorem Ro.one {w : World} {base gb n cap : Nat} {x : List Ri} (h : Ro w base gb n cap x) {k : Nat} (hk : k < n) : RdOne w gb (k * 6) (x.getD k ri0) := by
  have hl := h.len
  obtain ⟨f0, f1, f2, f3, f4, f5⟩ := encRs_get x k (by omega)
  refine ⟨?_, ?_, ?_, ?_, ?_, ?_⟩
  · rw [World.ownsRow.cellAt h (k * 6) (by omega)]; exact f0
  · rw [World.ownsRow.cellAt h (k * 6 + 1) (by omega)]; exact f1
  · rw [World.ownsRow.cellAt h (k * 6 + 2) (by omega)]; exact f2
  · rw [World.ownsRow.cellAt h (k * 6 + 3) (by omega)]; exact f3
  · rw [World.ownsRow.cellAt h (k * 6 + 4) (by omega)]; exact f4
  · rw [World.ownsRow.cellAt h (k * 6 + 5) (by omega)]; exact f5
/-- a ride written into five cells -/
def setR (w : World) (gb k : Nat) (q : Ri) : World := (((((w.setCell ⟨gb, k * 6, none⟩ (.int .i64 q.1)).setCell ⟨gb, k * 6 + 1, none⟩ (.int .i64 q.2.1)).setCell ⟨gb, k * 6 + 2, none⟩ (.int .i64 q.2.2.1)).setCell ⟨gb, k * 6 + 3, none⟩ (.int .i64 q.2.2.2.1)).setCell ⟨gb, k * 6 + 4, none⟩ (.int .i64 q.2.2.2.2.1)).setCell ⟨gb, k * 6 + 5, none⟩ (.int .i64 q.2.2.2.2.2)
theorem Ro.set {w : World} {base gb n cap : Nat} {x : List Ri} (h : Ro w base gb n cap x) {k : Nat} (hk : k < n) (q : Ri) : Ro (setR w gb k q) base gb n cap (x.set k q) := by
  have hl := h.len
  have h5 := (World.ownsRow.stored ((World.ownsRow.stored ((World.ownsRow.stored ((World.ownsRow.stored ((World.ownsRow.stored ((World.ownsRow.stored h (k * 6) (.int .i64 q.1)).1) (k * 6 + 1) (.int .i64 q.2.1)).1) (k * 6 + 2) (.int .i64 q.2.2.1)).1) (k * 6 + 3) (.int .i64 q.2.2.2.1)).1) (k * 6 + 4) (.int .i64 q.2.2.2.2.1)).1) (k * 6 + 5) (.int .i64 q.2.2.2.2.2)).1
  rw [encRs_set x k q (by omega)] at h5
  exact h5
theorem setR_other {w : World} {base : Nat} {e : TypeId} {size : Nat} {v : Value} {n : Nat} {xs : List Value} (h : w.ownsRow base e size v n xs) {gb k : Nat} (ha : v.ownBlock ≠ some gb) (q : Ri) : (setR w gb k q).ownsRow base e size v n xs :=
  ownsRow_setCell_other (ownsRow_setCell_other (ownsRow_setCell_other (ownsRow_setCell_other (ownsRow_setCell_other (ownsRow_setCell_other h ha _) ha _) ha _) ha _) ha _) ha _
theorem setR_below {B : Nat} {w0 w : World} (h : Below B w0 w) {gb : Nat} (hg : B ≤ gb) (k : Nat) (q : Ri) : Below B w0 (setR w gb k q) :=
  (((((h.setCell (p := ⟨gb, k * 6, none⟩) hg _).setCell (p := ⟨gb, k * 6 + 1, none⟩) hg _).setCell (p := ⟨gb, k * 6 + 2, none⟩) hg _).setCell (p := ⟨gb, k * 6 + 3, none⟩) hg _).setCell (p := ⟨gb, k * 6 + 4, none⟩) hg _).setCell (p := ⟨gb, k * 6 + 5, none⟩) hg _
theorem cellFar {w : World} {b j b' j' : Nat} {v : Value} (h : b' ≠ b) : (w.setCell ⟨b, j, none⟩ v).cell? ⟨b', j', none⟩ = w.cell? ⟨b', j', none⟩ := by
  refine World.cell?_setCell_other _ _ _ _ (fun e => h ?_)
  have := congrArg Addr.block e
  exact this.symm
theorem own_none {v : Value} {b : Nat} (h : ∀ k, v.ownBlock = some k → b < k) : v.ownBlock ≠ some b := fun e => Nat.lt_irrefl _ (h b e)

/-- what earliest holds while it looks at the rides -/
structure ErSt (w0 w : World) (m1 m2 m3 n : Nat) (u : Value) (rides : List Ri) (T : List Int) (L : List Ri) : Prop where
  t : Zo w w0.heap.size m1 n n T
  l : Ro w w0.heap.size m2 n n L
  r : w.ownsRow m3 68 6 u rides.length (encRs rides)
  b : Below w0.heap.size w0 w
theorem ErSt.below {w0 w w' : World} {m1 m2 m3 n : Nat} {u : Value} {rides : List Ri} {T : List Int} {L : List Ri} (h : ErSt w0 w m1 m2 m3 n u rides T L) (hb : Below w.heap.size w w') : ErSt w0 w' m1 m2 m3 n u rides T L :=
  ⟨ownsRow_below h.t hb, ownsRow_below h.l hb, ownsRow_below h.r hb, h.b.trans (hb.mono h.b.size)⟩
theorem ErSt.set {w0 w : World} {m1 m2 m3 n : Nat} {u : Value} {rides : List Ri} {T : List Int} {L : List Ri} (h : ErSt w0 w m1 m2 m3 n u rides T L) (h12 : m1 < m2) (h23 : m2 < m3) {k : Nat} (hk : k < n) (x : Int) (q : Ri) :
    ErSt w0 (setR (w.setCell ⟨m1, k, none⟩ (.int .i64 x)) m2 k q) m1 m2 m3 n u rides (T.set k x) (L.set k q) := by
  have hm1 : w0.heap.size ≤ m1 := (h.t.lt m1 rfl).1
  have hu : ∀ b, b < m3 → u.ownBlock ≠ some b := fun b hb => own_none fun k hk => Nat.lt_of_lt_of_le hb (h.r.lt k hk).1
  refine ⟨setR_other (h.t.set k x) (by simp [Value.ownBlock]; omega) q, ?_, setR_other (ownsRow_setCell_other h.r (hu m1 (by omega)) _) (hu m2 h23) q, setR_below (h.b.setCell (p := ⟨m1, k, none⟩) hm1 _) (by omega) k q⟩
  exact Ro.set (ownsRow_setCell_other h.l (by simp [Value.ownBlock]; omega) _) hk q
theorem ErSt.ride {w0 w : World} {m1 m2 m3 n : Nat} {u : Value} {rides : List Ri} {T : List Int} {L : List Ri} (h : ErSt w0 w m1 m2 m3 n u rides T L) {k : Nat} (hk : k < rides.length) : ∃ rb cap, u = .slice (some ⟨rb, 0, none⟩) rides.length cap ∧ rb < w.heap.size ∧ RdOne w rb (k * 6) (rides.getD k ri0) := by
  have hr := h.r
  rcases hr.2 with ⟨_, h0⟩ | ⟨rb, cap, cur, e, _, hh, _⟩
  · omega
  · rw [e] at hr
    exact ⟨rb, cap, e, (Array.getElem?_eq_some_iff.1 hh).1, Ro.one hr hk⟩

set_option maxRecDepth 100000 in
set_option maxHeartbeats 400000 in
theorem earliest_any (g : Gr) (la ea : Option Addr) (lc ec : Nat) (v t : Int) (w : World) (hG : GAt w la ea g) (hpl : placeE g v t = 0) :
    Calls Tryd.prog 18 #[.agg #[.int .i64 g.hor, .slice la g.lives.length lc, .slice ea g.edges.length ec], .int .i64 v, .int .i64 t] w fun r w' => ∃ m1 m2, r = .returned (.tuple #[.slice (some ⟨m1, 0, none⟩) g.lives.length g.lives.length, .slice (some ⟨m2, 0, none⟩) g.lives.length g.lives.length]) ∧ Zo w' w.heap.size m1 g.lives.length g.lives.length (erF g v t).1 ∧ Ro w' w.heap.size m2 g.lives.length g.lives.length (erF g v t).2 ∧ Below w.heap.size w w' := by
  obtain ⟨i0, hi, hz0, hz1, hz2⟩ := info_parts Tryd.infoRide
  obtain ⟨hg0, ⟨hv0, hv1⟩, ht0, ht1⟩ := placeE_zero hpl
  have hR := gChk_right hg0
  have hn12 := hR.lvs
  obtain ⟨V, rfl⟩ : ∃ V : Nat, v = (V : Int) := ⟨v.toNat, by omega⟩
  have hVg : V < g.lives.length := by omega
  obtain ⟨w1, hw1⟩ : ∃ x, x = w.alloc (.cells #[.int .i64 g.hor, .slice la g.lives.length lc, .slice ea g.edges.length ec] 25) := ⟨_, rfl⟩
  have B1 : GBx w w1 w.heap.size g la ea lc ec := by rw [hw1]; exact gbx_start w g la ea lc ec 25
  obtain ⟨w2, hw2⟩ : ∃ x, x = w1.alloc (.cells #[.int .i64 1099511627776] 3) := ⟨_, rfl⟩
  have B2 : GBx w w2 w.heap.size g la ea lc ec := by rw [hw2]; exact B1.below (gal w1 _)
  have hs1 : w1.heap.size = w.heap.size + 1 := by rw [hw1]; simp
  have hs2 : w2.heap.size = w.heap.size + 1 + 1 := by rw [hw2]; simp [hs1]
  have hRep := Repeat_any 1099511627776 (w.heap.size + 1) 0 1 g.lives.length (by omega) w2 (by rw [hw2]; exact new_cell hs1.symm rfl) (by omega)
  have g1 := B2.c1
  have HG := hideg hG
  have HB2 := hideg B2
  have HRt := hideg hR
  have hw1s := hw1.symm
  have hw2s := hw2.symm
  clear hG hpl hg0 hR B1 B2 hw1 hw2
  go_enter Tryd.func18, Tryd.ntmps18
  go_wp2_with fail
  refine hRep.mono ?_
  rintro r w3 ⟨rfl, hZ3, hb3⟩
  have B3 := HB2.out.below hb3
  have g1' := B3.c1
  have hs3 := (World.ownsRow.lt hZ3 _ rfl).2
  clear hRep hw1s hw2s g1 HB2
  go_wp2_with (at_make; refine wpList_make_full _ rfl _ _ 61 rfl w.heap.size 68 i0 _ 6 Tryd.underlying61 hi hz0 hz1 .i64 .i64 _ _ g.lives.length rfl rfl rfl rfl (by rw [hz2]; omega) (by unfold maxLen; omega) (by omega) ?_; intro w4 hown4 hgrow4; refine stopHereR ?_)
  refine hideg ?_
  rw [made_six] at hown4
  have hb4 : Below w3.heap.size w3 w4 := (Below.refl _ _).grown hgrow4 (Nat.le_refl _) (fun k hk => by cases hk)
  have B4 := B3.below hb4
  have hZ4 := owns_base2 (ownsRow_below hZ3 hb4) (show w.heap.size ≤ w2.heap.size by omega)
  have hGA := HG.out.below B4.bel
  obtain ⟨lb, lof, rfl, hlb, hlc⟩ : ∃ b off, la = some ⟨b, off, none⟩ ∧ b < w4.heap.size ∧ (w4.cell? ⟨b, off + V * 2, none⟩ = some (.int .i64 g.lives[V].1) ∧ w4.cell? ⟨b, off + V * 2 + 1, none⟩ = some (.int .i64 g.lives[V].2)) := by
    rcases hGA.lv with h0 | ⟨b, off, rfl, hbr, hc⟩
    · rw [h0] at hVg; simp at hVg
    exact ⟨b, off, rfl, hbr, IvAt.get hVg hc⟩
  obtain ⟨lc0, lc1⟩ := hlc
  have g1 := B4.c1
  have hs4 := (World.ownsRow.lt hown4 _ rfl).2
  have hal := fun W => jalive_any g.lives[V].1 g.lives[V].2 t W
  rw [← aliveB_at t g.lives V hVg] at hal
  have HB4 := hideg B4
  clear hgrow4 hb4 B3 B4 hZ3 hb3 g1' hGA
  cases ha : aliveB t g.lives (V : Int) with
  | false =>
    rw [ha] at hal
    have HE : Hid (erF g (V : Int) t = (List.replicate g.lives.length 1099511627776, List.replicate g.lives.length (0, 0, 0, 0, 0, 0))) := by show _ = _; unfold erF; rw [if_neg (by rw [ha]; simp)]
    clear ha
    go_wp2_with fail
    refine (hal _).mono ?_
    rintro r w5 ⟨rfl, hb5⟩
    have hZ5 := ownsRow_below hZ4 hb5
    rw [hs2] at hZ5
    have HZ5 := hideg hZ5
    have HL5 := hideg (ownsRow_below hown4 hb5)
    have HB5 := hideg (HB4.out.below hb5).bel
    clear hal hb5 hZ4 hown4 HB4 lc0 lc1 g1 hZ5
    go_wp2
    (try simp only [Exit.inBlock, Exit.then]); refine bodyPost_ret (results_two_e rfl _ _ _) rfl ?_
    exact ⟨_, _, rfl, by rw [HE.out]; exact HZ5.out, by rw [HE.out]; exact HL5.out, HB5.out⟩
  | true =>
    rw [ha] at hal
    have HE : Hid (erF g (V : Int) t = erGo (er0 g (V : Int) t) (ridesF g)) := by show _ = _; unfold erF; rw [if_pos ha]
    clear ha
    go_wp2_with fail
    refine (hal _).mono ?_
    rintro r w5 ⟨rfl, hb5⟩
    have hZ5 := ownsRow_below hZ4 hb5
    have hL5 := ownsRow_below hown4 hb5
    have B5 := HB4.out.below hb5
    have hs5 := hb5.size
    have fz := World.ownsRow.frozenAt hZ5 V
    have cv := Zo.cell hZ5 hVg
    rw [hs2] at fz cv
    clear hal hb5 hZ4 hown4 HB4 lc0 lc1 g1
    obtain ⟨w6, hw6⟩ : ∃ x, x = w5.setCell ⟨w.heap.size + 1 + 1, V, none⟩ (.int .i64 t) := ⟨_, rfl⟩
    have hZ6 : Zo w6 w.heap.size (w.heap.size + 1 + 1) g.lives.length g.lives.length (er0 g (V : Int) t).1 := by
      rw [hw6]; rw [hs2] at hZ5
      have := Zo.set hZ5 V t
      simpa [er0] using this
    have hL6 : Ro w6 w.heap.size w3.heap.size g.lives.length g.lives.length (er0 g (V : Int) t).2 := by
      rw [hw6]; exact ownsRow_setCell_other hL5 (by simp [Value.ownBlock]; omega) _
    have hb6 : Below w.heap.size w w6 := by rw [hw6]; exact B5.bel.setCell (p := ⟨w.heap.size + 1 + 1, V, none⟩) (by simp only; omega) _
    have hs6 : w5.heap.size = w6.heap.size := by rw [hw6]; simp [World.setCell]
    have k0 : w6.cell? ⟨w.heap.size, 0, none⟩ = some (.int .i64 g.hor) := by rw [hw6, cellFar (by omega)]; exact B5.c0
    have k1 : w6.cell? ⟨w.heap.size, 1, none⟩ = some (.slice (some ⟨lb, lof, none⟩) g.lives.length lc) := by rw [hw6, cellFar (by omega)]; exact B5.c1
    have k2 : w6.cell? ⟨w.heap.size, 2, none⟩ = some (.slice ea g.edges.length ec) := by rw [hw6, cellFar (by omega)]; exact B5.c2
    have hRd := Rides_any g (some ⟨lb, lof, none⟩) ea lc ec w6 (HG.out.below hb6) HRt.out
    have hw6s := hw6.symm
    clear hw6 hZ5 hL5 B5
    obtain ⟨M1, hM1⟩ : ∃ M, M = w.heap.size + 1 + 1 := ⟨_, rfl⟩
    obtain ⟨M2, hM2⟩ : ∃ M, M = w3.heap.size := ⟨_, rfl⟩
    obtain ⟨M3, hM3⟩ : ∃ M, M = w6.heap.size := ⟨_, rfl⟩
    have h12 : M1 < M2 := by omega
    have h23 : M2 < M3 := by omega
    go_wp2_with fail
    refine hRd.mono ?_
    rintro r w7 ⟨u, rfl, hu7, hb7⟩
    rw [← hM1, ← hM2]
    rw [← hM1] at hZ6
    rw [← hM2] at hL6
    rw [← hM3] at hu7
    have S7 : ErSt w w7 M1 M2 M3 g.lives.length u (ridesF g) (erGo (er0 g (V : Int) t) ((ridesF g).take 0)).1 (erGo (er0 g (V : Int) t) ((ridesF g).take 0)).2 := ⟨ownsRow_below hZ6 hb7, ownsRow_below hL6 hb7, hu7, hb6.trans (hb7.mono hb6.size)⟩
    have hok : ∀ r ∈ ridesF g, RideOk g r := fun r hr => mem_rides HRt.out hr
    have hll : (ridesF g).length ≤ 3000 := Nat.le_trans (ridesTo_len g _) (Nat.le_trans (Nat.mul_le_mul (show g.hor.toNat ≤ 100 by have := HRt.out.hor; omega) HRt.out.eds) (by omega))
    obtain ⟨ao, cap, rfl, _⟩ := rdAt_of_owns hu7
    generalize ridesF g = rides at *
    have HOk := hideg hok
    clear hRd hw6s hZ6 hL6 hb6 hu7 hb7 k0 k1 k2 fz cv hM1 hM2 hM3 hs6 hs5 hs4 hs3 hs2 hs1 HG HRt hok hlb
    go_wp2_with fail
    go_loopw [38] (fun i wr => ∃ k : Nat, k ≤ rides.length ∧ i = .int .i64 k ∧ ErSt w wr M1 M2 M3 g.lives.length (.slice ao rides.length cap) rides (erGo (er0 g (V : Int) t) (rides.take k)).1 (erGo (er0 g (V : Int) t) (rides.take k)).2) (fun i _ => rides.length - (intOf i).toNat)
    case atStart => exact ⟨0, Nat.zero_le _, rfl, S7⟩
    case round =>
      clear S7
      obtain ⟨k, hk, rfl, S⟩ := hrel
      by_cases hkl : k < rides.length
      · have hkli : (k : Int) < (rides.length : Int) := by omega
        have hkw : IntKind.i64.wrap ((k : Int) + 1) = (k : Int) + 1 := wrap_nj _ (by omega) (by omega)
        obtain ⟨rb, cap', e, hrb, hRo⟩ := S.ride hkl
        simp only [Value.slice.injEq, true_and] at e
        obtain ⟨rfl, rfl⟩ := e
        have hmem := HOk.out rides[k] (List.getElem_mem hkl)
        have hgd : rides.getD k ri0 = rides[k] := by rw [List.getD_eq_getElem?_getD, List.getElem?_eq_getElem hkl]; rfl
        have HT := hideg (erGo_take (s := er0 g (V : Int) t) hkl)
        rw [hgd] at hRo
        generalize rides[k] = rr at *
        obtain ⟨E, d, a, b, ar, c⟩ := rr
        have ha0 := hmem.a0
        have hb0 := hmem.b0
        simp only at ha0 hb0
        obtain ⟨A, rfl⟩ : ∃ A : Nat, a = (A : Int) := ⟨a.toNat, by omega⟩
        obtain ⟨B, rfl⟩ : ∃ B : Nat, b = (B : Int) := ⟨b.toNat, by omega⟩
        have hA : A < g.lives.length := by omega
        have hB : B < g.lives.length := by omega
        generalize (erGo (er0 g (V : Int) t) (rides.take k)).1 = T at *
        generalize (erGo (er0 g (V : Int) t) (rides.take k)).2 = L at *
        obtain ⟨wa, hwa⟩ : ∃ x, x = wr.alloc (.cells #[.int .i64 E, .int .i64 d, .int .i64 (A : Int), .int .i64 (B : Int), .int .i64 ar, .int .i64 c] 68) := ⟨_, rfl⟩
        have c0 := hRo.c0
        have c1 := hRo.c1
        have c2 := hRo.c2
        have c3 := hRo.c3
        have c4 := hRo.c4
        have c5 := hRo.c5
        simp only at c0 c1 c2 c3 c4 c5
        have Sa : ErSt w wa M1 M2 M3 g.lives.length (.slice (some ⟨rb, 0, none⟩) rides.length cap) rides T L := by rw [hwa]; exact S.below (gal wr _)
        have xa := Zo.cell Sa.t hA
        have xb := Zo.cell Sa.t hB
        have y0 : wa.cell? ⟨wr.heap.size, 0, none⟩ = some (.int .i64 E) := by rw [hwa]; exact new_cell rfl rfl
        have y1 : wa.cell? ⟨wr.heap.size, 1, none⟩ = some (.int .i64 d) := by rw [hwa]; exact new_cell rfl rfl
        have y2 : wa.cell? ⟨wr.heap.size, 2, none⟩ = some (.int .i64 (A : Int)) := by rw [hwa]; exact new_cell rfl rfl
        have y3 : wa.cell? ⟨wr.heap.size, 3, none⟩ = some (.int .i64 (B : Int)) := by rw [hwa]; exact new_cell rfl rfl
        have y4 : wa.cell? ⟨wr.heap.size, 4, none⟩ = some (.int .i64 ar) := by rw [hwa]; exact new_cell rfl rfl
        have y5 : wa.cell? ⟨wr.heap.size, 5, none⟩ = some (.int .i64 c) := by rw [hwa]; exact new_cell rfl rfl
        have hwas := hwa.symm
        have HSa := hideg Sa
        have HS0 : Hid (M1 < wr.heap.size ∧ M2 < wr.heap.size) := ⟨(World.ownsRow.lt S.t _ rfl).2, (World.ownsRow.lt S.l _ rfl).2⟩
        clear hRo S Sa hmem hgd hwa
        obtain ⟨x1, hx1⟩ : ∃ x, x = T.getD A 0 := ⟨_, rfl⟩
        obtain ⟨x2, hx2⟩ : ∃ x, x = T.getD B 0 := ⟨_, rfl⟩
        rw [← hx1] at xa
        rw [← hx2] at xb
        have HX1 := hideg hx1
        have HX2 := hideg hx2
        have hAi : (A : Int) < (g.lives.length : Int) := by omega
        have hBi : (B : Int) < (g.lives.length : Int) := by omega
        have HNo : Hid (¬ (x1 ≤ d ∧ ar < x2) → erGo (er0 g (V : Int) t) (rides.take (k + 1)) = (T, L)) := by
          intro h
          rw [HT.out]
          unfold erT erL
          simp only [Int.toNat_natCast]
          rw [← HX1.out, ← HX2.out, if_neg h, if_neg h]
        have HYes : Hid (x1 ≤ d ∧ ar < x2 → erGo (er0 g (V : Int) t) (rides.take (k + 1)) = (T.set B ar, L.set B (E, d, (A : Int), (B : Int), ar, c))) := by
          intro h
          rw [HT.out]
          unfold erT erL
          simp only [Int.toNat_natCast]
          rw [← HX1.out, ← HX2.out, if_pos h, if_pos h]
        have HSn : Hid (¬ (x1 ≤ d ∧ ar < x2) → ∀ N, ErSt w (wa.drewN N) M1 M2 M3 g.lives.length (.slice (some ⟨rb, 0, none⟩) rides.length cap) rides (erGo (er0 g (V : Int) t) (rides.take (k + 1))).1 (erGo (er0 g (V : Int) t) (rides.take (k + 1))).2) := by
          intro h N
          rw [HNo.out h]
          exact HSa.out.below (below_drewN (Below.refl _ _) N)
        clear hx1 hx2 HT HNo
        by_cases q1 : x1 ≤ d
        · have d1 : decide (x1 ≤ d) = true := by simpa using q1
          by_cases q2 : ar < x2
          · have d2 : decide (ar < x2) = true := by simpa using q2
            have HE2 := hideg (HYes.out ⟨q1, q2⟩)
            have hne1 : wr.heap.size ≠ M1 := by have := HS0.out.1; omega
            have hne2 : wr.heap.size ≠ M2 := by have := HS0.out.2; omega
            have HSet := hideg (fun (W : World) (h : ErSt w W M1 M2 M3 g.lives.length (.slice (some ⟨rb, 0, none⟩) rides.length cap) rides T L) => h.set h12 h23 hB ar (E, d, (A : Int), (B : Int), ar, c))
            clear HSn HYes
            go_wp2_with fail
            go_quiet (fail)
            clear xa xb q1 q2 d1 d2 c0 c1 c2 c3 c4 c5
            go_wp2_with fail
            refine Go.wp_region_held (S := fun w3 => w3.cell? ⟨wr.heap.size, 0, none⟩ = some (.int .i64 E) ∧ w3.cell? ⟨wr.heap.size, 1, none⟩ = some (.int .i64 d) ∧ w3.cell? ⟨wr.heap.size, 2, none⟩ = some (.int .i64 (A : Int)) ∧ w3.cell? ⟨wr.heap.size, 3, none⟩ = some (.int .i64 (B : Int)) ∧ w3.cell? ⟨wr.heap.size, 4, none⟩ = some (.int .i64 ar) ∧ w3.cell? ⟨wr.heap.size, 5, none⟩ = some (.int .i64 c)) (by kernel_rfl) ?_
            generalize hw8 : ({ wa.drewN nq with drawn := (wa.drewN nq).drawn + 1 } : World) = w8
            have S8 : ErSt w w8 M1 M2 M3 g.lives.length (.slice (some ⟨rb, 0, none⟩) rides.length cap) rides T L := by rw [← hw8]; exact HSa.out.below (below_drewN (Below.refl _ _) (nq + 1))
            have hS0 : w8.cell? ⟨wr.heap.size, 0, none⟩ = some (.int .i64 E) ∧ w8.cell? ⟨wr.heap.size, 1, none⟩ = some (.int .i64 d) ∧ w8.cell? ⟨wr.heap.size, 2, none⟩ = some (.int .i64 (A : Int)) ∧ w8.cell? ⟨wr.heap.size, 3, none⟩ = some (.int .i64 (B : Int)) ∧ w8.cell? ⟨wr.heap.size, 4, none⟩ = some (.int .i64 ar) ∧ w8.cell? ⟨wr.heap.size, 5, none⟩ = some (.int .i64 c) := by rw [← hw8]; exact ⟨y0, y1, y2, y3, y4, y5⟩
            clear hw8 y0 y1 y2 y3 y4 y5
            refine take_lit (i := 0) (v := ?_) rfl (by kernel_rfl) (by kernel_rfl) (by kernel_rfl) (fun _ _ _ h => h) (Or.inl ⟨by rfl, ?hy0⟩) (by assumption) ?_
            case hy0 => (intro w hSw; (try dsimp only at hSw); go_simp; try with_reducible rfl)
            try simp only [Act.put, List.setIfInBounds_toArray, List.set_cons_zero, List.set_cons_succ]
            refine take_lit (i := 1) (v := ?_) rfl (by kernel_rfl) (by kernel_rfl) (by kernel_rfl) (fun _ _ _ h => h) (Or.inl ⟨by rfl, ?hy1⟩) (by assumption) ?_
            case hy1 => (intro w hSw; (try dsimp only at hSw); go_simp; try with_reducible rfl)
            try simp only [Act.put, List.setIfInBounds_toArray, List.set_cons_zero, List.set_cons_succ]
            refine take_lit (i := 2) (v := ?_) rfl (by kernel_rfl) (by kernel_rfl) (by kernel_rfl) (fun _ _ _ h => h) (Or.inl ⟨by rfl, ?hy2⟩) (by assumption) ?_
            case hy2 => (intro w hSw; (try dsimp only at hSw); go_simp; try with_reducible rfl)
            try simp only [Act.put, List.setIfInBounds_toArray, List.set_cons_zero, List.set_cons_succ]
            refine take_lit (i := 3) (v := ?_) rfl (by kernel_rfl) (by kernel_rfl) (by kernel_rfl) (fun _ _ _ h => h) (Or.inl ⟨by rfl, ?hy3⟩) (by assumption) ?_
            case hy3 => (intro w hSw; (try dsimp only at hSw); go_simp; try with_reducible rfl)
            try simp only [Act.put, List.setIfInBounds_toArray, List.set_cons_zero, List.set_cons_succ]
            refine take_lit (i := 4) (v := ?_) rfl (by kernel_rfl) (by kernel_rfl) (by kernel_rfl) (fun _ _ _ h => h) (Or.inl ⟨by rfl, ?hy4⟩) (by assumption) ?_
            case hy4 => (intro w hSw; (try dsimp only at hSw); go_simp; try with_reducible rfl)
            try simp only [Act.put, List.setIfInBounds_toArray, List.set_cons_zero, List.set_cons_succ]
            refine take_lit (i := 5) (v := ?_) rfl (by kernel_rfl) (by kernel_rfl) (by kernel_rfl) (fun _ _ _ h => h) (Or.inl ⟨by rfl, ?hy5⟩) (by assumption) ?_
            case hy5 => (intro w hSw; (try dsimp only at hSw); go_simp; try with_reducible rfl)
            try simp only [Act.put, List.setIfInBounds_toArray, List.set_cons_zero, List.set_cons_succ]
            refine take_lit (i := 6) (v := ?_) rfl (by kernel_rfl) (by kernel_rfl) (by kernel_rfl) (fun _ _ _ h => h) (Or.inl ⟨by rfl, ?hy6⟩) (by assumption) ?_
            case hy6 => (intro w hSw; (try dsimp only at hSw); go_simp; try with_reducible rfl)
            try simp only [Act.put, List.setIfInBounds_toArray, List.set_cons_zero, List.set_cons_succ]
            refine take_lit (i := 7) (v := ?_) rfl (by kernel_rfl) (by kernel_rfl) (by kernel_rfl) (fun _ _ _ h => h) (Or.inl ⟨by rfl, ?hy7⟩) (by assumption) ?_
            case hy7 => (intro w hSw; (try dsimp only at hSw); go_simp; try with_reducible rfl)
            try simp only [Act.put, List.setIfInBounds_toArray, List.set_cons_zero, List.set_cons_succ]
            refine take_lit (i := 8) (v := ?_) rfl (by kernel_rfl) (by kernel_rfl) (by kernel_rfl) (fun _ _ _ h => h) (Or.inl ⟨by rfl, ?hy8⟩) (by assumption) ?_
            case hy8 => (intro w hSw; (try dsimp only at hSw); go_simp; try with_reducible rfl)
            try simp only [Act.put, List.setIfInBounds_toArray, List.set_cons_zero, List.set_cons_succ]
            refine take_lit (i := 9) (v := ?_) rfl (by kernel_rfl) (by kernel_rfl) (by kernel_rfl) (fun _ _ _ h => h) (Or.inl ⟨by rfl, ?hy9⟩) (by assumption) ?_
            case hy9 => (intro w hSw; (try dsimp only at hSw); go_simp; try with_reducible rfl)
            try simp only [Act.put, List.setIfInBounds_toArray, List.set_cons_zero, List.set_cons_succ]
            refine next_lit (i := 10) rfl (by kernel_rfl) (fun K hK => ?_)
            have fB := World.ownsRow.frozenAt S8.t B
            have xB := Zo.cell S8.t hB
            go_simp
            have hS9 : (w8.setCell ⟨M1, B, none⟩ (.int .i64 ar)).cell? ⟨wr.heap.size, 0, none⟩ = some (.int .i64 E) ∧ (w8.setCell ⟨M1, B, none⟩ (.int .i64 ar)).cell? ⟨wr.heap.size, 1, none⟩ = some (.int .i64 d) ∧ (w8.setCell ⟨M1, B, none⟩ (.int .i64 ar)).cell? ⟨wr.heap.size, 2, none⟩ = some (.int .i64 (A : Int)) ∧ (w8.setCell ⟨M1, B, none⟩ (.int .i64 ar)).cell? ⟨wr.heap.size, 3, none⟩ = some (.int .i64 (B : Int)) ∧ (w8.setCell ⟨M1, B, none⟩ (.int .i64 ar)).cell? ⟨wr.heap.size, 4, none⟩ = some (.int .i64 ar) ∧ (w8.setCell ⟨M1, B, none⟩ (.int .i64 ar)).cell? ⟨wr.heap.size, 5, none⟩ = some (.int .i64 c) := by
              rw [cellFar hne1, cellFar hne1, cellFar hne1, cellFar hne1, cellFar hne1, cellFar hne1]; exact hS0
            refine hK.out _ _ hS9 (fun _ => ?_)
            clear hK K fB xB
            try simp only [Act.put, List.setIfInBounds_toArray, List.set_cons_zero, List.set_cons_succ]
            refine take_lit (i := 11) (v := ?_) rfl (by kernel_rfl) (by kernel_rfl) (by kernel_rfl) (fun _ _ _ h => h) (Or.inl ⟨by rfl, ?hy11⟩) (by assumption) ?_
            case hy11 => (intro w hSw; (try dsimp only at hSw); go_simp; try with_reducible rfl)
            try simp only [Act.put, List.setIfInBounds_toArray, List.set_cons_zero, List.set_cons_succ]
            refine next_lit (i := 12) rfl (by kernel_rfl) (fun K hK => ?_)
            have l9 := ownsRow_setCell_other S8.l (a := ⟨M1, B, none⟩) (by simp [Value.ownBlock]; omega) (.int .i64 ar)
            have l5 := Ro.one l9 hB
            have fL := fun j => World.ownsRow.frozenAt l9 j
            have z0 := l5.c0
            have z1 := l5.c1
            have z2 := l5.c2
            have z3 := l5.c3
            have z4 := l5.c4
            have z5 := l5.c5
            have hS10 := HSet.out _ S8
            clear l5 l9
            unfold setR at hS10
            simp only at hS10
            generalize w8.setCell ⟨M1, B, none⟩ (.int .i64 ar) = w9 at *
            go_simp
            refine hK.out _ _ (by simp only [cellFar hne2]; exact hS9) (fun _ => ?_)
            clear hK K z0 z1 z2 z3 z4 z5 fL hS0 hS9
            refine wpAnyH_done (by kernel_rfl) ?_ _
            generalize (((((w9.setCell ⟨M2, B * 6, none⟩ (.int .i64 E)).setCell ⟨M2, B * 6 + 1, none⟩ (.int .i64 d)).setCell ⟨M2, B * 6 + 2, none⟩ (.int .i64 (A : Int))).setCell ⟨M2, B * 6 + 3, none⟩ (.int .i64 (B : Int))).setCell ⟨M2, B * 6 + 4, none⟩ (.int .i64 ar)).setCell ⟨M2, B * 6 + 5, none⟩ (.int .i64 c) = w10 at *
            have HS10 : Hid (ErSt w w10 M1 M2 M3 g.lives.length (.slice (some ⟨rb, 0, none⟩) rides.length cap) rides (erGo (er0 g (V : Int) t) (rides.take (k + 1))).1 (erGo (er0 g (V : Int) t) (rides.take (k + 1))).2) := by rw [HE2.out]; exact hS10
            clear hS10 S8 HE2
            go_wp2
            go_roundw
            case rel => exact ⟨k + 1, by omega, by go_num, HS10.out⟩
            case measure => simp [intOf]; omega
          · have d2 : decide (ar < x2) = false := by simpa using q2
            have HS2 := hideg (HSn.out (fun h => q2 h.2))
            clear HSn HYes
            go_wp2_with fail
            go_quiet (fail)
            clear xa xb c0 c1 c2 c3 c4 c5 y0 y1 y2 y3 y4 y5 hwas q1 q2 d1 d2
            go_wp2
            go_roundw
            case rel => exact ⟨k + 1, by omega, by go_num, HS2.out _⟩
            case measure => simp [intOf]; omega
        · have d1 : decide (x1 ≤ d) = false := by simpa using q1
          have HS2 := hideg (HSn.out (fun h => q1 h.1))
          clear HSn HYes
          go_wp2_with fail
          go_quiet (fail)
          clear xa xb c0 c1 c2 c3 c4 c5 y0 y1 y2 y3 y4 y5 hwas q1 d1
          go_wp2
          go_roundw
          case rel => exact ⟨k + 1, by omega, by go_num, HS2.out _⟩
          case measure => simp [intOf]; omega
      · have hke : rides.length = k := by omega
        subst hke
        rw [List.take_length, ← HE.out] at S
        have HS := hideg S
        clear S
        go_wp2
        (try simp only [Exit.inBlock, Exit.then]); refine bodyPost_ret (results_two_e rfl _ _ _) rfl ?_
        exact ⟨_, _, rfl, HS.out.t, HS.out.l, HS.out.b⟩

end Go.Proofs.YtjjhhmlogddnkaiDoor
