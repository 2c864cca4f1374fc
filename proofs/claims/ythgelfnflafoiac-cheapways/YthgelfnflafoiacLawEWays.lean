/-
  The law EarlyWays, walked.
-/
import Derived.Test.YthgelfnflafoiacErD
import Derived.Test.YthgelfnflafoiacErRef
import Derived.Test.YthgelfnflafoiacErIdx
import Derived.Test.YthgelfnflafoiacRGo
namespace Go.Proofs.Ythgelfnflafoiac
open Go.RowKit

theorem zsAt_of_zoE {w : World} {base gb n cap : Nat} {x : List Int} (h : Zo w base gb n cap x) : ZsAt w (some ⟨gb, 0, none⟩) x := by
  obtain ⟨ao, c, e, hz⟩ := zsAt_of_owns h
  simp only [Value.slice.injEq] at e
  rw [e.1]; exact hz
theorem results_tmp3w {fn : Func} {t u v : Tmp} (h : fn.results = #[.tmp t, .tmp u, .tmp v]) (tmps : Array Value) (P : Program) (w : World) :
    (results fn tmps).run P w = .ok (.tuple #[tmps.getD t undef, tmps.getD u undef, tmps.getD v undef]) w := by
  simp [results, h]

set_option maxRecDepth 100000 in
set_option maxHeartbeats 400000 in
/-- where an error is asked and told -/
theorem ways_bad (g : Gr) (la ea : Option Addr) (lc ec : Nat) (v t q : Int) (lo : Option Addr) (ln lcap : Nat) (T : List Int) (ho : Option Addr) (hc : Nat) (e : Int) (w : World) (hG : GAt w la ea g)
    (h : (placeE g v t ≠ 0 ∧ e = placeE g v t) ∨ (placeE g v t = 0 ∧ e = 4 ∧ (¬ (0 ≤ q ∧ q < g.lives.length) ∨ (ln = g.lives.length ∧ T.length = ln ∧ ZsAt w lo T ∧ T.getD q.toNat 0 = 1099511627776 ∧ 0 ≤ q ∧ q < g.lives.length)))) :
    Calls Try.prog 19 #[.agg #[.int .i64 g.hor, .slice la g.lives.length lc, .slice ea g.edges.length ec], .int .i64 v, .int .i64 t, .int .i64 q, .slice lo ln lcap, .slice ho 0 hc, .int .i64 e] w fun r w' => r = .returned (.tuple #[.int .i64 0, .int .i64 0, .bool true]) ∧ Below w.heap.size w w' := by
  have B0 := gbx_start w g la ea lc ec 25
  have h1 := Place_any g la ea lc ec v t _ (hG.below B0.bel)
  rcases h with ⟨e1, rfl⟩ | ⟨e1, rfl, h⟩
  · have d0 : (placeE g v t == 0) = false := by simpa using e1
    have d1 : (placeE g v t != 0) = true := by simpa using e1
    have d2 : (placeE g v t == placeE g v t) = true := by simp
    generalize placeE g v t = n at *
    clear hG e1
    go_enter Try.func19, Try.ntmps19
    go_wp2_with fail
    refine h1.mono ?_
    rintro r w1 ⟨rfl, hb1⟩
    have hbF := (B0.below hb1).bel
    clear h1 hb1 B0
    go_wp2
    (try simp only [Exit.inBlock, Exit.then]); refine bodyPost_ret (results_tmp3w rfl _ _ _) rfl ?_
    exact ⟨rfl, hbF⟩
  · rw [e1] at h1
    have hIn := fun W => In_any q 0 ((g.lives.length : Int) - 1) W
    obtain ⟨hg0, _⟩ := placeE_zero e1
    have hn12 := (gChk_right hg0).lvs
    have hwn : IntKind.i64.wrap ((g.lives.length : Int) - 1) = (g.lives.length : Int) - 1 := wrap_nj _ (by omega) (by omega)
    clear hG e1 hg0
    rcases h with k | ⟨rfl, hTl, hZ, hTq, k0, k1⟩
    · have hi : inR q 0 ((g.lives.length : Int) - 1) = false := by
        cases hh : inR q 0 ((g.lives.length : Int) - 1) with
        | false => rfl
        | true => rw [inR_iff] at hh; exact absurd ⟨hh.1, by omega⟩ k
      rw [hi] at hIn
      clear k hi
      go_enter Try.func19, Try.ntmps19
      go_wp2_with fail
      refine h1.mono ?_
      rintro r w1 ⟨rfl, hb1⟩
      have B1 := B0.below hb1
      have g1 := B1.c1
      have hbF := B1.bel
      clear h1 hb1 B0 B1
      go_wp2_with fail
      refine (hIn _).mono ?_
      rintro r w2 ⟨rfl, rfl⟩
      clear hIn
      go_wp2
      (try simp only [Exit.inBlock, Exit.then]); refine bodyPost_ret (results_tmp3w rfl _ _ _) rfl ?_
      exact ⟨rfl, hbF⟩
    · have hi : inR q 0 ((g.lives.length : Int) - 1) = true := (inR_iff _ _ _).2 (by omega)
      rw [hi] at hIn
      obtain ⟨Y, rfl⟩ : ∃ Y : Nat, q = (Y : Int) := ⟨q.toNat, by omega⟩
      obtain ⟨b, off, rfl, hbr, hc'⟩ : ∃ b off, lo = some ⟨b, off, none⟩ ∧ b < w.heap.size ∧ w.cell? ⟨b, off + Y, none⟩ = some (.int .i64 1099511627776) := by
        rcases hZ with h0 | ⟨b, off, rfl, hbr, hc'⟩
        · rw [h0] at hTl; simp at hTl; omega
        · refine ⟨b, off, rfl, hbr, ?_⟩
          rw [hc' Y (by omega)]
          simp only [Int.toNat_natCast] at hTq
          rw [hTq]
      clear hi hZ hTq hTl
      go_enter Try.func19, Try.ntmps19
      go_wp2_with fail
      refine h1.mono ?_
      rintro r w1 ⟨rfl, hb1⟩
      have B1 := B0.below hb1
      have g1 := B1.c1
      have hbF := B1.bel
      have cY := (hbF.cell (p := ⟨b, off + Y, none⟩) hbr).trans hc'
      clear h1 hb1 B0 B1 hc'
      go_wp2_with fail
      refine (hIn _).mono ?_
      rintro r w2 ⟨rfl, rfl⟩
      clear hIn
      go_wp2
      (try simp only [Exit.inBlock, Exit.then]); refine bodyPost_ret (results_tmp3w rfl _ _ _) rfl ?_
      exact ⟨rfl, hbF⟩

set_option maxRecDepth 100000 in
set_option maxHeartbeats 400000 in
/-- where a journey is told that comes where it should -/
theorem ways_ok (g : Gr) (la ea : Option Addr) (lc ec : Nat) (v t : Int) (Y : Nat) (lo : Option Addr) (lcap : Nat) (T : List Int) (ho : Option Addr) (hc : Nat) (l : List Hp) (x c : Int) (w : World) (hG : GAt w la ea g)
    (e1 : placeE g v t = 0) (hY : Y < g.lives.length) (hTl : T.length = g.lives.length) (hZ : ZsAt w lo T) (hTq : T.getD Y 0 ≠ 1099511627776) (hH : IvAt w ho l) (hl : l.length ≤ 500) (hgo : goAns g v t l = ((Y : Int), x, c, 0)) :
    Calls Try.prog 19 #[.agg #[.int .i64 g.hor, .slice la g.lives.length lc, .slice ea g.edges.length ec], .int .i64 v, .int .i64 t, .int .i64 Y, .slice lo g.lives.length lcap, .slice ho l.length hc, .int .i64 0] w fun r w' => r = .returned (.tuple #[.int .i64 x, .int .i64 c, .bool true]) ∧ Below w.heap.size w w' := by
  have B0 := gbx_start w g la ea lc ec 25
  have h1 := Place_any g la ea lc ec v t _ (hG.below B0.bel)
  rw [e1] at h1
  have hIn := fun W => In_any (Y : Int) 0 ((g.lives.length : Int) - 1) W
  obtain ⟨hg0, _⟩ := placeE_zero e1
  have hn12 := (gChk_right hg0).lvs
  have hwn : IntKind.i64.wrap ((g.lives.length : Int) - 1) = (g.lives.length : Int) - 1 := wrap_nj _ (by omega) (by omega)
  have hi : inR (Y : Int) 0 ((g.lives.length : Int) - 1) = true := (inR_iff _ _ _).2 (by omega)
  rw [hi] at hIn
  have hGo := fun W (hb : Below w.heap.size w W) => RGo_any g la ea lc ec v t ho hc l W (hG.below hb) (hH.below hb) (by omega)
  rw [hgo] at hGo
  unfold goV at hGo
  simp only at hGo
  obtain ⟨b, off, rfl, hbr, hc'⟩ : ∃ b off, lo = some ⟨b, off, none⟩ ∧ b < w.heap.size ∧ w.cell? ⟨b, off + Y, none⟩ = some (.int .i64 (T.getD Y 0)) := by
    rcases hZ with h0 | ⟨b, off, rfl, hbr, hc'⟩
    · rw [h0] at hTl; simp at hTl; omega
    · exact ⟨b, off, rfl, hbr, hc' Y (by omega)⟩
  have dY : (T.getD Y 0 == 1099511627776) = false := by simpa using hTq
  have hYi : (Y : Int) < (g.lives.length : Int) := by omega
  generalize T.getD Y 0 = z at *
  have HGo := hideg hGo
  clear hi hZ hTq hTl hG e1 hg0 hH hgo hGo
  go_enter Try.func19, Try.ntmps19
  go_wp2_with fail
  refine h1.mono ?_
  rintro r w1 ⟨rfl, hb1⟩
  have B1 := B0.below hb1
  have g0 := B1.c0
  have g1 := B1.c1
  have g2 := B1.c2
  have hbF := B1.bel
  have cY := (hbF.cell (p := ⟨b, off + Y, none⟩) hbr).trans hc'
  clear h1 hb1 B0 B1 hc'
  go_wp2_with fail
  refine (hIn _).mono ?_
  rintro r w2 ⟨rfl, rfl⟩
  clear hIn
  go_wp2_with fail
  refine (HGo.out _ hbF).mono ?_
  rintro r w3 ⟨rfl, hb3⟩
  have hbE := ptg hbF hb3
  clear HGo hb3 hbF g0 g1 g2 cY
  go_wp2
  (try simp only [Exit.inBlock, Exit.then]); refine bodyPost_ret (results_tmp3w rfl _ _ _) rfl ?_
  exact ⟨rfl, hbE⟩

/-- the vertices by which one comes -/
def seenL (g : Gr) (v : Int) (l : List Hp) (k : Nat) : List Int := v :: (l.take k).map (edB g)
theorem seenL_succ {g : Gr} {v : Int} {l : List Hp} {k : Nat} (hk : k < l.length) : seenL g v l (k + 1) = seenL g v l k ++ [edB g l[k]] := by
  unfold seenL; rw [List.take_succ_eq_append_getElem hk, List.map_append]; rfl
theorem seenL_len {g : Gr} {v : Int} {l : List Hp} {k : Nat} (hk : k ≤ l.length) : (seenL g v l k).length = k + 1 := by unfold seenL; simp; omega
theorem seen_new {g : Gr} {T : List Int} {v q : Int} {l : List Hp} (W : WayTo g T v q l) {k : Nat} (hk : k < l.length) : edB g l[k] ∉ seenL g v l k := by
  unfold seenL
  rw [List.mem_cons, List.mem_map]
  rintro (h | ⟨h, hm, he⟩)
  · have := W.up l[k] (List.getElem_mem hk)
    rw [h] at this
    omega
  · obtain ⟨i, hi, rfl⟩ := List.getElem_of_mem hm
    rw [List.getElem_take] at he
    have hik : i < k := by simp at hi; omega
    have := List.pairwise_iff_getElem.1 W.srt i k (by omega) hk hik
    rw [he] at this
    omega

set_option maxRecDepth 100000 in
set_option maxHeartbeats 400000 in
theorem earlyWays_walk (g : Gr) (la ea : Option Addr) (lc ec : Nat) (v t q : Int) (w : World) (hG : GAt w la ea g) :
    Calls Try.prog 4 #[.agg #[.int .i64 g.hor, .slice la g.lives.length lc, .slice ea g.edges.length ec], .int .i64 v, .int .i64 t, .int .i64 q] w fun r w' => r = .returned (.bool true) ∧ Below w.heap.size w w' := by
  obtain ⟨i0, hi, hz0, hz1, hz2⟩ := info_parts Try.infoInt
  have B0 := gbx_start w g la ea lc ec 25
  have h1 := eWay_any g la ea lc ec v t q _ (hG.below B0.bel)
  have HP := hideg (fun W (hb : Below w.heap.size w W) => Place_any g la ea lc ec v t W (hG.below hb))
  have HRA : Hid (placeE g v t = 0 → ∀ W, Below w.heap.size w W → Calls Try.prog 18 #[.agg #[.int .i64 g.hor, .slice la g.lives.length lc, .slice ea g.edges.length ec], .int .i64 v, .int .i64 t] W fun r w' => ∃ gq cap, r = .returned (.slice (some ⟨gq, 0, none⟩) g.lives.length cap) ∧ Zo w' W.heap.size gq g.lives.length cap (erF g v t).1 ∧ Below W.heap.size W w') := by
    intro e1 W hb
    refine (Arr_fn g la ea lc ec v t W (hG.below hb) e1).mono ?_
    rintro r w' ⟨gq, cap, rfl, h2, _, h3⟩
    rw [arrF_is hG e1] at h2
    exact ⟨gq, cap, rfl, h2, h3⟩
  have HG := hideg hG
  clear hG
  go_enter Try.func4, Try.ntmps4
  go_wp2_with fail
  refine h1.mono ?_
  rintro r w1 ⟨u, e, l, rfl, hW, hown, hb1⟩
  have B1 := B0.below hb1
  have g0 := B1.c0
  have g1 := B1.c1
  have g2 := B1.c2
  have h2 := HP.out _ B1.bel
  have HB1 := hideg B1
  have HO1 := hideg hown
  clear h1 hb1 B0 B1 hown
  rcases hW with ⟨e1, rfl, rfl⟩ | ⟨e1, hq, rfl, rfl⟩ | ⟨e1, hq, hTq, rfl, hW, hTr⟩
  · have hwb := fun ho hc W (hb : Below w.heap.size w W) => ways_bad g la ea lc ec v t q none 0 0 [] ho hc (placeE g v t) W (HG.out.below hb) (.inl ⟨e1, rfl⟩)
    have d0 : (placeE g v t == 0) = false := by simpa using e1
    have d1 : (placeE g v t != 0) = true := by simpa using e1
    generalize placeE g v t = n at *
    have HWb := hideg hwb
    clear hwb e1 HRA
    go_wp2_with fail
    refine h2.mono ?_
    rintro r w2 ⟨rfl, hb2⟩
    have B2 := HB1.out.below hb2
    obtain ⟨ho, hc, rfl, _⟩ := ivAt_of_owns HO1.out
    clear g0 g1 g2 h2 hb2
    have g0 := B2.c0
    have g1 := B2.c1
    have g2 := B2.c2
    have h3 := HWb.out ho hc _ B2.bel
    have hbx := B2.bel
    clear HWb B2 HB1 HO1
    go_wp2_with fail
    refine h3.mono ?_
    rintro r w3 ⟨rfl, hb3⟩
    have hbF := ptg hbx hb3
    clear h3 hb3 hbx g0 g1 g2
    go_wp2
    go_ret
    exact ⟨rfl, hbF⟩
  · have hRA := HRA.out e1
    rw [e1] at h2
    have hlT := (erF_len g v t).1
    have HWb := hideg (fun ho hc gq cap W (hb : Below w.heap.size w W) (hZ : ZsAt W (some ⟨gq, 0, none⟩) (erF g v t).1) => ways_bad g la ea lc ec v t q (some ⟨gq, 0, none⟩) g.lives.length cap (erF g v t).1 ho hc 4 W (HG.out.below hb) (.inr ⟨e1, rfl, by
      by_cases hr : 0 ≤ q ∧ q < g.lives.length
      · rcases hq with hq | hq
        · exact absurd hr hq
        · exact .inr ⟨rfl, hlT, hZ, hq, hr⟩
      · exact .inl hr⟩))
    generalize (erF g v t).1 = T at *
    have HRA2 := hideg hRA
    clear hRA HRA e1 hq hlT
    go_wp2_with fail
    refine h2.mono ?_
    rintro r w2 ⟨rfl, hb2⟩
    have B2 := HB1.out.below hb2
    obtain ⟨ho, hc, rfl, _⟩ := ivAt_of_owns HO1.out
    clear g0 g1 g2 h2 hb2
    have g0 := B2.c0
    have g1 := B2.c1
    have g2 := B2.c2
    have h3 := HRA2.out _ B2.bel
    clear HB1 HO1 HRA2
    go_wp2_with fail
    refine h3.mono ?_
    rintro r w3 ⟨gq, cap, rfl, hZ, hb3⟩
    have B3 := B2.below hb3
    clear g0 g1 g2 h3 hb3 B2
    have g0 := B3.c0
    have g1 := B3.c1
    have g2 := B3.c2
    have hz := zsAt_of_zoE hZ
    have h4 := HWb.out ho hc gq cap _ B3.bel hz
    have hbx := B3.bel
    clear HWb B3 hZ hz
    go_wp2_with fail
    refine h4.mono ?_
    rintro r w4 ⟨rfl, hb4⟩
    have hbF := ptg hbx hb4
    clear h4 hb4 hbx g0 g1 g2
    go_wp2
    go_ret
    exact ⟨rfl, hbF⟩
  · clear hTr
    have hRA := HRA.out e1
    obtain ⟨hg0, ⟨hv0, hv1⟩, ht0, ht1⟩ := placeE_zero e1
    have hR := gChk_right hg0
    have hlT := (erF_len g v t).1
    obtain ⟨Y, rfl⟩ : ∃ Y : Nat, q = (Y : Int) := ⟨q.toNat, by omega⟩
    have hY : Y < g.lives.length := by omega
    simp only [Int.toNat_natCast] at hTq
    have hal : aliveB t g.lives v = true := by
      refine Classical.byContradiction fun h => hTq ?_
      rw [erF_away h, rep_getD _ _ _ hY]
    have hE := (erF_ok hR hv0 hal).1
    have hTY : (erF g v t).1.getD Y 0 < g.hor := by
      rcases hE.is Y hY with k | k
      · exact absurd k hTq
      · exact (k.place hR hv0).2.2.2
    have hl500 : l.length ≤ 200 := by
      have := hW.len
      rw [hE.at0] at this
      simp only [Int.toNat_natCast] at this
      have := hR.hor
      omega
    obtain ⟨c, hgo⟩ := hW.go 0
    rw [hE.at0] at hgo
    simp only [Int.toNat_natCast] at hgo
    have hga := goAns_ok (s := (v, t, 0)) hg0 ⟨hv0, hv1, hal⟩ rfl (by omega) hgo
    simp only at hga
    rw [e1] at h2
    have HWk := hideg (fun ho hc gq cap W (hb : Below w.heap.size w W) (hZ : ZsAt W (some ⟨gq, 0, none⟩) (erF g v t).1) (hH : IvAt W ho l) => ways_ok g la ea lc ec v t Y (some ⟨gq, 0, none⟩) cap (erF g v t).1 ho hc l _ c W (HG.out.below hb) e1 hY hlT hZ hTq hH (by omega) hga)
    generalize (erF g v t).1 = T at *
    obtain ⟨y, hy⟩ : ∃ y, y = T.getD Y 0 := ⟨_, rfl⟩
    rw [← hy] at HWk
    have Hy := hideg hy
    have HRA2 := hideg hRA
    have HWy := hideg hW
    have hYi : (Y : Int) < (g.lives.length : Int) := by omega
    have HRt := hideg hR
    clear hRA HRA e1 hq hlT hTq hTY hgo hga hE hal hg0 hW hR hy
    go_wp2_with fail
    refine h2.mono ?_
    rintro r w2 ⟨rfl, hb2⟩
    have B2 := HB1.out.below hb2
    have hown2 := ownsRow_below HO1.out hb2
    clear g0 g1 g2 h2 hb2
    have g0 := B2.c0
    have g1 := B2.c1
    have g2 := B2.c2
    have h3 := HRA2.out _ B2.bel
    clear HB1 HO1 HRA2
    go_wp2_with fail
    refine h3.mono ?_
    rintro r w3 ⟨gq, cap, rfl, hZ, hb3⟩
    have B3 := B2.below hb3
    obtain ⟨ho, hc, rfl, hH⟩ := ivAt_of_owns (ownsRow_below hown2 hb3)
    clear g0 g1 g2 h3 hb3 B2 hown2
    have g0 := B3.c0
    have g1 := B3.c1
    have g2 := B3.c2
    have hz := zsAt_of_zoE hZ
    have h4 := HWk.out ho hc gq cap _ B3.bel hz hH
    have hbx := B3.bel
    clear HWk hz
    go_wp2_with fail
    refine h4.mono ?_
    rintro r w4 ⟨rfl, hb4⟩
    have HB4 := hideg (B3.below hb4)
    have HH4 := hideg (hH.below hb4)
    have HZ4 := hideg (ownsRow_below hZ hb4)
    clear h4 hb4 hbx g0 g1 g2 B3 hZ hH
    obtain ⟨w5, hw5⟩ : ∃ x, x = w4.alloc (.cells #[.int .i64 v] 3) := ⟨_, rfl⟩
    have hS5 : w5.ownsRow w4.heap.size 3 1 (.slice (some ⟨w4.heap.size, 0, none⟩) 1 1) 1 ((seenL g v l 0).map (Value.int .i64)) := by
      rw [hw5]
      exact ⟨by simp [seenL], .inr ⟨w4.heap.size, 1, #[.int .i64 v], rfl, Nat.le_refl _, heap_alloc_new w4 _, Nat.le_refl _, by unfold maxLen; omega, rfl, by simp [seenL]⟩⟩
    have hb5 : Below w4.heap.size w4 w5 := by rw [hw5]; exact gal w4 _
    have hw5s := hw5.symm
    clear hw5
    go_wp2_with fail
    clear hw5s
    go_loopw [15, 59] (fun s i wr => ∃ k : Nat, k ≤ l.length ∧ i = .int .i64 k ∧ wr.ownsRow w4.heap.size 3 1 s (seenL g v l k).length ((seenL g v l k).map (Value.int .i64)) ∧ Below w4.heap.size w4 wr) (fun _ i _ => l.length - (intOf i).toNat)
    case atStart => exact ⟨0, Nat.zero_le _, rfl, hS5, hb5⟩
    case round =>
      clear hS5 hb5
      obtain ⟨k, hk, rfl, hown, hb⟩ := hrel
      by_cases hkl : k < l.length
      · have hkli : (k : Int) < (l.length : Int) := by omega
        have hkw : IntKind.i64.wrap ((k : Int) + 1) = (k : Int) + 1 := wrap_nj _ (by omega) (by omega)
        rcases HH4.out.below hb with h0 | ⟨b, off, rfl, hbr, hcc⟩
        · subst h0; simp at hkl
        obtain ⟨c0, c1⟩ := IvAt.get hkl hcc
        obtain ⟨⟨r0, r1⟩, r2⟩ := HWy.out.rng l[k] (List.getElem_mem hkl)
        have HNew := hideg (seen_new HWy.out hkl)
        have HSu := hideg (seenL_succ (g := g) (v := v) hkl)
        have hln := seenL_len (g := g) (v := v) (l := l) hk
        have hBr := HB4.out.below hb
        obtain ⟨E, hE⟩ : ∃ E : Nat, l[k].1 = (E : Int) := ⟨l[k].1.toNat, by omega⟩
        have hEl : E < g.edges.length := by omega
        have heB : edB g l[k] = g.edges[E].2.1 := by unfold edB; rw [hE, Int.toNat_natCast, edge_getD hEl]
        obtain ⟨eb, eo, rfl, hebr, ec1⟩ : ∃ b off, ea = some ⟨b, off, none⟩ ∧ b < wr.heap.size ∧ wr.cell? ⟨b, off + E * 3 + 1, none⟩ = some (.int .i64 g.edges[E].2.1) := by
          rcases (HG.out.below hBr.bel).ed with h0 | ⟨b, off, rfl, hbr, hc⟩
          · rw [h0] at hEl; simp at hEl
          obtain ⟨c0, c1, _⟩ := hc E hEl
          exact ⟨b, off, rfl, hbr, c1⟩
        rw [← heB] at ec1
        have hEi : (E : Int) < (g.edges.length : Int) := by omega
        have hE0 : (0 : Int) ≤ (E : Int) := by omega
        rw [hE] at c0
        generalize edB g l[k] = bb at *
        generalize l[k].2 = dd at *
        obtain ⟨wa, hwa⟩ : ∃ x, x = wr.alloc (.cells #[.int .i64 (E : Int), .int .i64 dd] 48) := ⟨_, rfl⟩
        have hba : Below wr.heap.size wr wa := by rw [hwa]; exact gal wr _
        have Ba := hBr.below hba
        have x0 : wa.cell? ⟨wr.heap.size, 0, none⟩ = some (.int .i64 (E : Int)) := by rw [hwa]; exact new_cell rfl rfl
        have x1 := (hba.cell (p := ⟨eb, eo + E * 3 + 1, none⟩) hebr).trans ec1
        have g2 := Ba.c2
        have ho2 := ownsRow_below hown hba
        have hb2 := hb.trans (hba.mono hb.size)
        obtain ⟨sa, sc, rfl, hsz⟩ := zsAt_of_owns ho2
        have hCt := ContainsInt_any sa sc (seenL g v l k) bb wa hsz (by omega)
        rw [show decide (bb ∈ seenL g v l k) = false from by simpa using HNew.out] at hCt
        have hwas := hwa.symm
        clear hsz ec1 hwa hba Ba hBr hown hb hcc
        generalize hsk : seenL g v l k = sk at *
        have HSk := hideg hsk
        have hln2 : sk.length ≤ 300 := by omega
        clear hsk hln heB
        go_wp2_with fail
        refine hCt.mono ?_
        rintro r w6 ⟨rfl, hb6⟩
        have ho6 := ownsRow_below ho2 hb6
        have hb06 := hb2.trans (hb6.mono hb2.size)
        have hs6 := hb06.size
        clear hCt hb6 ho2 hb2 x0 x1 g2 c0 c1 hwas
        go_wp2_with (at_builtin; refine stopHereR ?_)
        refine hideg ?_
        refine wpList_append_own _ rfl _ _ 28 rfl w4.heap.size 3 i0 (.int .i64 0) 1 8 Try.underlying28 hi hz0 hz1 hz2 rfl (by decide) _ _ _ rfl (World.ownsRow.alloc (w := w6) ho6 _) ⟨w6.heap.size, 0, none⟩ 1 1 [.int .i64 bb] rfl rfl (cell_one_new _ _ _) (by intro u hu; simp at hu; subst hu; rfl) (by unfold maxLen; omega) (by omega) (by simp; omega) ?_
        intro v' w7 hown7 hgrow _
        have hb7 := (hb06.alloc hs6 _).grown hgrow (by simp; omega) (fun q hq => (ho6.lt q hq).1)
        have HR7 : Hid (w7.ownsRow w4.heap.size 3 1 v' (seenL g v l (k + 1)).length ((seenL g v l (k + 1)).map (Value.int .i64))) := by
          rw [HSu.out, List.length_append, List.map_append]; exact hown7
        clear hgrow hown7 ho6
        go_wp2
        go_roundw
        case rel => exact ⟨k + 1, by omega, by go_num, HR7.out, hb7⟩
        case measure => simp [intOf]; omega
      · have hZr := ownsRow_below HZ4.out hb
        have cY := Zo.cell hZr hY
        have hbF := HB4.out.bel.trans (hb.mono HB4.out.bel.size)
        rw [← Hy.out] at cY
        clear hZr hown HZ4 HH4
        go_wp2
        go_ret
        exact ⟨rfl, hbF⟩

end Go.Proofs.Ythgelfnflafoiac
