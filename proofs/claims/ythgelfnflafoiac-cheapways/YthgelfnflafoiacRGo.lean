/-
  What Go of the reference answers.
-/
import Derived.Test.YthgelfnflafoiacPk1
namespace Go.Proofs.Ythgelfnflafoiac
open Go.RowKit

theorem results_tmp4 {fn : Func} {t u v x : Tmp} (h : fn.results = #[.tmp t, .tmp u, .tmp v, .tmp x]) (tmps : Array Value) (P : Program) (w : World) :
    (results fn tmps).run P w = .ok (.tuple #[tmps.getD t undef, tmps.getD u undef, tmps.getD v undef, tmps.getD x undef]) w := by
  simp [results, h]

/-- what Go hands back -/
def goV (a : Int × Int × Int × Int) : Value := .tuple #[.int .i64 a.1, .int .i64 a.2.1, .int .i64 a.2.2.1, .int .i64 a.2.2.2]
/-- a state on the way is fine -/
def JSt (k : Nat) (s : Int × Int × Int) : Prop := 0 ≤ s.2.2 ∧ s.2.2 ≤ 1000 * (k : Int)
theorem hopF_out {g : Gr} {s : Int × Int × Int} {h : Hp} (k : inR h.1 0 ((g.edges.length : Int) - 1) = false) : hopF g s h = none := by unfold hopF; rw [k]; rfl
theorem hopF_not {g : Gr} {s : Int × Int × Int} {h : Hp} {E : Nat} (e : h.1 = (E : Int)) (hE : E < g.edges.length) (k : ¬ (g.edges[E].1 = s.1 ∧ s.2.1 ≤ h.2)) : hopF g s h = none := by
  unfold hopF
  have hg : g.edges.getD h.1.toNat (0, 0, []) = g.edges[E] := by rw [e, Int.toNat_natCast, List.getD_eq_getElem?_getD, List.getElem?_eq_getElem hE]; rfl
  rw [hg, if_neg k]; simp
theorem hopF_yes {g : Gr} {s : Int × Int × Int} {h : Hp} {E : Nat} (e : h.1 = (E : Int)) (hE : E < g.edges.length) (k : g.edges[E].1 = s.1 ∧ s.2.1 ≤ h.2) : hopF g s h = (lands g g.edges[E] h.2).map fun q => (g.edges[E].2.1, q.1, s.2.2 + q.2) := by
  unfold hopF
  have hg : g.edges.getD h.1.toNat (0, 0, []) = g.edges[E] := by rw [e, Int.toNat_natCast, List.getD_eq_getElem?_getD, List.getElem?_eq_getElem hE]; rfl
  rw [if_pos ((inR_iff _ _ _).2 (by omega)), hg, if_pos k]
  cases lands g g.edges[E] h.2 <;> rfl

set_option maxRecDepth 100000 in
set_option maxHeartbeats 8000000 in
theorem RGo_any (g : Gr) (la ea : Option Addr) (lc ec : Nat) (v t : Int) (ho : Option Addr) (hc : Nat) (l : List Hp) (w : World) (hG : GAt w la ea g) (hH : IvAt w ho l) (hlen : l.length ≤ 9223372036854775807) :
    Calls Try.prog 42 #[.agg #[.int .i64 g.hor, .slice la g.lives.length lc, .slice ea g.edges.length ec], .int .i64 v, .int .i64 t, .slice ho l.length hc] w fun r w' => r = .returned (goV (goAns g v t l)) ∧ Below w.heap.size w w' := by
  have B0 := gbox_start w g la ea lc ec 25
  have h1 := Place_any g la ea lc ec v t _ (hG.below B0.bel)
  by_cases e1 : placeE g v t = 0
  case neg =>
    have HP : Hid (goAns g v t l = (0, 0, 0, placeE g v t)) := by show _ = _; unfold goAns; rw [if_neg e1]
    have d1 : (placeE g v t != 0) = true := by simpa using e1
    generalize placeE g v t = n at *
    clear e1 hG hH
    go_enter Try.func42, Try.ntmps42
    go_wp2_with fail
    refine h1.mono ?_
    rintro r w1 ⟨rfl, hb1⟩
    have hbF := (B0.below hb1).bel
    clear h1 hb1 B0
    go_wp2
    (try simp only [Exit.inBlock, Exit.then]); refine bodyPost_ret (results_tmp4 rfl _ _ _) rfl ?_
    exact ⟨by rw [HP.out]; rfl, hbF⟩
  rw [e1] at h1
  obtain ⟨hg0, ⟨hv0, hv1⟩, ht0, ht1⟩ := placeE_zero e1
  have hR := gChk_right hg0
  by_cases h500 : 500 < l.length
  · have HP : Hid (goAns g v t l = (0, 0, 0, 2)) := by show _ = _; unfold goAns; rw [if_pos e1, if_pos h500]
    clear e1 hG hH
    go_enter Try.func42, Try.ntmps42
    go_wp2_with fail
    refine h1.mono ?_
    rintro r w1 ⟨rfl, hb1⟩
    have hbF := (B0.below hb1).bel
    clear h1 hb1 B0
    go_wp2
    (try simp only [Exit.inBlock, Exit.then]); refine bodyPost_ret (results_tmp4 rfl _ _ _) rfl ?_
    exact ⟨by rw [HP.out]; rfl, hbF⟩
  have h500' : l.length ≤ 500 := by omega
  obtain ⟨s0, hs0⟩ : ∃ s0, s0 = (if aliveB t g.lives v = true then some (v, t, (0 : Int)) else none) := ⟨_, rfl⟩
  have HP5 : Hid (goF g s0 l = none → goAns g v t l = (0, 0, 0, 5)) := by intro h; unfold goAns; rw [if_pos e1, if_neg h500, ← hs0, h]
  have HP0 : Hid (∀ s, goF g s0 l = some s → goAns g v t l = (s.1, s.2.1, s.2.2, 0)) := by intro s h; unfold goAns; rw [if_pos e1, if_neg h500, ← hs0, h]
  obtain ⟨V, rfl⟩ : ∃ V : Nat, v = (V : Int) := ⟨v.toNat, by omega⟩
  have hed := hR.eds
  have hlv := hR.lvs
  have hAl := fun W (h : Below w.heap.size w W) => Alive_any g.hor la ea lc g.edges.length ec g.lives V t W ((hG.below h).lv) (by omega) (by omega)
  have HG := hideg hG
  have HH := hideg hH
  have HRt := hideg hR
  have hw1 : IntKind.i64.wrap ((g.edges.length : Int) - 1) = (g.edges.length : Int) - 1 := wrap_nr _ (by omega) (by omega)
  clear e1 hG hH h500 hR hg0 hv1 hlv
  go_enter Try.func42, Try.ntmps42
  go_wp2_with fail
  refine h1.mono ?_
  rintro r w1 ⟨rfl, hb1⟩
  have B1 := B0.below hb1
  have g0 := B1.c0
  have g1 := B1.c1
  have g2 := B1.c2
  have hbx := B1.bel
  clear h1 hb1 B0
  go_wp2_with fail
  refine (hAl _ hbx).mono ?_
  rintro r w2 ⟨rfl, hb2⟩
  have B2 := B1.below hb2
  have HB2 := hideg B2
  have hst : ∃ ok, ok = aliveB t g.lives (V : Int) := ⟨_, rfl⟩
  obtain ⟨ok, hok⟩ := hst
  rw [← hok]
  have HS0 : Hid ((∃ s, goF g s0 (l.take 0) = some s ∧ (V : Int) = s.1 ∧ t = s.2.1 ∧ (0 : Int) = s.2.2 ∧ ok = true ∧ JSt 0 s) ∨ (goF g s0 (l.take 0) = none ∧ ok = false)) := by
    rw [List.take_zero]
    cases ok with
    | true => left; exact ⟨((V : Int), t, 0), by rw [hs0, ← hok]; rfl, rfl, rfl, rfl, rfl, by unfold JSt; simp⟩
    | false => right; exact ⟨by rw [hs0, ← hok]; rfl, rfl⟩
  clear hAl hb2 hbx g0 g1 g2 B1 B2 hs0 hok
  go_wp2_with fail
  go_loopw [8, 9, 10, 13, 14] (fun a b c o i wr => ∃ k : Nat, k ≤ l.length ∧ i = .int .i64 k ∧ ((∃ s, goF g s0 (l.take k) = some s ∧ a = .int .i64 s.1 ∧ b = .int .i64 s.2.1 ∧ c = .int .i64 s.2.2 ∧ o = .bool true ∧ JSt k s) ∨ (goF g s0 (l.take k) = none ∧ o = .bool false)) ∧ Below w2.heap.size w2 wr) (fun _ _ _ _ i _ => l.length - (intOf i).toNat)
  case atStart =>
    refine ⟨0, Nat.zero_le _, rfl, ?_, Below.refl _ _⟩
    rcases HS0.out with ⟨s, h1, h2, h3, h4, h5, h6⟩ | ⟨h1, h2⟩
    · exact .inl ⟨s, h1, by rw [h2], by rw [h3], by rw [h4], by rw [h5], h6⟩
    · exact .inr ⟨h1, by rw [h2]⟩
  case round =>
    obtain ⟨k, hk, rfl, hstate, hb⟩ := hrel
    have BR := HB2.out.below hb
    have g0 := BR.c0
    have g1 := BR.c1
    have g2 := BR.c2
    have hbx := BR.bel
    rcases hstate with ⟨s, hs, rfl, rfl, rfl, rfl, hJ⟩ | ⟨hs, rfl⟩
    · have HSs := hideg hs
      clear hs
      obtain ⟨hJ0, hJ1⟩ := hJ
      by_cases hlt : k < l.length
      · have hsz := BR.lt
        rcases HH.out.below hbx with h0 | ⟨b, off, rfl, hbr, hcc⟩
        · subst h0; simp at hlt
        obtain ⟨c0, c1⟩ := IvAt.get hlt hcc
        have HT := hideg (goF_take (g := g) (s := s0) hlt)
        rw [HSs.out, Option.bind_some] at HT
        obtain ⟨w7, hw7⟩ : ∃ x, x = wr.alloc (.cells #[.int .i64 l[k].1, .int .i64 l[k].2] 48) := ⟨_, rfl⟩
        have hal : Below wr.heap.size wr w7 := by rw [hw7]; exact gal wr _
        have B7 := BR.below hal
        have b0 : w7.cell? ⟨wr.heap.size, 0, none⟩ = some (.int .i64 l[k].1) := by rw [hw7]; simp
        have b1 : w7.cell? ⟨wr.heap.size, 1, none⟩ = some (.int .i64 l[k].2) := by rw [hw7]; simp
        have hb7 := ptg hb hal
        have i1 := fun W => In_any l[k].1 0 ((g.edges.length : Int) - 1) W
        have hw7s := hw7.symm
        clear hcc hw7 hal hb
        cases q1 : inR l[k].1 0 ((g.edges.length : Int) - 1) with
        | false =>
          have HE := hideg (HP5.out (goF_stuck (k := k + 1) (by rw [HT.out]; exact hopF_out q1)))
          rw [q1] at i1
          clear q1
          have x0 := B7.c0
          have x2 := B7.c2
          have hbF := B7.bel
          clear g0 g1 g2 B7 BR
          go_wp2_with (go_at_call 14; refine (i1 _).mono ?_; rintro e w' ⟨rfl, rfl⟩)
          (try simp only [Exit.inBlock, Exit.then]); refine bodyPost_ret (results_tmp4 rfl _ _ _) rfl ?_
          exact ⟨by rw [HE.out]; rfl, by assumption⟩
        | true =>
          rw [q1] at i1
          have q1' := (inR_iff _ _ _).1 q1
          obtain ⟨E, eE⟩ : ∃ E : Nat, l[k].1 = (E : Int) := ⟨l[k].1.toNat, by omega⟩
          have hE : E < g.edges.length := by omega
          have HH1 := hideg eE
          rw [eE] at c0 b0 i1 hw7s
          have hmin : min (E : Int) ((g.edges.length : Int) - 1) = (E : Int) := by omega
          have hmax : max 0 (E : Int) = (E : Int) := by omega
          have hEi : (E : Int) < (g.edges.length : Int) := by omega
          have hE0 : (0 : Int) ≤ (E : Int) := by omega
          have x0 := B7.c0
          have x1 := B7.c1
          have x2 := B7.c2
          have hl7 := World.block_lt_of_cell? w7 _ b0
          rcases (HG.out.below B7.bel).ed with h0 | ⟨eb, eo, rfl, hebr, hec⟩
          · rw [h0] at hE; simp at hE
          obtain ⟨ee0, ee1, _⟩ := hec E hE
          have hLd := Lands_any g la (some ⟨eb, eo, none⟩) lc ec E l[k].2 w7 (HG.out.below B7.bel) HRt.out hE
          have hem := HRt.out.legs g.edges[E] (List.getElem_mem hE)
          have HEM := hideg hem
          have HYg := hideg (fun h => hopF_yes (s := s) HH1.out hE h)
          have HNg := hideg (fun h => hopF_not (s := s) HH1.out hE h)
          obtain ⟨ed, hed'⟩ : ∃ e, e = g.edges[E] := ⟨_, rfl⟩
          rw [← hed'] at HYg HNg HEM hLd ee0 ee1
          clear q1 q1' hec hem eE hed' HH1
          rcases (show E = 0 ∨ 0 < E by omega) with hz | hpos
          all_goals
            try subst hz
            try simp only [Nat.zero_mul, Nat.add_zero] at ee0 ee1
            try simp only [show ((0 : Nat) : Int) = 0 from rfl] at hw7s b0 i1 hLd c0
            by_cases ha : ed.1 = s.1
            · have d1 : (ed.1 == s.1) = true := by simpa using ha
              by_cases hd : s.2.1 ≤ l[k].2
              · have d2 : decide (s.2.1 ≤ l[k].2) = true := by simpa using hd
                have HY := hideg (HYg.out ⟨ha, hd⟩)
                clear ha hd
                unfold landsV at hLd
                cases hld : lands g ed l[k].2 with
                | none =>
                  rw [hld] at hLd HY
                  simp only [Option.getD_none, Option.isSome_none] at hLd
                  rw [HY.out] at HT
                  have HTn : Hid (goF g s0 (l.take (k + 1)) = none) := HT.out
                  clear hld HY HT
                  have B7' := hideg B7
                  clear B7 BR g0 g1 g2
                  go_wp2_with fail
                  refine (i1 _).mono ?_
                  rintro e w' ⟨rfl, hw'⟩
                  have hws := hw'.symm
                  subst hws
                  clear hw' i1
                  go_wp2_with fail
                  refine hLd.mono ?_
                  rintro r w8 ⟨rfl, hb8⟩
                  have B8 := B7'.out.below hb8
                  have y2 := B8.c2
                  have z0 := (hb8.cell (p := ⟨wr.heap.size, 0, none⟩) hl7).trans b0
                  have z1 := (hb8.cell (p := ⟨eb, _, none⟩) hebr).trans ee1
                  have hbb8 := ptg hb7 hb8
                  clear hLd hb8 x0 x1 x2 ee0 ee1 b0 b1 c0 c1 hw7s hb7
                  go_wp2
                  go_roundw
                  case rel => exact ⟨k + 1, by omega, by go_num, .inr ⟨HTn.out, rfl⟩, hbb8⟩
                  case measure => simp [intOf]; omega
                | some q =>
                  obtain ⟨lg, hlm, k1, k2, k3, hcq, k4⟩ := lands_spec (tq := q.1) (c := q.2) hld
                  clear k1 k2 k3 k4
                  have hfit := (fitB_iff _ _).1 (HEM.out lg hlm)
                  rw [← hcq] at hfit
                  have hwc : IntKind.i64.wrap (s.2.2 + q.2) = s.2.2 + q.2 := wrap_nr _ (by omega) (by omega)
                  rw [hld] at hLd HY
                  simp only [Option.getD_some, Option.isSome_some] at hLd
                  rw [HY.out] at HT
                  have HTn : Hid (goF g s0 (l.take (k + 1)) = some (ed.2.1, q.1, s.2.2 + q.2)) := HT.out
                  have HJn : Hid (JSt (k + 1) (ed.2.1, q.1, s.2.2 + q.2)) := by show JSt _ _; unfold JSt; simp only; omega
                  clear hld HY HT hlm hcq hfit
                  have B7' := hideg B7
                  clear B7 BR g0 g1 g2
                  go_wp2_with fail
                  refine (i1 _).mono ?_
                  rintro e w' ⟨rfl, hw'⟩
                  have hws := hw'.symm
                  subst hws
                  clear hw' i1
                  go_wp2_with fail
                  refine hLd.mono ?_
                  rintro r w8 ⟨rfl, hb8⟩
                  have B8 := B7'.out.below hb8
                  have y2 := B8.c2
                  have z0 := (hb8.cell (p := ⟨wr.heap.size, 0, none⟩) hl7).trans b0
                  have z1 := (hb8.cell (p := ⟨eb, _, none⟩) hebr).trans ee1
                  have hbb8 := ptg hb7 hb8
                  clear hLd hb8 x0 x1 x2 ee0 ee1 b0 b1 c0 c1 hw7s hb7
                  go_wp2
                  go_roundw
                  case rel => exact ⟨k + 1, by omega, by go_num, .inl ⟨_, HTn.out, rfl, rfl, rfl, rfl, HJn.out⟩, hbb8⟩
                  case measure => simp [intOf]; omega
              · have d2 : decide (s.2.1 ≤ l[k].2) = false := by simpa using hd
                have HE := hideg (HP5.out (goF_stuck (k := k + 1) (by rw [HT.out]; exact HNg.out (fun h => hd h.2))))
                clear ha hd hLd
                have hbF := B7.bel
                clear B7 BR g0 g1 g2
                go_wp2_with (go_at_call 14; refine (i1 _).mono ?_; rintro e w' ⟨rfl, rfl⟩)
                (try simp only [Exit.inBlock, Exit.then]); refine bodyPost_ret (results_tmp4 rfl _ _ _) rfl ?_
                exact ⟨by rw [HE.out]; rfl, by assumption⟩
            · have d1 : (ed.1 == s.1) = false := by simpa using ha
              have HE := hideg (HP5.out (goF_stuck (k := k + 1) (by rw [HT.out]; exact HNg.out (fun h => ha h.1))))
              clear ha hLd
              have hbF := B7.bel
              clear B7 BR g0 g1 g2
              go_wp2_with (go_at_call 14; refine (i1 _).mono ?_; rintro e w' ⟨rfl, rfl⟩)
              (try simp only [Exit.inBlock, Exit.then]); refine bodyPost_ret (results_tmp4 rfl _ _ _) rfl ?_
              exact ⟨by rw [HE.out]; rfl, by assumption⟩
      · have hkl : k = l.length := by omega
        have HE : Hid (goAns g (V : Int) t l = (s.1, s.2.1, s.2.2, 0)) := HP0.out s (by have := HSs.out; rwa [hkl, List.take_length] at this)
        subst hkl
        go_wp2
        (try simp only [Exit.inBlock, Exit.then]); refine bodyPost_ret (results_tmp4 rfl _ _ _) rfl ?_
        exact ⟨by rw [HE.out]; rfl, hbx⟩
    · have HE := hideg (HP5.out (goF_stuck hs))
      clear hs
      go_wp2
      all_goals (try simp only [Exit.inBlock, Exit.then])
      all_goals refine bodyPost_ret (results_tmp4 rfl _ _ _) rfl ?_
      all_goals exact ⟨by rw [HE.out]; rfl, hbx⟩

end Go.Proofs.Ythgelfnflafoiac
