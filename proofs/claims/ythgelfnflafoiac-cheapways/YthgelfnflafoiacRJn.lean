/-
  What Place and Lands of the reference answer.
-/
import Derived.Test.YthgelfnflafoiacRGraph
import Derived.Test.YthgelfnflafoiacRSnap
import Derived.Test.YthgelfnflafoiacJnMath
import Derived.OwnWalk
namespace Go.Proofs.Ythgelfnflafoiac
open Go.RowKit

theorem wrap_nr (n : Int) (h0 : -9223372036854775808 ≤ n) (h1 : n < 9223372036854775808) : IntKind.i64.wrap n = n := by
  simp only [IntKind.wrap, IntKind.bits, IntKind.signed]
  simp
  omega

/-- a graph in a box -/
structure GBox (w W : World) (B : Nat) (g : Gr) (la ea : Option Addr) (lc ec : Nat) : Prop where
  c0 : W.cell? ⟨B, 0, none⟩ = some (.int .i64 g.hor)
  c1 : W.cell? ⟨B, 1, none⟩ = some (.slice la g.lives.length lc)
  c2 : W.cell? ⟨B, 2, none⟩ = some (.slice ea g.edges.length ec)
  bel : Below w.heap.size w W
  lt : B < W.heap.size
theorem gbox_start (w : World) (g : Gr) (la ea : Option Addr) (lc ec : Nat) (T : TypeId) : GBox w (w.alloc (.cells #[.int .i64 g.hor, .slice la g.lives.length lc, .slice ea g.edges.length ec] T)) w.heap.size g la ea lc ec :=
  ⟨by simp, by simp, by simp, gal w _, by simp⟩
theorem GBox.below {w W W' : World} {B : Nat} {g : Gr} {la ea : Option Addr} {lc ec : Nat} (h : GBox w W B g la ea lc ec) (hb : Below W.heap.size W W') : GBox w W' B g la ea lc ec :=
  ⟨(hb.cell (p := ⟨B, 0, none⟩) h.lt).trans h.c0, (hb.cell (p := ⟨B, 1, none⟩) h.lt).trans h.c1, (hb.cell (p := ⟨B, 2, none⟩) h.lt).trans h.c2, ptg h.bel hb, Nat.lt_of_lt_of_le h.lt hb.size⟩
theorem GBox.drewN {w W : World} {B : Nat} {g : Gr} {la ea : Option Addr} {lc ec : Nat} (h : GBox w W B g la ea lc ec) (n : Nat) : GBox w (W.drewN n) B g la ea lc ec := ⟨h.c0, h.c1, h.c2, below_drewN h.bel n, h.lt⟩

set_option maxRecDepth 100000 in
set_option maxHeartbeats 2000000 in
theorem Place_any (g : Gr) (la ea : Option Addr) (lc ec : Nat) (v t : Int) (w : World) (hG : GAt w la ea g) :
    Calls Try.prog 7 #[.agg #[.int .i64 g.hor, .slice la g.lives.length lc, .slice ea g.edges.length ec], .int .i64 v, .int .i64 t] w fun r w' => r = .returned (.int .i64 (placeE g v t)) ∧ Below w.heap.size w w' := by
  have B0 := gbox_start w g la ea lc ec 25
  have h1 := RGraph_any g la ea lc ec _ (hG.below B0.bel)
  by_cases e1 : gChk g = 0
  · have hR := gChk_right e1
    have hhor := hR.hor
    have hlv := hR.lvs
    have hw1 : IntKind.i64.wrap ((g.lives.length : Int) - 1) = (g.lives.length : Int) - 1 := wrap_nr _ (by omega) (by omega)
    have hw2 : IntKind.i64.wrap (g.hor - 1) = g.hor - 1 := wrap_nr _ (by omega) (by omega)
    have i1 := fun W => In_any v 0 ((g.lives.length : Int) - 1) W
    have i2 := fun W => In_any t 0 (g.hor - 1) W
    have HP : Hid (placeE g v t = if inR v 0 ((g.lives.length : Int) - 1) = true then if inR t 0 (g.hor - 1) = true then 0 else 1 else 4) := by show _ = _; unfold placeE; rw [if_pos e1]
    rw [e1] at h1
    clear hG hR e1
    cases q1 : inR v 0 ((g.lives.length : Int) - 1) with
    | false =>
      rw [q1] at HP i1
      clear q1 i2
      go_enter Try.func7, Try.ntmps7
      go_wp2_with fail
      refine h1.mono ?_
      rintro e w1 ⟨rfl, hb1⟩
      have B1 := B0.below hb1
      have cc1 := B1.c1
      have hbF := B1.bel
      clear h1 hb1 B1 B0
      go_wp2_with (go_at_call 14; refine (i1 _).mono ?_; rintro e w' ⟨rfl, rfl⟩)
      go_ret
      exact ⟨ret_int HP.out.symm, by assumption⟩
    | true =>
      rw [q1] at HP i1
      clear q1
      cases q2 : inR t 0 (g.hor - 1) with
      | false =>
        rw [q2] at HP i2
        clear q2
        go_enter Try.func7, Try.ntmps7
        go_wp2_with fail
        refine h1.mono ?_
        rintro e w1 ⟨rfl, hb1⟩
        have B1 := B0.below hb1
        have cc0 := B1.c0
        have cc1 := B1.c1
        have hbF := B1.bel
        clear h1 hb1 B1 B0
        go_wp2_with fail
        refine (i1 _).mono ?_
        rintro e w' ⟨rfl, hw'⟩
        have hws := hw'.symm
        subst hws
        clear hw'
        go_wp2_with (go_at_call 14; refine (i2 _).mono ?_; rintro e w' ⟨rfl, rfl⟩)
        go_ret
        exact ⟨ret_int HP.out.symm, by assumption⟩
      | true =>
        rw [q2] at HP i2
        clear q2
        go_enter Try.func7, Try.ntmps7
        go_wp2_with fail
        refine h1.mono ?_
        rintro e w1 ⟨rfl, hb1⟩
        have B1 := B0.below hb1
        have cc0 := B1.c0
        have cc1 := B1.c1
        have hbF := B1.bel
        clear h1 hb1 B1 B0
        go_wp2_with fail
        refine (i1 _).mono ?_
        rintro e w' ⟨rfl, hw'⟩
        have hws := hw'.symm
        subst hws
        clear hw'
        go_wp2_with (go_at_call 14; refine (i2 _).mono ?_; rintro e w' ⟨rfl, rfl⟩)
        go_ret
        exact ⟨ret_int HP.out.symm, by assumption⟩
  · have HP : Hid (placeE g v t = gChk g) := by show _ = _; unfold placeE; rw [if_neg e1]
    have d1 : (gChk g != 0) = true := by simpa using e1
    generalize gChk g = n at *
    clear hG e1
    go_enter Try.func7, Try.ntmps7
    go_wp2_with fail
    refine h1.mono ?_
    rintro e w1 ⟨rfl, hb1⟩
    have hbF := (B0.below hb1).bel
    clear h1 hb1 B0
    go_wp2
    go_ret
    exact ⟨ret_int HP.out.symm, hbF⟩

/-- a graph, an edge and a leg in boxes -/
structure LBox (w W : World) (B E K : Nat) (g : Gr) (la ea : Option Addr) (lc ec : Nat) (e : Ed) (l : Lg) : Prop where
  gb : GBox w W B g la ea lc ec
  e0 : W.cell? ⟨E, 0, none⟩ = some (.int .i64 e.1)
  e1 : W.cell? ⟨E, 1, none⟩ = some (.int .i64 e.2.1)
  l2 : W.cell? ⟨K, 2, none⟩ = some (.int .i64 l.2.2.1)
  l3 : W.cell? ⟨K, 3, none⟩ = some (.int .i64 l.2.2.2)
  ltE : E < W.heap.size
  ltK : K < W.heap.size
theorem LBox.below {w W W' : World} {B E K : Nat} {g : Gr} {la ea : Option Addr} {lc ec : Nat} {e : Ed} {l : Lg} (h : LBox w W B E K g la ea lc ec e l) (hb : Below W.heap.size W W') : LBox w W' B E K g la ea lc ec e l :=
  ⟨h.gb.below hb, (hb.cell (p := ⟨E, 0, none⟩) h.ltE).trans h.e0, (hb.cell (p := ⟨E, 1, none⟩) h.ltE).trans h.e1, (hb.cell (p := ⟨K, 2, none⟩) h.ltK).trans h.l2, (hb.cell (p := ⟨K, 3, none⟩) h.ltK).trans h.l3, Nat.lt_of_lt_of_le h.ltE hb.size, Nat.lt_of_lt_of_le h.ltK hb.size⟩

/-- what Lands tells -/
def landsV (o : Option (Int × Int)) : Value := .tuple #[.int .i64 (o.getD (0, 0)).1, .int .i64 (o.getD (0, 0)).2, .bool o.isSome]

set_option maxRecDepth 100000 in
set_option maxHeartbeats 4000000 in
theorem Lands_any (g : Gr) (la ea : Option Addr) (lc ec : Nat) (i : Nat) (t : Int) (w : World) (hG : GAt w la ea g) (R : Right g) (hi : i < g.edges.length) :
    Calls Try.prog 31 #[.agg #[.int .i64 g.hor, .slice la g.lives.length lc, .slice ea g.edges.length ec], .int .i64 i, .int .i64 t] w fun r w' => r = .returned (landsV (lands g g.edges[i] t)) ∧ Below w.heap.size w w' := by
  have B0 := gbox_start w g la ea lc ec 25
  obtain ⟨e, he⟩ : ∃ e, e = g.edges[i] := ⟨_, rfl⟩
  rw [← he]
  have hem : e ∈ g.edges := by rw [he]; exact List.getElem_mem hi
  obtain ⟨hA, hB, hln⟩ := R.ends e hem
  have hlegs := R.legs e hem
  have hhor := R.hor
  have heds := R.eds
  obtain ⟨A, eA⟩ : ∃ A : Nat, e.1 = (A : Int) := ⟨e.1.toNat, by omega⟩
  obtain ⟨Bv, eB⟩ : ∃ A : Nat, e.2.1 = (A : Int) := ⟨e.2.1.toNat, by omega⟩
  rcases hG.ed.below B0.bel with h0 | ⟨b, off, rfl, hbr, hc⟩
  · rw [h0] at hi; simp at hi
  have hce := hc i hi
  rw [← he] at hce
  obtain ⟨c0, c1, lo, lcap, c2, hL, _, _⟩ := hce
  have hlvl := R.lvs
  have hAl := fun W (h : Below w.heap.size w W) => Alive_any g.hor la (some ⟨b, off, none⟩) lc g.edges.length ec g.lives A t W ((hG.below h).lv) (by omega) (by omega)
  have hBl := fun tt W (h : Below w.heap.size w W) => Alive_any g.hor la (some ⟨b, off, none⟩) lc g.edges.length ec g.lives Bv tt W ((hG.below h).lv) (by omega) (by omega)
  have hii : (i : Int) < (g.edges.length : Int) := by omega
  have hii0 : (0 : Int) ≤ (i : Int) := by omega
  rw [← eA] at hAl
  rw [← eB] at hBl
  have hLg := fun W (h : Below (w.alloc (.cells #[.int .i64 g.hor, .slice la g.lives.length lc, .slice (some ⟨b, off, none⟩) g.edges.length ec] 25)).heap.size (w.alloc (.cells #[.int .i64 g.hor, .slice la g.lives.length lc, .slice (some ⟨b, off, none⟩) g.edges.length ec] 25)) W) => rleg_any e.1 e.2.1 lo lcap e.2.2 t W (hL.below h) (by omega)
  have HLN := hideg (fun h => lands_none (g := g) (e := e) (t := t) h)
  have HLO := hideg (fun l h => lands_no (g := g) (e := e) (t := t) (l := l) h)
  have HLY := hideg (fun l h => lands_yes (g := g) (e := e) (t := t) (l := l) h)
  have HLM := hideg (fun l h => lgFind_mem (t := t) (ls := e.2.2) (l := l) h)
  have HLF := hideg hlegs
  clear hG R hem hc he hlegs hA hB eA eB
  have hbb0 := B0.bel
  cases hf : lgFind t e.2.2 with
  | none =>
    have HR := hideg (HLN.out hf)
    simp only [hf] at hLg
    unfold legV at hLg
    simp only [Option.getD_none, Option.isSome_none] at hLg
    clear hf hAl hBl
    go_enter Try.func31, Try.ntmps31
    go_wp2_with fail
    refine (hLg _ (gal _ _)).mono ?_
    rintro r w1 ⟨rfl, hb1⟩
    have hbF : Below w.heap.size w w1 := ptg hbb0 (ptg (gal _ _) hb1)
    have HB := hideg (fun o => ptg hbF (gal w1 o))
    clear hLg hb1 c0 c1 c2 B0 hbb0
    go_wp2
    go_ret3
    exact ⟨by rw [HR.out]; rfl, HB.out _⟩
  | some l =>
    obtain ⟨hlm, hl1, hl2⟩ := HLM.out l hf
    have hfit := (fitB_iff _ _).1 (HLF.out l hlm)
    have hw1 : IntKind.i64.wrap (t + l.2.2.1) = t + l.2.2.1 := wrap_nr _ (by omega) (by omega)
    simp only [hf] at hLg
    unfold legV at hLg
    simp only [Option.getD_some, Option.isSome_some] at hLg
    have HNo := hideg (HLO.out l hf)
    have HYe := hideg (HLY.out l hf)
    clear hf hlm HLM HLN HLO HLY HLF
    have step : ∀ (w1 : World), Below ((w.alloc (.cells #[.int .i64 g.hor, .slice la g.lives.length lc, .slice (some ⟨b, off, none⟩) g.edges.length ec] 25)).alloc (.cells #[.int .i64 e.1, .int .i64 e.2.1, .slice lo e.2.2.length lcap] 51)).heap.size ((w.alloc (.cells #[.int .i64 g.hor, .slice la g.lives.length lc, .slice (some ⟨b, off, none⟩) g.edges.length ec] 25)).alloc (.cells #[.int .i64 e.1, .int .i64 e.2.1, .slice lo e.2.2.length lcap] 51)) w1 →
        LBox w (w1.alloc (.cells #[.int .i64 l.1, .int .i64 l.2.1, .int .i64 l.2.2.1, .int .i64 l.2.2.2] 75)) w.heap.size (w.heap.size + 1) w1.heap.size g la (some ⟨b, off, none⟩) lc ec e l := by
      intro w1 hb1
      have hG1 := (B0.below (gal _ (.cells #[.int .i64 e.1, .int .i64 e.2.1, .slice lo e.2.2.length lcap] 51))).below hb1
      have hs := hb1.size
      simp only [World.size_alloc] at hs
      have a0 : w1.cell? ⟨w.heap.size + 1, 0, none⟩ = some (.int .i64 e.1) := by rw [hb1.cell (p := ⟨w.heap.size + 1, 0, none⟩) (by simp)]; simp
      have a1 : w1.cell? ⟨w.heap.size + 1, 1, none⟩ = some (.int .i64 e.2.1) := by rw [hb1.cell (p := ⟨w.heap.size + 1, 1, none⟩) (by simp)]; simp
      have hal := gal w1 (.cells #[.int .i64 l.1, .int .i64 l.2.1, .int .i64 l.2.2.1, .int .i64 l.2.2.2] 75)
      exact ⟨hG1.below hal, (hal.cell (p := ⟨w.heap.size + 1, 0, none⟩) (by show w.heap.size + 1 < _; omega)).trans a0, (hal.cell (p := ⟨w.heap.size + 1, 1, none⟩) (by show w.heap.size + 1 < _; omega)).trans a1, by simp, by simp, by simp; omega, by simp⟩
    have HSt := hideg step
    clear step
    cases a1 : aliveB t g.lives e.1 with
    | false =>
      have HR : Hid (lands g e t = none) := HNo.out (by rw [a1]; rfl)
      go_enter Try.func31, Try.ntmps31
      go_wp2_with fail
      refine (hLg _ (gal _ _)).mono ?_
      rintro r w1 ⟨rfl, hb1⟩
      have LB2 := HSt.out w1 hb1
      generalize hw2 : w1.alloc (.cells #[.int .i64 l.1, .int .i64 l.2.1, .int .i64 l.2.2.1, .int .i64 l.2.2.2] 75) = w2 at LB2
      have g0 := LB2.gb.c0
      have g1 := LB2.gb.c1
      have g2 := LB2.gb.c2
      have q0 := LB2.e0
      have hbx := LB2.gb.bel
      clear hLg hb1 c0 c1 c2 hbb0 B0 HSt
      go_wp2_with fail
      clear hw2
      refine (hAl _ hbx).mono ?_
      rintro r w3 ⟨rfl, hb3⟩
      rw [a1]
      have hbF := ptg hbx hb3
      clear hb3 LB2 hbx g0 g1 g2 q0
      go_wp2
      go_ret3
      exact ⟨by rw [HR.out]; rfl, hbF⟩
    | true =>
      by_cases h3 : g.hor ≤ t + l.2.2.1
      · have HR : Hid (lands g e t = none) := HNo.out (by rw [a1, show decide (t + l.2.2.1 < g.hor) = false from by simp; omega]; rfl)
        have d3 : decide (g.hor ≤ t + l.2.2.1) = true := by simpa using h3
        clear h3
        go_enter Try.func31, Try.ntmps31
        go_wp2_with fail
        refine (hLg _ (gal _ _)).mono ?_
        rintro r w1 ⟨rfl, hb1⟩
        have LB2 := HSt.out w1 hb1
        generalize hw2 : w1.alloc (.cells #[.int .i64 l.1, .int .i64 l.2.1, .int .i64 l.2.2.1, .int .i64 l.2.2.2] 75) = w2 at LB2
        have g0 := LB2.gb.c0
        have g1 := LB2.gb.c1
        have g2 := LB2.gb.c2
        have q0 := LB2.e0
        have hbx := LB2.gb.bel
        clear hLg hb1 c0 c1 c2 hbb0 B0 HSt
        go_wp2_with fail
        clear hw2
        refine (hAl _ hbx).mono ?_
        rintro r w3 ⟨rfl, hb3⟩
        rw [a1]
        have L3 := LB2.below hb3
        clear hb3 LB2 hbx g0 g1 g2 q0
        have g0 := L3.gb.c0
        have g1 := L3.gb.c1
        have g2 := L3.gb.c2
        have q1 := L3.e1
        have z2 := L3.l2
        have hbx := L3.gb.bel
        go_wp2
        go_ret3
        exact ⟨by rw [HR.out]; rfl, hbx⟩
      · have d3 : decide (g.hor ≤ t + l.2.2.1) = false := by simpa using h3
        have d4 : decide (t + l.2.2.1 < g.hor) = true := by simp; omega
        clear h3
        cases a2 : aliveB (t + l.2.2.1) g.lives e.2.1 with
        | false =>
          have HR : Hid (lands g e t = none) := HNo.out (by rw [a1, a2, d4]; rfl)
          clear d4
          go_enter Try.func31, Try.ntmps31
          go_wp2_with fail
          refine (hLg _ (gal _ _)).mono ?_
          rintro r w1 ⟨rfl, hb1⟩
          have LB2 := HSt.out w1 hb1
          generalize hw2 : w1.alloc (.cells #[.int .i64 l.1, .int .i64 l.2.1, .int .i64 l.2.2.1, .int .i64 l.2.2.2] 75) = w2 at LB2
          have g0 := LB2.gb.c0
          have g1 := LB2.gb.c1
          have g2 := LB2.gb.c2
          have q0 := LB2.e0
          have hbx := LB2.gb.bel
          clear hLg hb1 c0 c1 c2 hbb0 B0 HSt
          go_wp2_with fail
          clear hw2
          refine (hAl _ hbx).mono ?_
          rintro r w3 ⟨rfl, hb3⟩
          rw [a1]
          have L3 := LB2.below hb3
          clear hb3 LB2 hbx g0 g1 g2 q0
          have g0 := L3.gb.c0
          have g1 := L3.gb.c1
          have g2 := L3.gb.c2
          have q1 := L3.e1
          have z2 := L3.l2
          have hbx := L3.gb.bel
          go_wp2_with fail
          refine (hBl _ _ hbx).mono ?_
          rintro r w4 ⟨rfl, hb4⟩
          rw [a2]
          have hbF := ptg hbx hb4
          clear hb4 L3 hbx g0 g1 g2 q1 z2
          go_wp2
          go_ret3
          exact ⟨by rw [HR.out]; rfl, hbF⟩
        | true =>
          have HR : Hid (lands g e t = some (t + l.2.2.1, l.2.2.2)) := HYe.out (by rw [a1, a2, d4]; rfl)
          clear d4
          go_enter Try.func31, Try.ntmps31
          go_wp2_with fail
          refine (hLg _ (gal _ _)).mono ?_
          rintro r w1 ⟨rfl, hb1⟩
          have LB2 := HSt.out w1 hb1
          generalize hw2 : w1.alloc (.cells #[.int .i64 l.1, .int .i64 l.2.1, .int .i64 l.2.2.1, .int .i64 l.2.2.2] 75) = w2 at LB2
          have g0 := LB2.gb.c0
          have g1 := LB2.gb.c1
          have g2 := LB2.gb.c2
          have q0 := LB2.e0
          have hbx := LB2.gb.bel
          clear hLg hb1 c0 c1 c2 hbb0 B0 HSt
          go_wp2_with fail
          clear hw2
          refine (hAl _ hbx).mono ?_
          rintro r w3 ⟨rfl, hb3⟩
          rw [a1]
          have L3 := LB2.below hb3
          clear hb3 LB2 hbx g0 g1 g2 q0
          have g0 := L3.gb.c0
          have g1 := L3.gb.c1
          have g2 := L3.gb.c2
          have q1 := L3.e1
          have z2 := L3.l2
          have hbx := L3.gb.bel
          go_wp2_with fail
          refine (hBl _ _ hbx).mono ?_
          rintro r w4 ⟨rfl, hb4⟩
          rw [a2]
          have L4 := L3.below hb4
          have hbF := L4.gb.bel
          clear hb4 L3 hbx g0 g1 g2 q1 z2
          have z2 := L4.l2
          have z3 := L4.l3
          go_wp2
          go_quiet (fail)
          go_wp2
          go_ret3
          exact ⟨by rw [HR.out]; rfl, below_drewN hbF _⟩

end Go.Proofs.Ythgelfnflafoiac
