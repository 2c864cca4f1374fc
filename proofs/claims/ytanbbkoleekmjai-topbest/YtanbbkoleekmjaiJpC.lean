/-
  What Go of the program's journeys answers.
-/
import Derived.Test.YtanbbkoleekmjaiJpB
import Derived.Test.YtanbbkoleekmjaiHeldS
namespace Go.Proofs.Ytanbbkoleekmjai
open Go.RowKit

theorem results_tmp4j {fn : Func} {t u v x : Tmp} (h : fn.results = #[.tmp t, .tmp u, .tmp v, .tmp x]) (tmps : Array Value) (P : Program) (w : World) :
    (results fn tmps).run P w = .ok (.tuple #[tmps.getD t undef, tmps.getD u undef, tmps.getD v undef, tmps.getD x undef]) w := by
  simp [results, h]
/-- what Go hands back -/
def goW (a : Int × Int × Int × Int) : Value := .tuple #[.int .i64 a.1, .int .i64 a.2.1, .int .i64 a.2.2.1, .int .i64 a.2.2.2]
/-- a stop in a box: where one is, if one is anywhere -/
structure SBx (W : World) (B : Nat) (q : Int × Int × Int) : Prop where
  c0 : W.cell? ⟨B, 0, none⟩ = some (.int .i64 q.1)
  c1 : W.cell? ⟨B, 1, none⟩ = some (.int .i64 q.2.1)
  c2 : W.cell? ⟨B, 2, none⟩ = some (.int .i64 q.2.2)
  fz : ∀ j, W.frozen? ⟨B, j, none⟩ = false
  lt : B < W.heap.size
theorem SBx.below {W W' : World} {B : Nat} {q : Int × Int × Int} (h : SBx W B q) (hb : Below W.heap.size W W') : SBx W' B q :=
  ⟨(hb.cell (p := ⟨B, 0, none⟩) h.lt).trans h.c0, (hb.cell (p := ⟨B, 1, none⟩) h.lt).trans h.c1, (hb.cell (p := ⟨B, 2, none⟩) h.lt).trans h.c2, fun j => (hb.frozen (p := ⟨B, j, none⟩) h.lt).trans (h.fz j), Nat.lt_of_lt_of_le h.lt hb.size⟩
theorem SBx.set {W : World} {B : Nat} {q : Int × Int × Int} (h : SBx W B q) (p : Int × Int × Int) : SBx (((W.setCell ⟨B, 0, none⟩ (.int .i64 p.1)).setCell ⟨B, 1, none⟩ (.int .i64 p.2.1)).setCell ⟨B, 2, none⟩ (.int .i64 p.2.2)) B p := by
  have h0 := h.c0
  have h1 := h.c1
  have h2 := h.c2
  have hf := h.fz
  refine ⟨?_, ?_, ?_, fun j => ?_, by simpa using h.lt⟩
  · rw [World.cell?_setCell_other _ _ _ _ (by simp), World.cell?_setCell_other _ _ _ _ (by simp)]; exact World.cell?_setCell_same _ _ _ h0
  · rw [World.cell?_setCell_other _ _ _ _ (by simp)]; exact World.cell?_setCell_same _ _ _ (by rw [World.cell?_setCell_other _ _ _ _ (by simp)]; exact h1)
  · exact World.cell?_setCell_same _ _ _ (by rw [World.cell?_setCell_other _ _ _ _ (by simp), World.cell?_setCell_other _ _ _ _ (by simp)]; exact h2)
  · simp [hf]
theorem sbx_start {W : World} {q : Int × Int × Int} {T : TypeId} : SBx (W.alloc (.cells #[.int .i64 q.1, .int .i64 q.2.1, .int .i64 q.2.2] T)) W.heap.size q :=
  ⟨new_cell rfl rfl, new_cell rfl rfl, new_cell rfl rfl, fun _ => new_frozen rfl, by simp⟩
/-- the graph's box and the stop's -/
theorem GBx.set {w W : World} {B D : Nat} {g : Gr} {la ea : Option Addr} {lc ec : Nat} (h : GBx w W B g la ea lc ec) (hne : B ≠ D) (hD : w.heap.size ≤ D) (x y z : Value) : GBx w (((W.setCell ⟨D, 0, none⟩ x).setCell ⟨D, 1, none⟩ y).setCell ⟨D, 2, none⟩ z) B g la ea lc ec := by
  have h0 := h.c0
  have h1 := h.c1
  have h2 := h.c2
  have hne' : ¬ D = B := fun e => hne e.symm
  refine ⟨?_, ?_, ?_, set3 h.bel hD _ _ _, by simpa using h.lt⟩
  · rw [World.cell?_setCell_far _ _ _ _ hne', World.cell?_setCell_far _ _ _ _ hne', World.cell?_setCell_far _ _ _ _ hne']; exact h0
  · rw [World.cell?_setCell_far _ _ _ _ hne', World.cell?_setCell_far _ _ _ _ hne', World.cell?_setCell_far _ _ _ _ hne']; exact h1
  · rw [World.cell?_setCell_far _ _ _ _ hne', World.cell?_setCell_far _ _ _ _ hne', World.cell?_setCell_far _ _ _ _ hne']; exact h2

set_option maxRecDepth 100000 in
set_option maxHeartbeats 8000000 in
theorem jGo_any (g : Gr) (la ea : Option Addr) (lc ec : Nat) (v t : Int) (ho : Option Addr) (hc : Nat) (l : List Hp) (w : World) (hG : GAt w la ea g) (hH : IvAt w ho l) (hlen : l.length ≤ 9223372036854775807) :
    Calls Try.prog 11 #[.agg #[.int .i64 g.hor, .slice la g.lives.length lc, .slice ea g.edges.length ec], .int .i64 v, .int .i64 t, .slice ho l.length hc] w fun r w' => r = .returned (goW (goAns g v t l)) ∧ Below w.heap.size w w' := by
  have B0 := gbx_start w g la ea lc ec 25
  have h1 := jcheck_any g la ea lc ec v t _ (hG.below B0.bel)
  by_cases e1 : placeE g v t = 0
  case neg =>
    have HP : Hid (goAns g v t l = (0, 0, 0, placeE g v t)) := by show _ = _; unfold goAns; rw [if_neg e1]
    have d1 : (placeE g v t != 0) = true := by simpa using e1
    generalize placeE g v t = n at *
    clear e1 hG hH
    go_enter Try.func11, Try.ntmps11
    go_wp2_with fail
    refine h1.mono ?_
    rintro r w1 ⟨rfl, hb1⟩
    have hbF := (B0.below hb1).bel
    clear h1 hb1 B0
    go_wp2
    (try simp only [Exit.inBlock, Exit.then]); refine bodyPost_ret (results_tmp4j rfl _ _ _) rfl ?_
    exact ⟨by rw [HP.out]; rfl, hbF⟩
  rw [e1] at h1
  obtain ⟨hg0, ⟨hv0, hv1⟩, ht0, ht1⟩ := placeE_zero e1
  have hR := gChk_right hg0
  by_cases h500 : 500 < l.length
  · have HP : Hid (goAns g v t l = (0, 0, 0, 2)) := by show _ = _; unfold goAns; rw [if_pos e1, if_pos h500]
    clear e1 hG hH
    go_enter Try.func11, Try.ntmps11
    go_wp2_with fail
    refine h1.mono ?_
    rintro r w1 ⟨rfl, hb1⟩
    have hbF := (B0.below hb1).bel
    clear h1 hb1 B0
    go_wp2
    (try simp only [Exit.inBlock, Exit.then]); refine bodyPost_ret (results_tmp4j rfl _ _ _) rfl ?_
    exact ⟨by rw [HP.out]; rfl, hbF⟩
  have h500' : l.length ≤ 500 := by omega
  obtain ⟨s0, hs0⟩ : ∃ s0, s0 = (if aliveB t g.lives v = true then some (v, t, (0 : Int)) else none) := ⟨_, rfl⟩
  have HP5 : Hid (goF g s0 l = none → goAns g v t l = (0, 0, 0, 5)) := by intro h; unfold goAns; rw [if_pos e1, if_neg h500, ← hs0, h]
  have HP0 : Hid (∀ s, goF g s0 l = some s → goAns g v t l = (s.1, s.2.1, s.2.2, 0)) := by intro s h; unfold goAns; rw [if_pos e1, if_neg h500, ← hs0, h]
  obtain ⟨V, rfl⟩ : ∃ V : Nat, v = (V : Int) := ⟨v.toNat, by omega⟩
  have hV : V < g.lives.length := by omega
  have hlv := hR.lvs
  have hAV := aliveB_at t g.lives V hV
  have hVi : (V : Int) < (g.lives.length : Int) := by omega
  have hV0 : (0 : Int) ≤ (V : Int) := by omega
  have HG := hideg hG
  have HH := hideg hH
  have HRt := hideg hR
  have HTh : Hid (aliveB t g.lives (V : Int) = true → There g ((V : Int), t, 0)) := fun h => ⟨by simp only; omega, by simp only; omega, h⟩
  obtain ⟨ok, hok⟩ : ∃ ok, ok = aliveB t g.lives (V : Int) := ⟨_, rfl⟩
  have hAl := fun W => jalive_any g.lives[V].1 g.lives[V].2 t W
  rw [← hAV, ← hok] at hAl
  have HLv : Hid (∀ w, GAt w la ea g → ∃ b off, la = some ⟨b, off, none⟩ ∧ b < w.heap.size ∧ w.cell? ⟨b, off + V * 2, none⟩ = some (.int .i64 g.lives[V].1) ∧ w.cell? ⟨b, off + V * 2 + 1, none⟩ = some (.int .i64 g.lives[V].2)) := by
    intro w hG
    rcases hG.lv with h0 | ⟨b, off, rfl, hbr, hc⟩
    · rw [h0] at hV; simp at hV
    exact ⟨b, off, rfl, hbr, IvAt.get hV hc⟩
  have HS0 : Hid ((∃ s, goF g s0 (l.take 0) = some s ∧ ((V : Int), t, (0 : Int)) = s ∧ There g s ∧ 0 ≤ s.2.2 ∧ s.2.2 ≤ 1000 * ((0 : Nat) : Int) ∧ ok = true) ∨ (goF g s0 (l.take 0) = none ∧ ok = false)) := by
    rw [List.take_zero]
    cases ok with
    | true => left; exact ⟨((V : Int), t, 0), by rw [hs0, ← hok]; rfl, rfl, HTh.out hok.symm, by simp, by simp, rfl⟩
    | false => right; exact ⟨by rw [hs0, ← hok]; rfl, rfl⟩
  clear e1 hG hH h500 hR hg0 hv1 hs0 hok HTh hAV
  go_enter Try.func11, Try.ntmps11
  go_wp2_with fail
  refine h1.mono ?_
  rintro r w1 ⟨rfl, hb1⟩
  have B1 := B0.below hb1
  have hD : w.heap.size < w1.heap.size := B1.lt
  have B2 := B1.below (gal w1 (.cells #[.int .i64 (V : Int), .int .i64 t, .int .i64 0] 57))
  have S2 : SBx (w1.alloc (.cells #[.int .i64 (V : Int), .int .i64 t, .int .i64 0] 57)) w1.heap.size ((V : Int), t, 0) := sbx_start (q := ((V : Int), t, 0))
  obtain ⟨lb, lof, rfl, hlb, lv0, lv1⟩ := HLv.out _ (HG.out.below B2.bel)
  have g1 := B1.c1
  have g1' := B2.c1
  clear h1 hb1 B0
  go_wp2_with fail
  refine (hAl _).mono ?_
  rintro r w3 ⟨rfl, hb3⟩
  have B3 := hideg (B2.below hb3)
  have S3 := hideg (S2.below hb3)
  clear hAl hb3 B1 B2 S2 lv0 lv1 hlb HLv g1 g1'
  go_wp2_with fail
  go_loopw [14, 15] (fun o i wr => ∃ (k : Nat) (q : Int × Int × Int) (ok : Bool), k ≤ l.length ∧ i = .int .i64 k ∧ o = .bool ok ∧ ((∃ s, goF g s0 (l.take k) = some s ∧ q = s ∧ There g s ∧ 0 ≤ s.2.2 ∧ s.2.2 ≤ 1000 * (k : Int) ∧ ok = true) ∨ (goF g s0 (l.take k) = none ∧ ok = false)) ∧ SBx wr w1.heap.size q ∧ GBx w wr w.heap.size g (some ⟨lb, lof, none⟩) ea lc ec) (fun _ i _ => l.length - (intOf i).toNat)
  case atStart => exact ⟨0, _, ok, Nat.zero_le _, rfl, rfl, HS0.out, S3.out, B3.out⟩
  case round =>
    clear HS0 S3 B3
    obtain ⟨k, q, ok, hk, rfl, rfl, hstate, hS, hB⟩ := hrel
    have g0 := hB.c0
    have g1 := hB.c1
    have g2 := hB.c2
    have t0' := hS.c0
    have t1' := hS.c1
    have t2' := hS.c2
    rcases hstate with ⟨s, hs, rfl, hTh, hJ0, hJ1, rfl⟩ | ⟨hs, rfl⟩
    · have HSs := hideg hs
      clear hs
      by_cases hlt : k < l.length
      · rcases HH.out.below hB.bel with h0 | ⟨b, off, rfl, hbr, hcc⟩
        · subst h0; simp at hlt
        obtain ⟨c0, c1⟩ := IvAt.get hlt hcc
        have HT := hideg (goF_take (g := g) (s := s0) hlt)
        rw [HSs.out, Option.bind_some, ← nextF_there hTh.al] at HT
        obtain ⟨p, hp, hNx⟩ := next_any g (some ⟨lb, lof, none⟩) ea lc ec q l[k] HRt.out hTh.v0 hTh.v1 hJ0 (by omega)
        have HNs : Hid (∀ s', nextF g q l[k] = some s' → There g s' ∧ 0 ≤ s'.2.2 ∧ s'.2.2 ≤ 1000 * ((k + 1 : Nat) : Int)) := by
          intro s' e
          rw [nextF_there hTh.al] at e
          obtain ⟨k1, _, _, _, k2, k3⟩ := hopF_spec HRt.out e
          exact ⟨k1, by omega, by omega⟩
        have HNext : Hid ((∃ s, goF g s0 (l.take (k + 1)) = some s ∧ p = s ∧ There g s ∧ 0 ≤ s.2.2 ∧ s.2.2 ≤ 1000 * ((k + 1 : Nat) : Int) ∧ (nextF g q l[k]).isSome = true) ∨ (goF g s0 (l.take (k + 1)) = none ∧ (nextF g q l[k]).isSome = false)) := by
          show _ ∨ _
          rw [HT.out]
          cases e : nextF g q l[k] with
          | none => right; exact ⟨rfl, rfl⟩
          | some s' => left; exact ⟨s', rfl, hp s' e, (HNs.out s' e).1, (HNs.out s' e).2.1, (HNs.out s' e).2.2, rfl⟩
        clear HT HNs hp
        generalize (nextF g q l[k]).isSome = bn at *
        unfold nextV at hNx
        have hki : (k : Int) < (l.length : Int) := by omega
        have hne : Nonempty (HeldIn wr) := ⟨⟨wr, Below.refl _ _⟩⟩
        have f0 : ∀ s : HeldIn wr, s.w.cell? ⟨w.heap.size, 0, none⟩ = some (.int .i64 g.hor) := fun s => (hB.below s.h).c0
        have f1 : ∀ s : HeldIn wr, s.w.cell? ⟨w.heap.size, 1, none⟩ = some (.slice (some ⟨lb, lof, none⟩) g.lives.length lc) := fun s => (hB.below s.h).c1
        have f2 : ∀ s : HeldIn wr, s.w.cell? ⟨w.heap.size, 2, none⟩ = some (.slice ea g.edges.length ec) := fun s => (hB.below s.h).c2
        have f3 : ∀ s : HeldIn wr, s.w.cell? ⟨w1.heap.size, 0, none⟩ = some (.int .i64 q.1) := fun s => (hS.below s.h).c0
        have f4 : ∀ s : HeldIn wr, s.w.cell? ⟨w1.heap.size, 1, none⟩ = some (.int .i64 q.2.1) := fun s => (hS.below s.h).c1
        have f5 : ∀ s : HeldIn wr, s.w.cell? ⟨w1.heap.size, 2, none⟩ = some (.int .i64 q.2.2) := fun s => (hS.below s.h).c2
        have f6 : ∀ s : HeldIn wr, s.w.cell? ⟨b, off + k * 2, none⟩ = some (.int .i64 l[k].1) := fun s => (s.h.cell (p := ⟨b, off + k * 2, none⟩) hbr).trans c0
        have f7 : ∀ s : HeldIn wr, s.w.cell? ⟨b, off + k * 2 + 1, none⟩ = some (.int .i64 l[k].2) := fun s => (s.h.cell (p := ⟨b, off + k * 2 + 1, none⟩) hbr).trans c1
        have hNw : ∀ s : HeldIn wr, Calls Try.prog 28 #[.agg #[.int .i64 g.hor, .slice (some ⟨lb, lof, none⟩) g.lives.length lc, .slice ea g.edges.length ec], .agg #[.int .i64 q.1, .int .i64 q.2.1, .int .i64 q.2.2], .agg #[.int .i64 l[k].1, .int .i64 l[k].2]] s.w fun r w' => r = .returned (.tuple #[.agg #[.int .i64 p.1, .int .i64 p.2.1, .int .i64 p.2.2], .bool bn]) ∧ Below s.w.heap.size s.w w' := fun s => hNx s.w (HG.out.below (ptg hB.bel s.h))
        have HBx := hideg hB
        have HSx := hideg hS
        clear hB hS g0 g1 g2 t0' t1' t2' c0 c1 hcc hNx hTh
        go_wp2_with fail
        refine wp_region_split wr 8 (Below.refl _ _) (by kernel_rfl) (by kernel_rfl) (by kernel_rfl) (by kernel_rfl) ?_
        simp only [List.take_succ_cons, List.take_zero]
        repeat (go_big_quiet_step ((go_at_call 28; exact held_of (hNw _))))
        refine wpQuiet_nil ?_
        rintro _ ⟨s, rfl⟩
        have hSw : True := trivial
        refine take_lit (i := 8) (v := ?_) rfl (by kernel_rfl) (by kernel_rfl) (by kernel_rfl) (fun _ _ _ h => h) (Or.inl ⟨by rfl, ?hy8⟩) (by assumption) ?_
        case hy8 => (intro w hSw; (try dsimp only at hSw); go_simp; try with_reducible rfl)
        try simp only [Act.put, List.setIfInBounds_toArray, List.set_cons_zero, List.set_cons_succ]
        refine take_lit (i := 9) (v := ?_) rfl (by kernel_rfl) (by kernel_rfl) (by kernel_rfl) (fun _ _ _ h => h) (Or.inl ⟨by rfl, ?hy9⟩) (by assumption) ?_
        case hy9 => (intro w hSw; (try dsimp only at hSw); go_simp; try with_reducible rfl)
        try simp only [Act.put, List.setIfInBounds_toArray, List.set_cons_zero, List.set_cons_succ]
        refine next_lit (i := 10) rfl (by kernel_rfl) (fun K hK => ?_)
        have B6 := HBx.out.below s.h
        have S6 := HSx.out.below s.h
        clear f0 f1 f2 f3 f4 f5 f6 f7 hne hNw HBx HSx
        generalize s.w = w6 at *
        have r0 := S6.c0
        have r1 := S6.c1
        have r2 := S6.c2
        have fz := S6.fz
        have lt := S6.lt
        have HB6 := hideg (B6.set (D := w1.heap.size) (by omega) (by omega) (.int .i64 p.1) (.int .i64 p.2.1) (.int .i64 p.2.2))
        have HS6 := hideg (S6.set p)
        clear B6 S6
        go_simp
        refine hK.out _ _ trivial (fun _ => ?_)
        clear hK K
        try simp only [Act.put, List.setIfInBounds_toArray, List.set_cons_zero, List.set_cons_succ]
        refine next_lit (i := 11) rfl (by kernel_rfl) (fun K hK => ?_)
        go_simp
        refine hK.out _ _ trivial (fun _ => ?_)
        clear hK K
        refine wpAnyH_done (by kernel_rfl) ?_ _
        try simp only [Act.put, List.setIfInBounds_toArray, List.set_cons_zero, List.set_cons_succ]
        go_wp2
        go_roundw
        case rel => exact ⟨k + 1, p, bn, by omega, by go_num, rfl, HNext.out, HS6.out, HB6.out⟩
        case measure => simp [intOf]; omega
      · have hkl : k = l.length := by omega
        have HE : Hid (goAns g (V : Int) t l = (q.1, q.2.1, q.2.2, 0)) := HP0.out q (by have := HSs.out; rwa [hkl, List.take_length] at this)
        have hbF := hB.bel
        have lt := hS.lt
        subst hkl
        clear hB hS
        go_wp2
        go_quiet (fail)
        go_wp2
        (try simp only [Exit.inBlock, Exit.then]); refine bodyPost_ret (results_tmp4j rfl _ _ _) rfl ?_
        exact ⟨by rw [HE.out]; rfl, below_drewN hbF _⟩
    · have HE := hideg (HP5.out (goF_stuck hs))
      have hbF := hB.bel
      clear hs hB hS
      go_wp2
      all_goals (try simp only [Exit.inBlock, Exit.then])
      all_goals refine bodyPost_ret (results_tmp4j rfl _ _ _) rfl ?_
      all_goals exact ⟨by rw [HE.out]; rfl, hbF⟩

end Go.Proofs.Ytanbbkoleekmjai
