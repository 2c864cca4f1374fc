/-
  The law ProfileSays, walked.
-/
import Derived.Test.YtanbbkoleekmjacPfC
import Derived.Test.YtanbbkoleekmjacRPf
import Derived.Test.YtanbbkoleekmjacEqRB
import Derived.Test.YtanbbkoleekmjacEq3
namespace Go.Proofs.Ytanbbkoleekmjac
open Go.RowKit

theorem OfIs.bad {g : Gr} {v q e : Int} {m : List (Int × Int × Int)} (h : OfIs g v q e m) (h0 : gChk g = 0) (hb : inR v 0 ((g.lives.length : Int) - 1) = false ∨ inR q 0 ((g.lives.length : Int) - 1) = false) : e = 4 ∧ m = [] := by
  rcases h with ⟨h1, _⟩ | ⟨_, _, h2, h3⟩ | ⟨_, ⟨V, Q, rfl, rfl, h1, h2, _⟩, _⟩
  · exact absurd h0 h1
  · exact ⟨h2, h3⟩
  · exfalso
    rcases hb with hb | hb
    · rw [(inR_vtx _ _).2 (by omega)] at hb; cases hb
    · rw [(inR_vtx _ _).2 (by omega)] at hb; cases hb
theorem OfIs.ok {g : Gr} {V Q : Nat} {e : Int} {m m' : List (Int × Int × Int)} (h : OfIs g (V : Int) (Q : Int) e m) (h0 : gChk g = 0) (hV : V < g.lives.length) (hQ : Q < g.lives.length) (hm : MCan m' ∧ ∀ t, tel m' t = profF g V Q t) : e = 0 ∧ m = m' ∧ m.length ≤ 200 := by
  rcases h with ⟨h1, _⟩ | ⟨_, h1, _⟩ | ⟨_, ⟨V', Q', e1, e2, _, _, h1⟩, h2, h3, h4⟩
  · exact absurd h0 h1
  · exfalso; omega
  · have : V' = V := by omega
    have : Q' = Q := by omega
    subst V' Q'
    refine ⟨h2, mcan_unique h3 hm.1 (fun t => by rw [h1, hm.2]), ?_⟩
    rcases mchk_cases m with k | k | ⟨_, k, _⟩ <;> omega
theorem OfIs.wrong {g : Gr} {v q e : Int} {m : List (Int × Int × Int)} (h : OfIs g v q e m) (h0 : gChk g ≠ 0) : e = gChk g ∧ m = [] := by
  rcases h with ⟨_, h1, h2⟩ | ⟨h1, _⟩ | ⟨h1, _⟩
  · exact ⟨h1, h2⟩
  · exact absurd h1 h0
  · exact absurd h1 h0
/-- the rows of the reference while they are made -/
structure RwM (base k : Nat) (W : World) (u : Value) (vals : List Value) (R : Nat → List Bool) : Prop where
  own : W.ownsRow base 56 1 u k vals
  len : vals.length = k
  inn : ∀ v (h : v < vals.length), W.ownsRow base 4 1 vals[v] (R v).length ((R v).map Value.bool)
theorem RwM.below {base k : Nat} {W W' : World} {u : Value} {vals : List Value} {R : Nat → List Bool} (M : RwM base k W u vals R) (hb : Below W.heap.size W W') : RwM base k W' u vals R :=
  ⟨ownsRow_below M.own hb, M.len, fun v hv => ownsRow_below (M.inn v hv) hb⟩
theorem RwM.rows {base k : Nat} {W : World} {u : Value} {vals : List Value} {R : Nat → List Bool} (M : RwM base k W u vals R) : ∃ ao cap, u = .slice ao k cap ∧ BsRows W ao ((List.range k).map R) := by
  have hl := M.len
  rcases M.own.2 with ⟨h1, h0⟩ | ⟨gb, cap, cur, e, _, hh, _⟩
  · subst h0
    exact ⟨_, _, h1, .inl rfl⟩
  · refine ⟨_, _, e, .inr ⟨gb, 0, rfl, (Array.getElem?_eq_some_iff.1 hh).1, fun v hv => ?_⟩⟩
    have hv' : v < k := by simpa using hv
    have hown := M.own
    rw [e] at hown
    obtain ⟨ai, ci, e2, hz⟩ := bsAt_of_owns (M.inn v (by omega))
    simp only [List.getElem_map, List.getElem_range, Nat.zero_add]
    refine ⟨ai, ci, ?_, hz⟩
    rw [World.ownsRow.cellAt hown v (by omega), List.getElem?_eq_getElem (by omega), e2]
theorem RwM.snoc {base k : Nat} {W W' : World} {u u' x : Value} {vals : List Value} {R : Nat → List Bool} (M : RwM base k W u vals R) (hx : W.ownsRow base 4 1 x (R k).length ((R k).map Value.bool)) (o : Obj) (hg : (W.alloc o).grownBy W' u.ownBlock) (ho : W'.ownsRow base 56 1 u' (k + 1) (vals ++ [x])) : RwM base (k + 1) W' u' (vals ++ [x]) R := by
  refine ⟨ho, by simp [M.len], fun v hv => ?_⟩
  have hk : ∀ {y : Value} {r : List Bool}, W.ownsRow base 4 1 y r.length (r.map Value.bool) → W'.ownsRow base 4 1 y r.length (r.map Value.bool) := fun {y r} h => World.ownsRow.kept (World.ownsRow.alloc (w := W) h o) hg (su_apart h M.own (by decide))
  by_cases e : v < vals.length
  · rw [List.getElem_append_left e]; exact hk (M.inn v e)
  · have e' : v = vals.length := by simp at hv; omega
    subst e'
    rw [List.getElem_append_right (Nat.le_refl _)]
    simp only [Nat.sub_self, List.getElem_cons_zero]
    rw [M.len]
    exact hk hx

set_option maxRecDepth 100000 in
theorem pfEq1_any (ao bo : Option Addr) (ca cb : Nat) (a b : List Bool) (w : World) (hA : BsAt w ao a) (hB : BsAt w bo b) (hl : a.length ≤ 9223372036854775807) :
    Calls Try.prog 28 #[.slice ao a.length ca, .slice bo b.length cb] w fun e w' => e = .returned (.bool (decide (a = b))) ∧ Below w.heap.size w w' := by
  have h := EqualBool_any ao bo ca cb a b w hA hB hl
  generalize decide (a = b) = d at *
  clear hA hB
  go_enter Try.func28, Try.ntmps28
  go_wp2_with fail
  refine h.mono ?_
  rintro r w1 ⟨rfl, hb1⟩
  clear h
  go_wp2
  go_ret
  exact ⟨rfl, hb1⟩
def rowsF (g : Gr) (s e : Int) : List (List Bool) := (List.range g.lives.length).map (reachR g s e)
theorem rowsF_len (g : Gr) (s e : Int) : (rowsF g s e).length = g.lives.length := by simp [rowsF]
theorem rowsF_row (g : Gr) (s e : Int) : ∀ r ∈ rowsF g s e, r.length = g.lives.length := by
  intro r hr
  simp only [rowsF, List.mem_map, List.mem_range] at hr
  obtain ⟨v, _, rfl⟩ := hr
  simp [reachR, (erF_len g (v : Int) s).1]
theorem rlist_succ (x : List Int) (e : Int) (j : Nat) (hj : j < x.length) : ((x.take (j + 1)).map fun t => decide (t ≤ e)).map Value.bool = ((x.take j).map fun t => decide (t ≤ e)).map Value.bool ++ [.bool (decide (x.getD j 0 ≤ e))] := by
  rw [List.take_succ_eq_append_getElem hj, List.map_append, List.map_append, List.getD_eq_getElem?_getD, List.getElem?_eq_getElem hj]; rfl

set_option maxRecDepth 100000 in
set_option maxHeartbeats 1000000 in
theorem profileSays_wrong (g : Gr) (la ea : Option Addr) (lc ec : Nat) (v q s e : Int) (w : World) (hG : GAt w la ea g) (h0 : gChk g ≠ 0) :
    Calls Try.prog 6 #[.agg #[.int .i64 g.hor, .slice la g.lives.length lc, .slice ea g.edges.length ec], .int .i64 v, .int .i64 q, .int .i64 s, .int .i64 e] w fun r w' => r = .returned (.bool true) ∧ Below w.heap.size w w' := by
  have B0 := gbx_start w g la ea lc ec 25
  have h1 := RGraph_any g la ea lc ec _ (hG.below B0.bel)
  have HOf := hideg (fun W (hb : Below w.heap.size w W) => pOf_any g la ea lc ec v q W (hG.below hb))
  have HWrong := hideg (fun e' m (h : OfIs g v q e' m) => h.wrong h0)
  have hE : reachE g s e = gChk g := by unfold reachE; rw [if_neg h0]
  have hRe := fun W (hb : Below w.heap.size w W) => pReach_bad g la ea lc ec s e W (hG.below hb) (by rw [hE]; exact h0)
  rw [hE] at hRe
  have HRe := hideg hRe
  have d1 : (gChk g == 0) = false := by simpa using h0
  have d2 : (gChk g == gChk g) = true := by simp
  have hlw : True := trivial
  clear hRe hG hE h0
  generalize gChk g = n at *
  go_enter Try.func6, Try.ntmps6
  go_wp2_with fail
  refine h1.mono ?_
  rintro r w1 ⟨rfl, hb1⟩
  have B1 := B0.below hb1
  have g0 := B1.c0
  have g1 := B1.c1
  have g2 := B1.c2
  clear h1 hb1 B0
  go_wp2_with (go_at_call 15; refine (In_any _ _ _ _).mono ?_; rintro e w1 ⟨rfl, rfl⟩)
  refine (HOf.out _ B1.bel).mono ?_
  rintro r w5 ⟨u3, e3, m3, rfl, hO3, ho3, hb5⟩
  have B5 := B1.below hb5
  have ho3 := owns_base2 ho3 B1.bel.size
  obtain ⟨rfl, rfl⟩ := HWrong.out _ _ hO3
  clear g0 g1 g2 hb5 B1 hO3
  have g0 := B5.c0
  have g1 := B5.c1
  have g2 := B5.c2
  go_wp2_with fail
  refine (HRe.out _ B5.bel).mono ?_
  rintro r w6 ⟨rfl, hb6⟩
  have B6 := B5.below hb6
  have ho3 := ownsRow_below ho3 hb6
  obtain ⟨a3, c3, rfl, z3⟩ := pcAt_of_owns ho3
  have hE1 := Equal3_any a3 none c3 0 [] [] w6 z3 (.inl rfl) (by simp)
  rw [show decide (([] : List (Int × Int × Int)) = []) = true from decide_eq_true rfl] at hE1
  have hE2 := fun W (_ : Below w6.heap.size w6 W) => eqRowsB_any 28 (fun args w => Try.call28 args w) pfEq1_any none none 0 0 [] W (.inl rfl) (.inl rfl) (by simp) (by simp)
  have HE2 := hideg hE2
  have hbF := B6.bel
  clear g0 g1 g2 hb6 B5 B6 ho3 z3 hE2
  go_wp2_with fail
  refine hE1.mono ?_
  rintro r w7 ⟨rfl, hb7⟩
  have hE3 := HE2.out _ hb7
  have hbF7 := ptg hbF hb7
  clear hE1 hb7 hbF
  go_wp2_with fail
  refine hE3.mono ?_
  rintro r w8 ⟨rfl, hb8⟩
  have hbF8 := ptg hbF7 hb8
  clear hE3 hb8 hbF7
  go_wp2
  go_ret
  exact ⟨rfl, hbF8⟩

set_option maxRecDepth 100000 in
set_option maxHeartbeats 1000000 in
theorem profileSays_badbad (g : Gr) (la ea : Option Addr) (lc ec : Nat) (v q s e : Int) (w : World) (hG : GAt w la ea g) (h0 : gChk g = 0) (hP : inR v 0 ((g.lives.length : Int) - 1) = false ∨ inR q 0 ((g.lives.length : Int) - 1) = false) (hQ : inR s 0 (g.hor - 1) = false ∨ inR e 0 (g.hor - 1) = false) :
    Calls Try.prog 6 #[.agg #[.int .i64 g.hor, .slice la g.lives.length lc, .slice ea g.edges.length ec], .int .i64 v, .int .i64 q, .int .i64 s, .int .i64 e] w fun r w' => r = .returned (.bool true) ∧ Below w.heap.size w w' := by
  have B0 := gbx_start w g la ea lc ec 25
  have h1 := RGraph_any g la ea lc ec _ (hG.below B0.bel)
  have HOf := hideg (fun W (hb : Below w.heap.size w W) => pOf_any g la ea lc ec v q W (hG.below hb))
  have hR := gChk_right h0
  have hl12 := hR.lvs
  have hh := hR.hor
  have HBad := hideg (fun e' m (h : OfIs g v q e' m) => h.bad h0 hP)
  have hE : reachE g s e = 1 := by unfold reachE; rw [if_pos h0, if_neg (fun h => by rcases hQ with k | k <;> simp [k] at h)]
  have hRe := fun W (hb : Below w.heap.size w W) => pReach_bad g la ea lc ec s e W (hG.below hb) (by rw [hE]; decide)
  rw [hE] at hRe
  have HRe := hideg hRe
  clear hRe hE
  rw [h0] at h1
  clear hG h0 hR
  have hP2 : inR v 0 ((g.lives.length : Int) - 1) = false ∨ (inR v 0 ((g.lives.length : Int) - 1) = true ∧ inR q 0 ((g.lives.length : Int) - 1) = false) := by
    cases bv : inR v 0 ((g.lives.length : Int) - 1)
    · exact .inl rfl
    · rcases hP with k | k
      · rw [bv] at k; cases k
      · exact .inr ⟨rfl, k⟩
  clear hP
  rcases hP2 with bv | ⟨bv, bq⟩
  all_goals
    have hQ2 : inR s 0 (g.hor - 1) = false ∨ (inR s 0 (g.hor - 1) = true ∧ inR e 0 (g.hor - 1) = false) := by
      cases bs : inR s 0 (g.hor - 1)
      · exact .inl rfl
      · rcases hQ with k | k
        · rw [bs] at k; cases k
        · exact .inr ⟨rfl, k⟩
    clear hQ
    rcases hQ2 with bs | ⟨bs, be⟩
    all_goals
      go_enter Try.func6, Try.ntmps6
      go_wp2_with fail
      refine h1.mono ?_
      rintro r w1 ⟨rfl, hb1⟩
      have B1 := B0.below hb1
      have g0 := B1.c0
      have g1 := B1.c1
      have g2 := B1.c2
      clear h1 hb1 B0
      go_wp2_with (go_at_call 15; refine (In_any _ _ _ _).mono ?_; rintro e w1 ⟨rfl, rfl⟩)
      refine (HOf.out _ B1.bel).mono ?_
      rintro r w5 ⟨u3, e3, m3, rfl, hO3, ho3, hb5⟩
      have B5 := B1.below hb5
      have ho3 := owns_base2 ho3 B1.bel.size
      obtain ⟨rfl, rfl⟩ := HBad.out _ _ hO3
      clear g0 g1 g2 hb5 B1 hO3
      have g0 := B5.c0
      have g1 := B5.c1
      have g2 := B5.c2
      go_wp2_with fail
      refine (HRe.out _ B5.bel).mono ?_
      rintro r w6 ⟨rfl, hb6⟩
      have B6 := B5.below hb6
      have ho3 := ownsRow_below ho3 hb6
      obtain ⟨a3, c3, rfl, z3⟩ := pcAt_of_owns ho3
      have hE1 := Equal3_any a3 none c3 0 [] [] w6 z3 (.inl rfl) (by simp)
      rw [show decide (([] : List (Int × Int × Int)) = []) = true from decide_eq_true rfl] at hE1
      have hE2 := fun W (_ : Below w6.heap.size w6 W) => eqRowsB_any 28 (fun args w => Try.call28 args w) pfEq1_any none none 0 0 [] W (.inl rfl) (.inl rfl) (by simp) (by simp)
      have HE2 := hideg hE2
      have hbF := B6.bel
      clear g0 g1 g2 hb6 B5 B6 ho3 z3 hE2
      go_wp2_with fail
      refine hE1.mono ?_
      rintro r w7 ⟨rfl, hb7⟩
      have hE3 := HE2.out _ hb7
      have hbF7 := ptg hbF hb7
      clear hE1 hb7 hbF
      go_wp2_with fail
      refine hE3.mono ?_
      rintro r w8 ⟨rfl, hb8⟩
      have hbF8 := ptg hbF7 hb8
      clear hE3 hb8 hbF7
      go_wp2
      go_ret
      exact ⟨rfl, hbF8⟩

set_option maxRecDepth 100000 in
set_option maxHeartbeats 1000000 in
theorem profileSays_badok (g : Gr) (la ea : Option Addr) (lc ec : Nat) (v q s e : Int) (w : World) (hG : GAt w la ea g) (h0 : gChk g = 0) (hP : inR v 0 ((g.lives.length : Int) - 1) = false ∨ inR q 0 ((g.lives.length : Int) - 1) = false) (bs : inR s 0 (g.hor - 1) = true) (be : inR e 0 (g.hor - 1) = true) :
    Calls Try.prog 6 #[.agg #[.int .i64 g.hor, .slice la g.lives.length lc, .slice ea g.edges.length ec], .int .i64 v, .int .i64 q, .int .i64 s, .int .i64 e] w fun r w' => r = .returned (.bool true) ∧ Below w.heap.size w w' := by
  have B0 := gbx_start w g la ea lc ec 25
  have h1 := RGraph_any g la ea lc ec _ (hG.below B0.bel)
  have HOf := hideg (fun W (hb : Below w.heap.size w W) => pOf_any g la ea lc ec v q W (hG.below hb))
  have hR := gChk_right h0
  have hl12 := hR.lvs
  have hh := hR.hor
  obtain ⟨i0, hi, hz0, hz1, hz2⟩ := info_parts Try.infoBoolR
  obtain ⟨i1, hi', hy0, hy1, hy2⟩ := info_parts Try.infoBools
  have HBad := hideg (fun e' m (h : OfIs g v q e' m) => h.bad h0 hP)
  have hE : reachE g s e = 0 := by unfold reachE; rw [if_pos h0, if_pos ⟨bs, be⟩]
  have HRe := hideg (fun W (hb : Below w.heap.size w W) => pReach_ok g la ea lc ec s e W (hG.below hb) hE)
  have HAr : Hid (∀ (x : Nat), x < g.lives.length → ∀ W, Below w.heap.size w W → Calls Try.prog 19 #[.agg #[.int .i64 g.hor, .slice la g.lives.length lc, .slice ea g.edges.length ec], .int .i64 (x : Int), .int .i64 s] W fun r w' => ∃ gb cap, r = .returned (.slice (some ⟨gb, 0, none⟩) g.lives.length cap) ∧ Zo w' W.heap.size gb g.lives.length cap (erF g (x : Int) s).1 ∧ Below W.heap.size W w') := by
    intro x hx W hb
    have hp : placeE g (x : Int) s = 0 := by unfold placeE; rw [if_pos h0, if_pos ((inR_iff _ _ _).2 (by omega)), if_pos bs]
    refine (Arr_fn g la ea lc ec (x : Int) s W (hG.below hb) hp).mono ?_
    rintro r w' ⟨gq, cap, rfl, h2, _, h3⟩
    rw [arrF_is hG hp] at h2
    exact ⟨gq, cap, rfl, h2, h3⟩
  clear hE
  rw [h0] at h1
  clear hG h0 hR
  have hP2 : inR v 0 ((g.lives.length : Int) - 1) = false ∨ (inR v 0 ((g.lives.length : Int) - 1) = true ∧ inR q 0 ((g.lives.length : Int) - 1) = false) := by
    cases bv : inR v 0 ((g.lives.length : Int) - 1)
    · exact .inl rfl
    · rcases hP with k | k
      · rw [bv] at k; cases k
      · exact .inr ⟨rfl, k⟩
  clear hP
  rcases hP2 with bv | ⟨bv, bq⟩
  all_goals
    go_enter Try.func6, Try.ntmps6
    go_wp2_with fail
    refine h1.mono ?_
    rintro r w1 ⟨rfl, hb1⟩
    have B1 := B0.below hb1
    have g0 := B1.c0
    have g1 := B1.c1
    have g2 := B1.c2
    clear h1 hb1 B0
    go_wp2_with (go_at_call 15; refine (In_any _ _ _ _).mono ?_; rintro e w1 ⟨rfl, rfl⟩)
    have HB := hideg B1
    clear g0 g1 g2 B1
    go_loopw [14, 60] (fun u i wr => ∃ k vals, k ≤ g.lives.length ∧ i = .int .i64 ((k : Nat) : Int) ∧ RwM w1.heap.size k wr u vals (reachR g s e) ∧ Below w1.heap.size w1 wr) (fun _ i _ => g.lives.length - (intOf i).toNat)
    case atStart => exact ⟨0, [], Nat.zero_le _, rfl, ⟨World.ownsRow_nil _ _ _ _, rfl, fun v h => absurd h (by simp)⟩, Below.refl _ _⟩
    case round =>
      obtain ⟨k, vals, hk, rfl, MR, hb⟩ := hrel
      have BR := HB.out.below hb
      have g0 := BR.c0
      have g1 := BR.c1
      have g2 := BR.c2
      by_cases hkl : k < g.lives.length
      · have hki : (k : Int) < (g.lives.length : Int) := by omega
        have hkw : IntKind.i64.wrap ((k : Int) + 1) = (k : Int) + 1 := wrap_nj _ (by omega) (by omega)
        have hAr := HAr.out k hkl wr BR.bel
        have HMR := hideg MR
        have HBb := hideg hb
        clear MR hb BR
        go_wp2_with fail
        refine hAr.mono ?_
        rintro r w3 ⟨gb, cap, rfl, hz, hb3⟩
        obtain ⟨X, hX⟩ : ∃ X, X = (erF g (k : Int) s).1 := ⟨_, rfl⟩
        rw [← hX] at hz
        have hXl : X.length = g.lives.length := by rw [hX]; exact (erF_len g (k : Int) s).1
        have HRow : Hid (reachR g s e k = X.map fun t => decide (t ≤ e)) := by show _ = _; rw [hX]; rfl
        have HXl := hideg hXl
        have HZ := hideg hz
        have HM3 := hideg (HMR.out.below hb3)
        have HB3 := hideg (HBb.out.trans (hb3.mono HBb.out.size))
        clear hAr hX hXl hz hb3 HMR HBb g0 g1 g2
        go_wp2_with fail
        obtain ⟨wo, hwo⟩ : ∃ x, x = wr := ⟨_, rfl⟩
        subst hwo
        go_loopw [17, 68] (fun u i wr => ∃ j : Nat, j ≤ g.lives.length ∧ i = .int .i64 (j : Int) ∧ wr.ownsRow w3.heap.size 4 1 u j (((X.take j).map fun t => decide (t ≤ e)).map Value.bool) ∧ Below w3.heap.size w3 wr) (fun _ i _ => g.lives.length - (intOf i).toNat)
        case atStart => exact ⟨0, Nat.zero_le _, rfl, World.ownsRow_nil _ _ _ _, Below.refl _ _⟩
        case round =>
          obtain ⟨j, hj, rfl, hown, hb⟩ := hrel
          have hsz := hb.size
          by_cases hjl : j < g.lives.length
          · have hji : (j : Int) < (g.lives.length : Int) := by omega
            have hjw : IntKind.i64.wrap ((j : Int) + 1) = (j : Int) + 1 := wrap_nj _ (by omega) (by omega)
            have xj := Zo.cell (HZ.out.below hb) hjl
            have HSu := hideg (rlist_succ X e j (by rw [HXl.out]; exact hjl))
            obtain ⟨x, hx⟩ : ∃ x, x = X.getD j 0 := ⟨_, rfl⟩
            rw [← hx] at xj HSu
            have HBb := hideg hb
            clear hx hb
            go_wp2_with (at_builtin; refine wpList_append_own _ rfl _ _ 56 rfl w3.heap.size 4 i0 (.bool false) 1 1 Try.underlying56 hi hz0 hz1 hz2 rfl (by decide) _ _ _ rfl (World.ownsRow.alloc (w := wr) hown _) ⟨wr.heap.size, 0, none⟩ 1 1 [.bool (decide (x ≤ e))] rfl rfl (cell_one_new _ _ _) (by intro u hu; simp at hu; subst hu; rfl) (by unfold maxLen; omega) (by omega) (by simp; omega) ?_; intro v' w6 hown6 hgrow _)
            have hb6 := (HBb.out.alloc hsz _).grown hgrow (by simp; omega) (fun q hq => (hown.lt q hq).1)
            exact ⟨⟨j + 1, by omega, by go_num, by rw [HSu.out]; exact hown6, hb6⟩, by simp [intOf]; omega⟩
          · have hje : j = g.lives.length := by omega
            have hjn : ¬ ((j : Int) < (g.lives.length : Int)) := by omega
            have hown2 : wr.ownsRow w1.heap.size 4 1 u17 (reachR g s e k).length ((reachR g s e k).map Value.bool) := by
              rw [HRow.out, List.length_map, HXl.out]
              rw [hje, List.take_of_length_le (by rw [HXl.out]; exact Nat.le_refl _)] at hown
              exact owns_base2 hown HB3.out.size
            obtain ⟨ai, ci, hu17, _⟩ := bsAt_of_owns hown2
            subst hu17
            have M4 := HM3.out.below hb
            have hb4 := HB3.out.trans (hb.mono HB3.out.size)
            have hs4 := hb4.size
            have HM4 := hideg M4
            have HB4 := hideg hb4
            have HOwn := hideg hown2
            have hvl := M4.len
            have ho4 := M4.own
            clear hown hje hb M4 hb4 hown2 HM3 HB3 HZ
            go_wp2_with (at_builtin; refine wpList_append_own _ rfl _ _ 54 rfl w1.heap.size 56 i1 (.slice none 0 0) 1 24 Try.underlying54 hi' hy0 hy1 hy2 rfl (by decide) _ _ _ rfl (World.ownsRow.alloc (w := wr) ho4 _) ⟨wr.heap.size, 0, none⟩ 1 1 [.slice ai (reachR g s e k).length ci] rfl rfl (cell_one_new _ _ _) (by intro u hu; simp at hu; subst hu; rfl) (by unfold maxLen; omega) (by omega) (by simp; omega) ?_; intro v' w6 hown6 hgrow _)
            have hb6 := (HB4.out.alloc hs4 _).grown hgrow (by simp; omega) (fun q hq => (ho4.lt q hq).1)
            exact ⟨⟨k + 1, vals ++ [.slice ai (reachR g s e k).length ci], by omega, by go_num, HM4.out.snoc HOwn.out _ hgrow hown6, hb6⟩, by simp [intOf]; omega⟩
      · have hke : k = g.lives.length := by omega
        have hkn : ¬ ((k : Int) < (g.lives.length : Int)) := by omega
        rw [hke] at MR
        have MR := MR
        clear hke hb
        go_wp2_with (go_at_call 15; refine (In_any _ _ _ _).mono ?_; rintro e wr ⟨rfl, rfl⟩)
        refine (HOf.out _ BR.bel).mono ?_
        rintro r w5 ⟨u3, e3, m3, rfl, hO3, ho3, hb5⟩
        have B5 := BR.below hb5
        have ho3 := owns_base2 ho3 BR.bel.size
        obtain ⟨rfl, rfl⟩ := HBad.out _ _ hO3
        have MR := MR.below hb5
        clear g0 g1 g2 hb5 BR hO3
        have g0 := B5.c0
        have g1 := B5.c1
        have g2 := B5.c2
        go_wp2_with fail
        refine (HRe.out _ B5.bel).mono ?_
        rintro r w6 ⟨go, bl, rfl, hbl, hRM, hb6⟩
        have B6 := B5.below hb6
        have ho3 := ownsRow_below ho3 hb6
        have MR := MR.below hb6
        obtain ⟨a3, c3, rfl, z3⟩ := pcAt_of_owns ho3
        have hE1 := Equal3_any a3 none c3 0 [] [] w6 z3 (.inl rfl) (by simp)
        rw [show decide (([] : List (Int × Int × Int)) = []) = true from decide_eq_true rfl] at hE1
        have hR1 := rm_rows hRM hbl
        obtain ⟨ra, rc, rfl, hR2⟩ := MR.rows
        have hE2 := fun W (hb : Below w6.heap.size w6 W) => eqRowsB_any 28 (fun args w => Try.call28 args w) pfEq1_any (some ⟨go, 0, none⟩) ra g.lives.length rc (rowsF g s e) W (hR1.below hb) (hR2.below hb) (by rw [rowsF_len]; omega) (fun r hr => by rw [rowsF_row g s e r hr]; omega)
        rw [rowsF_len] at hE2
        have HE2 := hideg hE2
        have hbF := B6.bel
        clear g0 g1 g2 hb6 B5 B6 ho3 z3 hE2 MR hR1 hR2 hRM hbl
        go_wp2_with fail
        refine hE1.mono ?_
        rintro r w7 ⟨rfl, hb7⟩
        have hE3 := HE2.out _ hb7
        have hbF7 := ptg hbF hb7
        clear hE1 hb7 hbF
        go_wp2_with fail
        refine hE3.mono ?_
        rintro r w8 ⟨rfl, hb8⟩
        have hbF8 := ptg hbF7 hb8
        clear hE3 hb8 hbF7
        go_wp2
        go_ret
        exact ⟨rfl, hbF8⟩

set_option maxRecDepth 100000 in
set_option maxHeartbeats 1000000 in
theorem profileSays_okbad (g : Gr) (la ea : Option Addr) (lc ec : Nat) (v q s e : Int) (w : World) (hG : GAt w la ea g) (h0 : gChk g = 0) (bv : inR v 0 ((g.lives.length : Int) - 1) = true) (bq : inR q 0 ((g.lives.length : Int) - 1) = true) (hQ : inR s 0 (g.hor - 1) = false ∨ inR e 0 (g.hor - 1) = false) :
    Calls Try.prog 6 #[.agg #[.int .i64 g.hor, .slice la g.lives.length lc, .slice ea g.edges.length ec], .int .i64 v, .int .i64 q, .int .i64 s, .int .i64 e] w fun r w' => r = .returned (.bool true) ∧ Below w.heap.size w w' := by
  have B0 := gbx_start w g la ea lc ec 25
  have h1 := RGraph_any g la ea lc ec _ (hG.below B0.bel)
  have HOf := hideg (fun W (hb : Below w.heap.size w W) => pOf_any g la ea lc ec v q W (hG.below hb))
  have hR := gChk_right h0
  have hl12 := hR.lvs
  have hh := hR.hor
  have HGood : Hid (∀ e' m m', OfIs g v q e' m → (MCan m' ∧ ∀ t, tel m' t = profF g v.toNat q.toNat t) → e' = 0 ∧ m = m' ∧ m.length ≤ 200) := by
    intro e' m m' h k
    have hv := (inR_vtx _ _).1 bv
    have hq := (inR_vtx _ _).1 bq
    refine OfIs.ok (V := v.toNat) (Q := q.toNat) ?_ h0 (by omega) (by omega) k
    rw [show ((v.toNat : Nat) : Int) = v by omega, show ((q.toNat : Nat) : Int) = q by omega]
    exact h
  have HPr : Hid (∀ W, Below w.heap.size w W → Calls Try.prog 23 #[.agg #[.int .i64 g.hor, .slice la g.lives.length lc, .slice ea g.edges.length ec], .int .i64 v, .int .i64 q] W fun r w' => ∃ u m, r = .returned u ∧ (MCan m ∧ ∀ t, tel m t = profF g v.toNat q.toNat t) ∧ w'.ownsRow W.heap.size 63 3 u m.length (enc3 m) ∧ Below W.heap.size W w') := by
    intro W hb
    have hv := (inR_vtx _ _).1 bv
    have hq := (inR_vtx _ _).1 bq
    have := rProf_any g la ea lc ec v.toNat q.toNat W (hG.below hb) h0 (by omega) (by omega)
    rw [show ((v.toNat : Nat) : Int) = v by omega, show ((q.toNat : Nat) : Int) = q by omega] at this
    exact this
  have hE : reachE g s e = 1 := by unfold reachE; rw [if_pos h0, if_neg (fun h => by rcases hQ with k | k <;> simp [k] at h)]
  have hRe := fun W (hb : Below w.heap.size w W) => pReach_bad g la ea lc ec s e W (hG.below hb) (by rw [hE]; decide)
  rw [hE] at hRe
  have HRe := hideg hRe
  clear hRe hE
  rw [h0] at h1
  clear hG h0 hR
  have hQ2 : inR s 0 (g.hor - 1) = false ∨ (inR s 0 (g.hor - 1) = true ∧ inR e 0 (g.hor - 1) = false) := by
    cases bs : inR s 0 (g.hor - 1)
    · exact .inl rfl
    · rcases hQ with k | k
      · rw [bs] at k; cases k
      · exact .inr ⟨rfl, k⟩
  clear hQ
  rcases hQ2 with bs | ⟨bs, be⟩
  all_goals
    go_enter Try.func6, Try.ntmps6
    go_wp2_with fail
    refine h1.mono ?_
    rintro r w1 ⟨rfl, hb1⟩
    have B1 := B0.below hb1
    have g0 := B1.c0
    have g1 := B1.c1
    have g2 := B1.c2
    clear h1 hb1 B0
    go_wp2_with (go_at_call 15; refine (In_any _ _ _ _).mono ?_; rintro e w1 ⟨rfl, rfl⟩)
    refine (HPr.out _ B1.bel).mono ?_
    rintro r w2 ⟨u1, m1, rfl, hm1, ho1, hb2⟩
    have B2 := B1.below hb2
    have Hm1 := hideg hm1
    have ho1 := owns_base2 ho1 B1.bel.size
    clear g0 g1 g2 hb2 B1 hm1
    have g0 := B2.c0
    have g1 := B2.c1
    have g2 := B2.c2
    go_wp2_with (go_at_call 15; refine (In_any _ _ _ _).mono ?_; rintro e w2 ⟨rfl, rfl⟩)
    refine (HOf.out _ B2.bel).mono ?_
    rintro r w5 ⟨u3, e3, m3, rfl, hO3, ho3, hb5⟩
    have B5 := B2.below hb5
    have ho3 := owns_base2 ho3 B2.bel.size
    obtain ⟨rfl, rfl, hml⟩ := HGood.out _ _ _ hO3 Hm1.out
    have ho1 := ownsRow_below ho1 hb5
    clear g0 g1 g2 hb5 B2 hO3
    have g0 := B5.c0
    have g1 := B5.c1
    have g2 := B5.c2
    go_wp2_with fail
    refine (HRe.out _ B5.bel).mono ?_
    rintro r w6 ⟨rfl, hb6⟩
    have B6 := B5.below hb6
    have ho3 := ownsRow_below ho3 hb6
    have ho1 := ownsRow_below ho1 hb6
    obtain ⟨a3, c3, rfl, z3⟩ := pcAt_of_owns ho3
    obtain ⟨a1, c1, rfl, z1⟩ := pcAt_of_owns ho1
    have hE1 := Equal3_any a3 a1 c3 c1 m3 m3 w6 z3 z1 (by omega)
    rw [show decide (m3 = m3) = true from decide_eq_true rfl] at hE1
    have hE2 := fun W (_ : Below w6.heap.size w6 W) => eqRowsB_any 28 (fun args w => Try.call28 args w) pfEq1_any none none 0 0 [] W (.inl rfl) (.inl rfl) (by simp) (by simp)
    have HE2 := hideg hE2
    have hbF := B6.bel
    clear g0 g1 g2 hb6 B5 B6 ho3 z3 hE2 ho1 z1
    go_wp2_with fail
    refine hE1.mono ?_
    rintro r w7 ⟨rfl, hb7⟩
    have hE3 := HE2.out _ hb7
    have hbF7 := ptg hbF hb7
    clear hE1 hb7 hbF
    go_wp2_with fail
    refine hE3.mono ?_
    rintro r w8 ⟨rfl, hb8⟩
    have hbF8 := ptg hbF7 hb8
    clear hE3 hb8 hbF7
    go_wp2
    go_ret
    exact ⟨rfl, hbF8⟩

set_option maxRecDepth 100000 in
set_option maxHeartbeats 1000000 in
theorem profileSays_okok (g : Gr) (la ea : Option Addr) (lc ec : Nat) (v q s e : Int) (w : World) (hG : GAt w la ea g) (h0 : gChk g = 0) (bv : inR v 0 ((g.lives.length : Int) - 1) = true) (bq : inR q 0 ((g.lives.length : Int) - 1) = true) (bs : inR s 0 (g.hor - 1) = true) (be : inR e 0 (g.hor - 1) = true) :
    Calls Try.prog 6 #[.agg #[.int .i64 g.hor, .slice la g.lives.length lc, .slice ea g.edges.length ec], .int .i64 v, .int .i64 q, .int .i64 s, .int .i64 e] w fun r w' => r = .returned (.bool true) ∧ Below w.heap.size w w' := by
  have B0 := gbx_start w g la ea lc ec 25
  have h1 := RGraph_any g la ea lc ec _ (hG.below B0.bel)
  have HOf := hideg (fun W (hb : Below w.heap.size w W) => pOf_any g la ea lc ec v q W (hG.below hb))
  have hR := gChk_right h0
  have hl12 := hR.lvs
  have hh := hR.hor
  obtain ⟨i0, hi, hz0, hz1, hz2⟩ := info_parts Try.infoBoolR
  obtain ⟨i1, hi', hy0, hy1, hy2⟩ := info_parts Try.infoBools
  have HGood : Hid (∀ e' m m', OfIs g v q e' m → (MCan m' ∧ ∀ t, tel m' t = profF g v.toNat q.toNat t) → e' = 0 ∧ m = m' ∧ m.length ≤ 200) := by
    intro e' m m' h k
    have hv := (inR_vtx _ _).1 bv
    have hq := (inR_vtx _ _).1 bq
    refine OfIs.ok (V := v.toNat) (Q := q.toNat) ?_ h0 (by omega) (by omega) k
    rw [show ((v.toNat : Nat) : Int) = v by omega, show ((q.toNat : Nat) : Int) = q by omega]
    exact h
  have HPr : Hid (∀ W, Below w.heap.size w W → Calls Try.prog 23 #[.agg #[.int .i64 g.hor, .slice la g.lives.length lc, .slice ea g.edges.length ec], .int .i64 v, .int .i64 q] W fun r w' => ∃ u m, r = .returned u ∧ (MCan m ∧ ∀ t, tel m t = profF g v.toNat q.toNat t) ∧ w'.ownsRow W.heap.size 63 3 u m.length (enc3 m) ∧ Below W.heap.size W w') := by
    intro W hb
    have hv := (inR_vtx _ _).1 bv
    have hq := (inR_vtx _ _).1 bq
    have := rProf_any g la ea lc ec v.toNat q.toNat W (hG.below hb) h0 (by omega) (by omega)
    rw [show ((v.toNat : Nat) : Int) = v by omega, show ((q.toNat : Nat) : Int) = q by omega] at this
    exact this
  have hE : reachE g s e = 0 := by unfold reachE; rw [if_pos h0, if_pos ⟨bs, be⟩]
  have HRe := hideg (fun W (hb : Below w.heap.size w W) => pReach_ok g la ea lc ec s e W (hG.below hb) hE)
  have HAr : Hid (∀ (x : Nat), x < g.lives.length → ∀ W, Below w.heap.size w W → Calls Try.prog 19 #[.agg #[.int .i64 g.hor, .slice la g.lives.length lc, .slice ea g.edges.length ec], .int .i64 (x : Int), .int .i64 s] W fun r w' => ∃ gb cap, r = .returned (.slice (some ⟨gb, 0, none⟩) g.lives.length cap) ∧ Zo w' W.heap.size gb g.lives.length cap (erF g (x : Int) s).1 ∧ Below W.heap.size W w') := by
    intro x hx W hb
    have hp : placeE g (x : Int) s = 0 := by unfold placeE; rw [if_pos h0, if_pos ((inR_iff _ _ _).2 (by omega)), if_pos bs]
    refine (Arr_fn g la ea lc ec (x : Int) s W (hG.below hb) hp).mono ?_
    rintro r w' ⟨gq, cap, rfl, h2, _, h3⟩
    rw [arrF_is hG hp] at h2
    exact ⟨gq, cap, rfl, h2, h3⟩
  clear hE
  rw [h0] at h1
  clear hG h0 hR
  go_enter Try.func6, Try.ntmps6
  go_wp2_with fail
  refine h1.mono ?_
  rintro r w1 ⟨rfl, hb1⟩
  have B1 := B0.below hb1
  have g0 := B1.c0
  have g1 := B1.c1
  have g2 := B1.c2
  clear h1 hb1 B0
  go_wp2_with (go_at_call 15; refine (In_any _ _ _ _).mono ?_; rintro e w1 ⟨rfl, rfl⟩)
  refine (HPr.out _ B1.bel).mono ?_
  rintro r w2 ⟨u1, m1, rfl, hm1, ho1, hb2⟩
  have B2 := B1.below hb2
  have Hm1 := hideg hm1
  have ho1 := owns_base2 ho1 B1.bel.size
  clear g0 g1 g2 hb2 B1 hm1
  have g0 := B2.c0
  have g1 := B2.c1
  have g2 := B2.c2
  go_wp2_with (go_at_call 15; refine (In_any _ _ _ _).mono ?_; rintro e w2 ⟨rfl, rfl⟩)
  have HB := hideg B2
  have HO1 := hideg ho1
  clear g0 g1 g2 B2 ho1
  go_loopw [14, 60] (fun u i wr => ∃ k vals, k ≤ g.lives.length ∧ i = .int .i64 ((k : Nat) : Int) ∧ RwM w2.heap.size k wr u vals (reachR g s e) ∧ Below w2.heap.size w2 wr) (fun _ i _ => g.lives.length - (intOf i).toNat)
  case atStart => exact ⟨0, [], Nat.zero_le _, rfl, ⟨World.ownsRow_nil _ _ _ _, rfl, fun v h => absurd h (by simp)⟩, Below.refl _ _⟩
  case round =>
    obtain ⟨k, vals, hk, rfl, MR, hb⟩ := hrel
    have BR := HB.out.below hb
    have g0 := BR.c0
    have g1 := BR.c1
    have g2 := BR.c2
    have ho1 := ownsRow_below HO1.out hb
    by_cases hkl : k < g.lives.length
    · have hki : (k : Int) < (g.lives.length : Int) := by omega
      have hkw : IntKind.i64.wrap ((k : Int) + 1) = (k : Int) + 1 := wrap_nj _ (by omega) (by omega)
      have hAr := HAr.out k hkl wr BR.bel
      have HMR := hideg MR
      have HBb := hideg hb
      clear MR hb BR ho1
      go_wp2_with fail
      refine hAr.mono ?_
      rintro r w3 ⟨gb, cap, rfl, hz, hb3⟩
      obtain ⟨X, hX⟩ : ∃ X, X = (erF g (k : Int) s).1 := ⟨_, rfl⟩
      rw [← hX] at hz
      have hXl : X.length = g.lives.length := by rw [hX]; exact (erF_len g (k : Int) s).1
      have HRow : Hid (reachR g s e k = X.map fun t => decide (t ≤ e)) := by show _ = _; rw [hX]; rfl
      have HXl := hideg hXl
      have HZ := hideg hz
      have HM3 := hideg (HMR.out.below hb3)
      have HB3 := hideg (HBb.out.trans (hb3.mono HBb.out.size))
      clear hAr hX hXl hz hb3 HMR HBb g0 g1 g2
      go_wp2_with fail
      obtain ⟨wo, hwo⟩ : ∃ x, x = wr := ⟨_, rfl⟩
      subst hwo
      go_loopw [17, 68] (fun u i wr => ∃ j : Nat, j ≤ g.lives.length ∧ i = .int .i64 (j : Int) ∧ wr.ownsRow w3.heap.size 4 1 u j (((X.take j).map fun t => decide (t ≤ e)).map Value.bool) ∧ Below w3.heap.size w3 wr) (fun _ i _ => g.lives.length - (intOf i).toNat)
      case atStart => exact ⟨0, Nat.zero_le _, rfl, World.ownsRow_nil _ _ _ _, Below.refl _ _⟩
      case round =>
        obtain ⟨j, hj, rfl, hown, hb⟩ := hrel
        have hsz := hb.size
        by_cases hjl : j < g.lives.length
        · have hji : (j : Int) < (g.lives.length : Int) := by omega
          have hjw : IntKind.i64.wrap ((j : Int) + 1) = (j : Int) + 1 := wrap_nj _ (by omega) (by omega)
          have xj := Zo.cell (HZ.out.below hb) hjl
          have HSu := hideg (rlist_succ X e j (by rw [HXl.out]; exact hjl))
          obtain ⟨x, hx⟩ : ∃ x, x = X.getD j 0 := ⟨_, rfl⟩
          rw [← hx] at xj HSu
          have HBb := hideg hb
          clear hx hb
          go_wp2_with (at_builtin; refine wpList_append_own _ rfl _ _ 56 rfl w3.heap.size 4 i0 (.bool false) 1 1 Try.underlying56 hi hz0 hz1 hz2 rfl (by decide) _ _ _ rfl (World.ownsRow.alloc (w := wr) hown _) ⟨wr.heap.size, 0, none⟩ 1 1 [.bool (decide (x ≤ e))] rfl rfl (cell_one_new _ _ _) (by intro u hu; simp at hu; subst hu; rfl) (by unfold maxLen; omega) (by omega) (by simp; omega) ?_; intro v' w6 hown6 hgrow _)
          have hb6 := (HBb.out.alloc hsz _).grown hgrow (by simp; omega) (fun q hq => (hown.lt q hq).1)
          exact ⟨⟨j + 1, by omega, by go_num, by rw [HSu.out]; exact hown6, hb6⟩, by simp [intOf]; omega⟩
        · have hje : j = g.lives.length := by omega
          have hjn : ¬ ((j : Int) < (g.lives.length : Int)) := by omega
          have hown2 : wr.ownsRow w2.heap.size 4 1 u17 (reachR g s e k).length ((reachR g s e k).map Value.bool) := by
            rw [HRow.out, List.length_map, HXl.out]
            rw [hje, List.take_of_length_le (by rw [HXl.out]; exact Nat.le_refl _)] at hown
            exact owns_base2 hown HB3.out.size
          obtain ⟨ai, ci, hu17, _⟩ := bsAt_of_owns hown2
          subst hu17
          have M4 := HM3.out.below hb
          have hb4 := HB3.out.trans (hb.mono HB3.out.size)
          have hs4 := hb4.size
          have HM4 := hideg M4
          have HB4 := hideg hb4
          have HOwn := hideg hown2
          have hvl := M4.len
          have ho4 := M4.own
          clear hown hje hb M4 hb4 hown2 HM3 HB3 HZ
          go_wp2_with (at_builtin; refine wpList_append_own _ rfl _ _ 54 rfl w2.heap.size 56 i1 (.slice none 0 0) 1 24 Try.underlying54 hi' hy0 hy1 hy2 rfl (by decide) _ _ _ rfl (World.ownsRow.alloc (w := wr) ho4 _) ⟨wr.heap.size, 0, none⟩ 1 1 [.slice ai (reachR g s e k).length ci] rfl rfl (cell_one_new _ _ _) (by intro u hu; simp at hu; subst hu; rfl) (by unfold maxLen; omega) (by omega) (by simp; omega) ?_; intro v' w6 hown6 hgrow _)
          have hb6 := (HB4.out.alloc hs4 _).grown hgrow (by simp; omega) (fun q hq => (ho4.lt q hq).1)
          exact ⟨⟨k + 1, vals ++ [.slice ai (reachR g s e k).length ci], by omega, by go_num, HM4.out.snoc HOwn.out _ hgrow hown6, hb6⟩, by simp [intOf]; omega⟩
    · have hke : k = g.lives.length := by omega
      have hkn : ¬ ((k : Int) < (g.lives.length : Int)) := by omega
      rw [hke] at MR
      have MR := MR
      clear hke hb
      go_wp2_with (go_at_call 15; refine (In_any _ _ _ _).mono ?_; rintro e wr ⟨rfl, rfl⟩)
      refine (HOf.out _ BR.bel).mono ?_
      rintro r w5 ⟨u3, e3, m3, rfl, hO3, ho3, hb5⟩
      have B5 := BR.below hb5
      have ho3 := owns_base2 ho3 BR.bel.size
      obtain ⟨rfl, rfl, hml⟩ := HGood.out _ _ _ hO3 Hm1.out
      have ho1 := ownsRow_below ho1 hb5
      have MR := MR.below hb5
      clear g0 g1 g2 hb5 BR hO3
      have g0 := B5.c0
      have g1 := B5.c1
      have g2 := B5.c2
      go_wp2_with fail
      refine (HRe.out _ B5.bel).mono ?_
      rintro r w6 ⟨go, bl, rfl, hbl, hRM, hb6⟩
      have B6 := B5.below hb6
      have ho3 := ownsRow_below ho3 hb6
      have ho1 := ownsRow_below ho1 hb6
      have MR := MR.below hb6
      obtain ⟨a3, c3, rfl, z3⟩ := pcAt_of_owns ho3
      obtain ⟨a1, c1, rfl, z1⟩ := pcAt_of_owns ho1
      have hE1 := Equal3_any a3 a1 c3 c1 m3 m3 w6 z3 z1 (by omega)
      rw [show decide (m3 = m3) = true from decide_eq_true rfl] at hE1
      have hR1 := rm_rows hRM hbl
      obtain ⟨ra, rc, rfl, hR2⟩ := MR.rows
      have hE2 := fun W (hb : Below w6.heap.size w6 W) => eqRowsB_any 28 (fun args w => Try.call28 args w) pfEq1_any (some ⟨go, 0, none⟩) ra g.lives.length rc (rowsF g s e) W (hR1.below hb) (hR2.below hb) (by rw [rowsF_len]; omega) (fun r hr => by rw [rowsF_row g s e r hr]; omega)
      rw [rowsF_len] at hE2
      have HE2 := hideg hE2
      have hbF := B6.bel
      clear g0 g1 g2 hb6 B5 B6 ho3 z3 hE2 ho1 z1 MR hR1 hR2 hRM hbl
      go_wp2_with fail
      refine hE1.mono ?_
      rintro r w7 ⟨rfl, hb7⟩
      have hE3 := HE2.out _ hb7
      have hbF7 := ptg hbF hb7
      clear hE1 hb7 hbF
      go_wp2_with fail
      refine hE3.mono ?_
      rintro r w8 ⟨rfl, hb8⟩
      have hbF8 := ptg hbF7 hb8
      clear hE3 hb8 hbF7
      go_wp2
      go_ret
      exact ⟨rfl, hbF8⟩

theorem profileSays_walk (g : Gr) (la ea : Option Addr) (lc ec : Nat) (v q s e : Int) (w : World) (hG : GAt w la ea g) :
    Calls Try.prog 6 #[.agg #[.int .i64 g.hor, .slice la g.lives.length lc, .slice ea g.edges.length ec], .int .i64 v, .int .i64 q, .int .i64 s, .int .i64 e] w fun r w' => r = .returned (.bool true) ∧ Below w.heap.size w w' := by
  by_cases h0 : gChk g = 0
  case neg => exact profileSays_wrong g la ea lc ec v q s e w hG h0
  by_cases hP : inR v 0 ((g.lives.length : Int) - 1) = true ∧ inR q 0 ((g.lives.length : Int) - 1) = true
  · by_cases hQ : inR s 0 (g.hor - 1) = true ∧ inR e 0 (g.hor - 1) = true
    · exact profileSays_okok g la ea lc ec v q s e w hG h0 hP.1 hP.2 hQ.1 hQ.2
    · exact profileSays_okbad g la ea lc ec v q s e w hG h0 hP.1 hP.2 (by rw [← Bool.not_eq_true, ← Bool.not_eq_true]; exact Decidable.not_and_iff_or_not.1 hQ)
  · have hP' : inR v 0 ((g.lives.length : Int) - 1) = false ∨ inR q 0 ((g.lives.length : Int) - 1) = false := by rw [← Bool.not_eq_true, ← Bool.not_eq_true]; exact Decidable.not_and_iff_or_not.1 hP
    by_cases hQ : inR s 0 (g.hor - 1) = true ∧ inR e 0 (g.hor - 1) = true
    · exact profileSays_badok g la ea lc ec v q s e w hG h0 hP' hQ.1 hQ.2
    · exact profileSays_badbad g la ea lc ec v q s e w hG h0 hP' (by rw [← Bool.not_eq_true, ← Bool.not_eq_true]; exact Decidable.not_and_iff_or_not.1 hQ)

end Go.Proofs.Ytanbbkoleekmjac
