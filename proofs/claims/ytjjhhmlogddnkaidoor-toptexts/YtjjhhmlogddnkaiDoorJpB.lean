/-
  What next of the program's journeys answers.
-/
import Derived.Test.YtjjhhmlogddnkaiDoorJpA
namespace Go.Proofs.YtjjhhmlogddnkaiDoor
open Go.RowKit

theorem wrap_nj (n : Int) (h0 : -9223372036854775808 ≤ n) (h1 : n < 9223372036854775808) : IntKind.i64.wrap n = n := by
  simp only [IntKind.wrap, IntKind.bits, IntKind.signed]
  simp
  omega
theorem set3 {w W : World} (h : Below w.heap.size w W) {b : Nat} (hb : w.heap.size ≤ b) (x y z : Value) : Below w.heap.size w (((W.setCell ⟨b, 0, none⟩ x).setCell ⟨b, 1, none⟩ y).setCell ⟨b, 2, none⟩ z) :=
  ((h.setCell (p := ⟨b, 0, none⟩) hb _).setCell (p := ⟨b, 1, none⟩) hb _).setCell (p := ⟨b, 2, none⟩) hb _
/-- what next hands back -/
def nextV (q : Int × Int × Int) (b : Bool) : Value := .tuple #[.agg #[.int .i64 q.1, .int .i64 q.2.1, .int .i64 q.2.2], .bool b]

theorem new_cell {W : World} {cs : Array Value} {T : TypeId} {b j : Nat} {x : Value} (hb : b = W.heap.size) (hx : cs[j]? = some x) : (W.alloc (.cells cs T)).cell? ⟨b, j, none⟩ = some x := by subst hb; simp [hx]
theorem new_frozen {W : World} {cs : Array Value} {T : TypeId} {b j : Nat} (hb : b = W.heap.size) : (W.alloc (.cells cs T)).frozen? ⟨b, j, none⟩ = false := by subst hb; simp
/-- the boxes of a call of next -/
structure NB (w W : World) (N : Nat) (g : Gr) (la ea : Option Addr) (lc ec : Nat) (v t c E d A B : Int) : Prop where
  g0 : W.cell? ⟨N, 0, none⟩ = some (.int .i64 g.hor)
  g1 : W.cell? ⟨N, 1, none⟩ = some (.slice la g.lives.length lc)
  g2 : W.cell? ⟨N, 2, none⟩ = some (.slice ea g.edges.length ec)
  s0 : W.cell? ⟨N + 1, 0, none⟩ = some (.int .i64 v)
  s1 : W.cell? ⟨N + 1, 1, none⟩ = some (.int .i64 t)
  s2 : W.cell? ⟨N + 1, 2, none⟩ = some (.int .i64 c)
  h0 : W.cell? ⟨N + 1 + 1, 0, none⟩ = some (.int .i64 E)
  h1 : W.cell? ⟨N + 1 + 1, 1, none⟩ = some (.int .i64 d)
  r0 : W.cell? ⟨N + 1 + 1 + 1, 0, none⟩ = some (.int .i64 0)
  r1 : W.cell? ⟨N + 1 + 1 + 1, 1, none⟩ = some (.int .i64 0)
  r2 : W.cell? ⟨N + 1 + 1 + 1, 2, none⟩ = some (.int .i64 0)
  fz : ∀ j, W.frozen? ⟨N + 1 + 1 + 1, j, none⟩ = false
  e0 : W.cell? ⟨N + 1 + 1 + 1 + 1, 0, none⟩ = some (.int .i64 A)
  e1 : W.cell? ⟨N + 1 + 1 + 1 + 1, 1, none⟩ = some (.int .i64 B)
  bel : Below w.heap.size w W
  lt : N + 1 + 1 + 1 + 1 < W.heap.size
theorem NB.below {w W W' : World} {N : Nat} {g : Gr} {la ea : Option Addr} {lc ec : Nat} {v t c E d A B : Int} (h : NB w W N g la ea lc ec v t c E d A B) (hb : Below W.heap.size W W') : NB w W' N g la ea lc ec v t c E d A B := by
  have hl := h.lt
  have hs := hb.size
  have q : ∀ b j x, b < W.heap.size → W.cell? ⟨b, j, none⟩ = some x → W'.cell? ⟨b, j, none⟩ = some x := fun b j x hlt hx => (hb.cell (p := ⟨b, j, none⟩) hlt).trans hx
  exact ⟨q _ _ _ (by omega) h.g0, q _ _ _ (by omega) h.g1, q _ _ _ (by omega) h.g2, q _ _ _ (by omega) h.s0, q _ _ _ (by omega) h.s1, q _ _ _ (by omega) h.s2, q _ _ _ (by omega) h.h0, q _ _ _ (by omega) h.h1, q _ _ _ (by omega) h.r0, q _ _ _ (by omega) h.r1, q _ _ _ (by omega) h.r2, fun j => (hb.frozen (p := ⟨N + 1 + 1 + 1, j, none⟩) (by simp only; omega)).trans (h.fz j), q _ _ _ (by omega) h.e0, q _ _ _ (by omega) h.e1, ptg h.bel hb, by omega⟩
theorem nb_start (w : World) (g : Gr) (la ea lo : Option Addr) (lc ec n lcap : Nat) (v t c E d A B : Int) (T1 T2 T3 T4 : TypeId) :
    NB w (((((w.alloc (.cells #[.int .i64 g.hor, .slice la g.lives.length lc, .slice ea g.edges.length ec] T1)).alloc (.cells #[.int .i64 v, .int .i64 t, .int .i64 c] T2)).alloc (.cells #[.int .i64 E, .int .i64 d] T3)).alloc (.cells #[.int .i64 0, .int .i64 0, .int .i64 0] T2)).alloc (.cells #[.int .i64 A, .int .i64 B, .slice lo n lcap] T4)) w.heap.size g la ea lc ec v t c E d A B :=
  ⟨by rw [(gal _ _).cell (by simp <;> omega)]; rw [(gal _ _).cell (by simp <;> omega)]; rw [(gal _ _).cell (by simp <;> omega)]; rw [(gal _ _).cell (by simp <;> omega)]; exact new_cell (by simp) rfl, by rw [(gal _ _).cell (by simp <;> omega)]; rw [(gal _ _).cell (by simp <;> omega)]; rw [(gal _ _).cell (by simp <;> omega)]; rw [(gal _ _).cell (by simp <;> omega)]; exact new_cell (by simp) rfl, by rw [(gal _ _).cell (by simp <;> omega)]; rw [(gal _ _).cell (by simp <;> omega)]; rw [(gal _ _).cell (by simp <;> omega)]; rw [(gal _ _).cell (by simp <;> omega)]; exact new_cell (by simp) rfl, by rw [(gal _ _).cell (by simp <;> omega)]; rw [(gal _ _).cell (by simp <;> omega)]; rw [(gal _ _).cell (by simp <;> omega)]; exact new_cell (by simp) rfl, by rw [(gal _ _).cell (by simp <;> omega)]; rw [(gal _ _).cell (by simp <;> omega)]; rw [(gal _ _).cell (by simp <;> omega)]; exact new_cell (by simp) rfl, by rw [(gal _ _).cell (by simp <;> omega)]; rw [(gal _ _).cell (by simp <;> omega)]; rw [(gal _ _).cell (by simp <;> omega)]; exact new_cell (by simp) rfl, by rw [(gal _ _).cell (by simp <;> omega)]; rw [(gal _ _).cell (by simp <;> omega)]; exact new_cell (by simp) rfl, by rw [(gal _ _).cell (by simp <;> omega)]; rw [(gal _ _).cell (by simp <;> omega)]; exact new_cell (by simp) rfl, by rw [(gal _ _).cell (by simp <;> omega)]; exact new_cell (by simp) rfl, by rw [(gal _ _).cell (by simp <;> omega)]; exact new_cell (by simp) rfl, by rw [(gal _ _).cell (by simp <;> omega)]; exact new_cell (by simp) rfl, fun j => by rw [(gal _ _).frozen (by simp <;> omega)]; exact new_frozen (by simp), by exact new_cell (by simp) rfl, by exact new_cell (by simp) rfl, ptg (ptg (ptg (ptg (gal _ _) (gal _ _)) (gal _ _)) (gal _ _)) (gal _ _), by simp⟩

set_option maxRecDepth 100000 in
set_option maxHeartbeats 8000000 in
theorem next_any (g : Gr) (la ea : Option Addr) (lc ec : Nat) (s : Int × Int × Int) (h : Hp) (R : Right g) (hv0 : 0 ≤ s.1) (hv1 : s.1 < g.lives.length) (hc0 : 0 ≤ s.2.2) (hc1 : s.2.2 ≤ 1000000) :
    ∃ q : Int × Int × Int, (∀ s', nextF g s h = some s' → q = s') ∧ ∀ w : World, GAt w la ea g →
      Calls Tryd.prog 44 #[.agg #[.int .i64 g.hor, .slice la g.lives.length lc, .slice ea g.edges.length ec], .agg #[.int .i64 s.1, .int .i64 s.2.1, .int .i64 s.2.2], .agg #[.int .i64 h.1, .int .i64 h.2]] w fun r w' => r = .returned (nextV q (nextF g s h).isSome) ∧ Below w.heap.size w w' := by
  have HB : Hid (∀ (w : World) o1 o2 o3 o4, Below w.heap.size w ((((w.alloc o1).alloc o2).alloc o3).alloc o4)) := fun w o1 o2 o3 o4 => ptg (ptg (ptg (gal w o1) (gal _ o2)) (gal _ o3)) (gal _ o4)
  by_cases k0 : 0 ≤ h.1 ∧ h.1 < g.edges.length
  case neg =>
    have HN := hideg (nextF_out (s := s) k0)
    refine ⟨(0, 0, 0), fun s' e => (by rw [HN.out] at e; cases e), fun w hG => ?_⟩
    rw [HN.out]
    have hor : h.1 < 0 ∨ (¬ h.1 < 0 ∧ (g.edges.length : Int) ≤ h.1) := by omega
    clear k0 hG R
    rcases hor with k1 | ⟨k1, k2⟩
    all_goals
      go_enter Tryd.func44, Tryd.ntmps44
      go_wp2
      refine bodyPost_ret (v := nextV (0, 0, 0) false) (by simp [results, Tryd.results44, go_sem, nextV]) rfl ⟨rfl, ?_⟩
      exact HB.out _ _ _ _ _
  obtain ⟨E, eE⟩ : ∃ E : Nat, h.1 = (E : Int) := ⟨h.1.toNat, by omega⟩
  have hE : E < g.edges.length := by omega
  have hk0 : ¬ h.1 < 0 := by omega
  have hk1 : ¬ (g.edges.length : Int) ≤ h.1 := by omega
  have hem : g.edges[E] ∈ g.edges := List.getElem_mem hE
  obtain ⟨hA, hBe, hln⟩ := R.ends _ hem
  have hed := R.eds
  have hlv := R.lvs
  have hhor := R.hor
  have HNo := hideg (fun k => nextF_no (g := g) (s := s) eE hE k)
  have HLeg := hideg (fun l k1 k2 k3 k4 k5 => nextF_leg R (s := s) (h := h) (l := l) eE hE k1 k2 k3 k4 k5)
  have HFit : Hid (∀ l, lgFind h.2 g.edges[E].2.2 = some l → (0 ≤ h.2 ∧ h.2 < 100) ∧ (0 ≤ l.2.2.1 ∧ l.2.2.1 ≤ 50) ∧ 0 ≤ l.2.2.2 ∧ l.2.2.2 ≤ 1000) := by
    intro l hl
    obtain ⟨h1, h2, h3⟩ := lgFind_mem hl
    have := (fitB_iff _ _).1 (R.legs _ hem l h1)
    omega
  have HEd : Hid (∀ w, GAt w la ea g → ∃ b off lo lcap, ea = some ⟨b, off, none⟩ ∧ b < w.heap.size ∧ w.cell? ⟨b, off + E * 3, none⟩ = some (.int .i64 g.edges[E].1) ∧ w.cell? ⟨b, off + E * 3 + 1, none⟩ = some (.int .i64 g.edges[E].2.1) ∧ w.cell? ⟨b, off + E * 3 + 2, none⟩ = some (.slice lo g.edges[E].2.2.length lcap) ∧ LgAt w lo g.edges[E].2.2) := by
    intro w hG
    rcases hG.ed with h0 | ⟨b, off, rfl, hbr, hc⟩
    · rw [h0] at hE; simp at hE
    obtain ⟨c0, c1, lo, lcap, c2, hL, _, _⟩ := hc E hE
    exact ⟨b, off, lo, lcap, rfl, hbr, c0, c1, c2, hL⟩
  have hEi : (E : Int) < (g.edges.length : Int) := by omega
  have hE0 : (0 : Int) ≤ (E : Int) := by omega
  generalize hed' : g.edges[E] = ed at *
  clear hed' hem
  obtain ⟨A, B, legs⟩ := ed
  simp only at hA hBe hln HNo HLeg HFit HEd
  rw [eE] at hk0 hk1
  obtain ⟨h1, ht⟩ := h
  simp only at eE
  subst eE
  obtain ⟨v, t0, c0⟩ := s
  simp only at hv0 hv1 hc0 hc1 HNo HLeg HFit HEd ⊢
  clear k0
  cases hf : lgFind ht legs with
  | none =>
    have HN := hideg (HNo.out (.inl hf))
    refine ⟨(0, 0, 0), fun s' e => (by rw [HN.out] at e; cases e), fun w hG => ?_⟩
    rw [HN.out]
    have hB4 := HB.out w (.cells #[.int .i64 g.hor, .slice la g.lives.length lc, .slice ea g.edges.length ec] 25) (.cells #[.int .i64 v, .int .i64 t0, .int .i64 c0] 105) (.cells #[.int .i64 (E : Int), .int .i64 ht] 43) (.cells #[.int .i64 0, .int .i64 0, .int .i64 0] 105)
    obtain ⟨b, off, lo, lcap, rfl, hbr, c0', c1', c2', hL⟩ := HEd.out _ (hG.below hB4)
    have hLg := fun W (hb : Below _ _ W) => legAt_any A B lo lcap legs ht W (hL.below hb) (by omega)
    simp only [hf] at hLg
    unfold legV at hLg
    simp only [Option.getD_none, Option.isSome_none] at hLg
    clear hf hG R HNo HLeg HFit HEd
    go_enter Tryd.func44, Tryd.ntmps44
    go_wp2_with fail
    refine (hLg _ (gal _ _)).mono ?_
    rintro r w1 ⟨rfl, hb1⟩
    have N2 := ((nb_start w g la (some ⟨b, off, none⟩) lo lc ec legs.length lcap v t0 c0 E ht A B 25 105 43 54).below hb1).below (gal w1 (.cells #[.int .i64 0, .int .i64 0, .int .i64 0, .int .i64 0] 56))
    have r0 := N2.r0
    have r1 := N2.r1
    have r2 := N2.r2
    have fz := N2.fz
    have lt := N2.lt
    have hbF := N2.bel
    clear hLg hb1 c0' c1' c2' hL hB4 N2
    go_wp2
    go_quiet (fail)
    go_wp2
    refine bodyPost_ret (v := nextV (0, 0, 0) false) (by simp [results, Tryd.results44, go_sem, nextV, r0, r1, r2]) rfl ⟨rfl, ?_⟩
    exact set3 (below_drewN hbF _) (by omega) _ _ _
  | some l =>
    obtain ⟨⟨hd0, hd1⟩, ⟨hl0, hl1⟩, hl2, hl3⟩ := HFit.out l hf
    obtain ⟨V, rfl⟩ : ∃ V : Nat, v = (V : Int) := ⟨v.toNat, by omega⟩
    obtain ⟨Bn, rfl⟩ : ∃ V : Nat, B = (V : Int) := ⟨B.toNat, by omega⟩
    have hV : V < g.lives.length := by omega
    have hBn : Bn < g.lives.length := by omega
    have HLv : Hid (∀ (k : Nat) (hk : k < g.lives.length) w, GAt w la ea g → ∃ b off, la = some ⟨b, off, none⟩ ∧ b < w.heap.size ∧ w.cell? ⟨b, off + k * 2, none⟩ = some (.int .i64 g.lives[k].1) ∧ w.cell? ⟨b, off + k * 2 + 1, none⟩ = some (.int .i64 g.lives[k].2)) := by
      intro k hk w hG
      rcases hG.lv with h0 | ⟨b, off, rfl, hbr, hc⟩
      · rw [h0] at hk; simp at hk
      exact ⟨b, off, rfl, hbr, IvAt.get hk hc⟩
    have hAV := fun x => aliveB_at x g.lives V hV
    have hAB := fun x => aliveB_at x g.lives Bn hBn
    have HLV := hideg (HLv.out V hV)
    have HLB := hideg (HLv.out Bn hBn)
    generalize g.lives[V] = p1 at *
    generalize g.lives[Bn] = p2 at *
    obtain ⟨a1, b1⟩ := p1
    obtain ⟨a2, b2⟩ := p2
    simp only at hAV hAB HLV HLB
    have hVi : (V : Int) < (g.lives.length : Int) := by omega
    have hV0 : (0 : Int) ≤ (V : Int) := by omega
    have hBi : (Bn : Int) < (g.lives.length : Int) := by omega
    have hB0 : (0 : Int) ≤ (Bn : Int) := by omega
    by_cases hav : A = (V : Int)
    case neg =>
      have HN := hideg (HNo.out (.inr (.inl hav)))
      have d1 : (A != (V : Int)) = true := by simpa using hav
      refine ⟨(0, 0, 0), fun s' e => (by rw [HN.out] at e; cases e), fun w hG => ?_⟩
      rw [HN.out]
      have hB4 := HB.out w (.cells #[.int .i64 g.hor, .slice la g.lives.length lc, .slice ea g.edges.length ec] 25) (.cells #[.int .i64 (V : Int), .int .i64 t0, .int .i64 c0] 105) (.cells #[.int .i64 (E : Int), .int .i64 ht] 43) (.cells #[.int .i64 0, .int .i64 0, .int .i64 0] 105)
      obtain ⟨b, off, lo, lcap, rfl, hbr, c0', c1', c2', hL⟩ := HEd.out _ (hG.below hB4)
      have hLg := fun W (hb : Below _ _ W) => legAt_any A Bn lo lcap legs ht W (hL.below hb) (by omega)
      simp only [hf] at hLg
      unfold legV at hLg
      simp only [Option.getD_some, Option.isSome_some] at hLg
      clear hf R HNo HLeg HFit HEd
      go_enter Tryd.func44, Tryd.ntmps44
      go_wp2_with fail
      refine (hLg _ (gal _ _)).mono ?_
      rintro r w1 ⟨rfl, hb1⟩
      have N2 := ((nb_start w g la (some ⟨b, off, none⟩) lo lc ec legs.length lcap V t0 c0 E ht A Bn 25 105 43 54).below hb1).below (gal w1 (.cells #[.int .i64 l.1, .int .i64 l.2.1, .int .i64 l.2.2.1, .int .i64 l.2.2.2] 56))
      have lg2 : (w1.alloc (.cells #[.int .i64 l.1, .int .i64 l.2.1, .int .i64 l.2.2.1, .int .i64 l.2.2.2] 56)).cell? ⟨w1.heap.size, 2, none⟩ = some (.int .i64 l.2.2.1) := new_cell rfl rfl
      have lg3 : (w1.alloc (.cells #[.int .i64 l.1, .int .i64 l.2.1, .int .i64 l.2.2.1, .int .i64 l.2.2.2] 56)).cell? ⟨w1.heap.size, 3, none⟩ = some (.int .i64 l.2.2.2) := new_cell rfl rfl
      have ltL : w1.heap.size < (w1.alloc (.cells #[.int .i64 l.1, .int .i64 l.2.1, .int .i64 l.2.2.1, .int .i64 l.2.2.2] 56)).heap.size := by simp
      clear hLg hb1 c0' c1' c2' hL hB4
      have N3 := N2
      have hbF := N3.bel
      have r0 := N3.r0
      have r1 := N3.r1
      have r2 := N3.r2
      have fz := N3.fz
      have lt := N3.lt
      have e0 := N2.e0
      have s0 := N2.s0
      clear N2 N3 HLV HLB HLv
      go_wp2
      go_quiet (fail)
      go_wp2
      refine bodyPost_ret (v := nextV (0, 0, 0) false) (by simp [results, Tryd.results44, go_sem, nextV, r0, r1, r2]) rfl ⟨rfl, ?_⟩
      exact set3 (below_drewN hbF _) (by omega) _ _ _
    subst hav
    cases hW : (decide (t0 ≤ ht) && (hasB a1 b1 t0 && hasB a1 b1 ht)) with
    | false =>
      have HN : Hid (nextF g ((V : Int), t0, c0) ((E : Int), ht) = none) := by
        refine HNo.out (.inr (.inr ?_))
        rw [hAV, hAV]
        by_cases k1 : t0 ≤ ht
        · rw [decide_eq_true k1, Bool.true_and, Bool.and_eq_false_iff] at hW
          exact .inr hW
        · exact .inl k1
      refine ⟨(0, 0, 0), fun s' e => (by rw [HN.out] at e; cases e), fun w hG => ?_⟩
      rw [HN.out]
      have hWt := fun W => jwaits_any a1 b1 t0 ht W
      rw [hW] at hWt
      have hB4 := HB.out w (.cells #[.int .i64 g.hor, .slice la g.lives.length lc, .slice ea g.edges.length ec] 25) (.cells #[.int .i64 (V : Int), .int .i64 t0, .int .i64 c0] 105) (.cells #[.int .i64 (E : Int), .int .i64 ht] 43) (.cells #[.int .i64 0, .int .i64 0, .int .i64 0] 105)
      obtain ⟨b, off, lo, lcap, rfl, hbr, c0', c1', c2', hL⟩ := HEd.out _ (hG.below hB4)
      have hLg := fun W (hb : Below _ _ W) => legAt_any V Bn lo lcap legs ht W (hL.below hb) (by omega)
      simp only [hf] at hLg
      unfold legV at hLg
      simp only [Option.getD_some, Option.isSome_some] at hLg
      clear hf R HNo HLeg HFit HEd
      go_enter Tryd.func44, Tryd.ntmps44
      go_wp2_with fail
      refine (hLg _ (gal _ _)).mono ?_
      rintro r w1 ⟨rfl, hb1⟩
      have N2 := ((nb_start w g la (some ⟨b, off, none⟩) lo lc ec legs.length lcap V t0 c0 E ht V Bn 25 105 43 54).below hb1).below (gal w1 (.cells #[.int .i64 l.1, .int .i64 l.2.1, .int .i64 l.2.2.1, .int .i64 l.2.2.2] 56))
      have lg2 : (w1.alloc (.cells #[.int .i64 l.1, .int .i64 l.2.1, .int .i64 l.2.2.1, .int .i64 l.2.2.2] 56)).cell? ⟨w1.heap.size, 2, none⟩ = some (.int .i64 l.2.2.1) := new_cell rfl rfl
      have lg3 : (w1.alloc (.cells #[.int .i64 l.1, .int .i64 l.2.1, .int .i64 l.2.2.1, .int .i64 l.2.2.2] 56)).cell? ⟨w1.heap.size, 3, none⟩ = some (.int .i64 l.2.2.2) := new_cell rfl rfl
      have ltL : w1.heap.size < (w1.alloc (.cells #[.int .i64 l.1, .int .i64 l.2.1, .int .i64 l.2.2.1, .int .i64 l.2.2.2] 56)).heap.size := by simp
      clear hLg hb1 c0' c1' c2' hL hB4
      go_wp2_with fail
      generalize w1.alloc (.cells #[.int .i64 l.1, .int .i64 l.2.1, .int .i64 l.2.2.1, .int .i64 l.2.2.2] 56) = W0 at *
      obtain ⟨lb, lof, rfl, hlb, lv0, lv1⟩ := HLV.out W0 (hG.below N2.bel)
      have hne : Nonempty (HeldIn W0) := ⟨⟨W0, Below.refl _ _⟩⟩
      have f0 : ∀ s : HeldIn W0, s.w.cell? ⟨w.heap.size, 1, none⟩ = some (.slice (some ⟨lb, lof, none⟩) g.lives.length lc) := fun s => (N2.below s.h).g1
      have f1 : ∀ s : HeldIn W0, s.w.cell? ⟨w.heap.size + 1, 0, none⟩ = some (.int .i64 V) := fun s => (N2.below s.h).s0
      have f2 : ∀ s : HeldIn W0, s.w.cell? ⟨w.heap.size + 1, 1, none⟩ = some (.int .i64 t0) := fun s => (N2.below s.h).s1
      have f3 : ∀ s : HeldIn W0, s.w.cell? ⟨w.heap.size + 1 + 1, 1, none⟩ = some (.int .i64 ht) := fun s => (N2.below s.h).h1
      have f4 : ∀ s : HeldIn W0, s.w.cell? ⟨w.heap.size + 1 + 1 + 1 + 1, 0, none⟩ = some (.int .i64 V) := fun s => (N2.below s.h).e0
      have f5 : ∀ s : HeldIn W0, s.w.cell? ⟨lb, lof + V * 2, none⟩ = some (.int .i64 a1) := fun s => (s.h.cell (p := ⟨lb, lof + V * 2, none⟩) hlb).trans lv0
      have f6 : ∀ s : HeldIn W0, s.w.cell? ⟨lb, lof + V * 2 + 1, none⟩ = some (.int .i64 b1) := fun s => (s.h.cell (p := ⟨lb, lof + V * 2 + 1, none⟩) hlb).trans lv1
      have HN2 := hideg N2
      clear N2 HLV HLB HLv hG lg2 lg3 ltL lv0 lv1
      refine wp_region_held W0 (Below.refl _ _) (by kernel_rfl) (by kernel_rfl) ?_
      repeat (go_big_quiet_step ((go_at_call 54; exact held_of (hWt _))))
      refine wpQuiet_nil ?_
      rintro _ ⟨s, rfl⟩
      have N3 := HN2.out.below s.h
      clear f0 f1 f2 f3 f4 f5 f6 hne
      generalize s.w = w3 at N3 ⊢
      have hbF := N3.bel
      have r0 := N3.r0
      have r1 := N3.r1
      have r2 := N3.r2
      have fz := N3.fz
      have lt := N3.lt
      clear N3 HN2
      go_wp2
      refine bodyPost_ret (v := nextV (0, 0, 0) false) (by simp [results, Tryd.results44, go_sem, nextV, r0, r1, r2]) rfl ⟨rfl, ?_⟩
      exact set3 hbF (by omega) _ _ _
    | true =>
      obtain ⟨hW1, hW2⟩ : t0 ≤ ht ∧ (hasB a1 b1 t0 = true ∧ hasB a1 b1 ht = true) := by
        rw [Bool.and_eq_true, Bool.and_eq_true, decide_eq_true_eq] at hW; exact hW
      have HN := hideg (HLeg.out l hf rfl hW1 (by rw [hAV]; exact hW2.1) (by rw [hAV]; exact hW2.2))
      rw [hAB] at HN
      refine ⟨((Bn : Int), ht + l.2.2.1, c0 + l.2.2.2), fun s' e => (by rw [HN.out] at e; split at e <;> cases e; rfl), fun w hG => ?_⟩
      have HQ : Hid ((nextF g ((V : Int), t0, c0) ((E : Int), ht)).isSome = hasB a2 b2 (ht + l.2.2.1)) := by
        show _ = _
        rw [HN.out]
        cases hasB a2 b2 (ht + l.2.2.1) <;> rfl
      rw [HQ.out]
      have hAl := fun W => jalive_any a2 b2 (ht + l.2.2.1) W
      generalize hasB a2 b2 (ht + l.2.2.1) = bF at *
      have hw1 : IntKind.i64.wrap (ht + l.2.2.1) = ht + l.2.2.1 := wrap_nj _ (by omega) (by omega)
      have hw2 : IntKind.i64.wrap (c0 + l.2.2.2) = c0 + l.2.2.2 := wrap_nj _ (by omega) (by omega)
      clear HN HQ hW1 hW2
      have hWt := fun W => jwaits_any a1 b1 t0 ht W
      rw [hW] at hWt
      have hB4 := HB.out w (.cells #[.int .i64 g.hor, .slice la g.lives.length lc, .slice ea g.edges.length ec] 25) (.cells #[.int .i64 (V : Int), .int .i64 t0, .int .i64 c0] 105) (.cells #[.int .i64 (E : Int), .int .i64 ht] 43) (.cells #[.int .i64 0, .int .i64 0, .int .i64 0] 105)
      obtain ⟨b, off, lo, lcap, rfl, hbr, c0', c1', c2', hL⟩ := HEd.out _ (hG.below hB4)
      have hLg := fun W (hb : Below _ _ W) => legAt_any V Bn lo lcap legs ht W (hL.below hb) (by omega)
      simp only [hf] at hLg
      unfold legV at hLg
      simp only [Option.getD_some, Option.isSome_some] at hLg
      clear hf R HNo HLeg HFit HEd
      go_enter Tryd.func44, Tryd.ntmps44
      go_wp2_with fail
      refine (hLg _ (gal _ _)).mono ?_
      rintro r w1 ⟨rfl, hb1⟩
      have N2 := ((nb_start w g la (some ⟨b, off, none⟩) lo lc ec legs.length lcap V t0 c0 E ht V Bn 25 105 43 54).below hb1).below (gal w1 (.cells #[.int .i64 l.1, .int .i64 l.2.1, .int .i64 l.2.2.1, .int .i64 l.2.2.2] 56))
      have lg2 : (w1.alloc (.cells #[.int .i64 l.1, .int .i64 l.2.1, .int .i64 l.2.2.1, .int .i64 l.2.2.2] 56)).cell? ⟨w1.heap.size, 2, none⟩ = some (.int .i64 l.2.2.1) := new_cell rfl rfl
      have lg3 : (w1.alloc (.cells #[.int .i64 l.1, .int .i64 l.2.1, .int .i64 l.2.2.1, .int .i64 l.2.2.2] 56)).cell? ⟨w1.heap.size, 3, none⟩ = some (.int .i64 l.2.2.2) := new_cell rfl rfl
      have ltL : w1.heap.size < (w1.alloc (.cells #[.int .i64 l.1, .int .i64 l.2.1, .int .i64 l.2.2.1, .int .i64 l.2.2.2] 56)).heap.size := by simp
      clear hLg hb1 c0' c1' c2' hL hB4
      go_wp2_with fail
      generalize w1.alloc (.cells #[.int .i64 l.1, .int .i64 l.2.1, .int .i64 l.2.2.1, .int .i64 l.2.2.2] 56) = W0 at *
      obtain ⟨lb, lof, rfl, hlb, lv0, lv1⟩ := HLV.out W0 (hG.below N2.bel)
      have hne : Nonempty (HeldIn W0) := ⟨⟨W0, Below.refl _ _⟩⟩
      have f0 : ∀ s : HeldIn W0, s.w.cell? ⟨w.heap.size, 1, none⟩ = some (.slice (some ⟨lb, lof, none⟩) g.lives.length lc) := fun s => (N2.below s.h).g1
      have f1 : ∀ s : HeldIn W0, s.w.cell? ⟨w.heap.size + 1, 0, none⟩ = some (.int .i64 V) := fun s => (N2.below s.h).s0
      have f2 : ∀ s : HeldIn W0, s.w.cell? ⟨w.heap.size + 1, 1, none⟩ = some (.int .i64 t0) := fun s => (N2.below s.h).s1
      have f3 : ∀ s : HeldIn W0, s.w.cell? ⟨w.heap.size + 1 + 1, 1, none⟩ = some (.int .i64 ht) := fun s => (N2.below s.h).h1
      have f4 : ∀ s : HeldIn W0, s.w.cell? ⟨w.heap.size + 1 + 1 + 1 + 1, 0, none⟩ = some (.int .i64 V) := fun s => (N2.below s.h).e0
      have f5 : ∀ s : HeldIn W0, s.w.cell? ⟨lb, lof + V * 2, none⟩ = some (.int .i64 a1) := fun s => (s.h.cell (p := ⟨lb, lof + V * 2, none⟩) hlb).trans lv0
      have f6 : ∀ s : HeldIn W0, s.w.cell? ⟨lb, lof + V * 2 + 1, none⟩ = some (.int .i64 b1) := fun s => (s.h.cell (p := ⟨lb, lof + V * 2 + 1, none⟩) hlb).trans lv1
      have HN2 := hideg N2
      have HLg : Hid (∀ W, Below W0.heap.size W0 W → W.cell? ⟨w1.heap.size, 2, none⟩ = some (.int .i64 l.2.2.1) ∧ W.cell? ⟨w1.heap.size, 3, none⟩ = some (.int .i64 l.2.2.2) ∧ w1.heap.size < W.heap.size) := fun W hb => ⟨(hb.cell (p := ⟨w1.heap.size, 2, none⟩) ltL).trans lg2, (hb.cell (p := ⟨w1.heap.size, 3, none⟩) ltL).trans lg3, Nat.lt_of_lt_of_le ltL hb.size⟩
      have HLB0 := hideg (HLB.out W0 (hG.below N2.bel))
      clear N2 HLV HLB HLv hG lg2 lg3 ltL lv0 lv1
      refine wp_region_held W0 (Below.refl _ _) (by kernel_rfl) (by kernel_rfl) ?_
      repeat (go_big_quiet_step ((go_at_call 54; exact held_of (hWt _))))
      refine wpQuiet_nil ?_
      rintro _ ⟨s, rfl⟩
      have N3 := HN2.out.below s.h
      obtain ⟨q2, q3, ltq⟩ := HLg.out _ s.h
      obtain ⟨lb2, lof2, elb, hlb2, lw0, lw1⟩ := HLB0.out
      simp only [Option.some.injEq, Addr.mk.injEq] at elb
      obtain ⟨rfl, rfl, _⟩ := elb
      have x0 := (s.h.cell (p := ⟨lb, lof + Bn * 2, none⟩) hlb2).trans lw0
      have x1 := (s.h.cell (p := ⟨lb, lof + Bn * 2 + 1, none⟩) hlb2).trans lw1
      have hlb3 := Nat.lt_of_lt_of_le hlb2 s.h.size
      clear f0 f1 f2 f3 f4 f5 f6 hne
      generalize s.w = w3 at N3 q2 q3 ltq x0 x1 hlb3 ⊢
      have g1 := N3.g1
      have s2 := N3.s2
      have h1 := N3.h1
      have e1 := N3.e1
      have lt := N3.lt
      clear HN2 HLg HLB0 lw0 lw1 hlb2 hWt
      go_wp2_with fail
      have N4 := N3.below (gal w3 (.cells #[.int .i64 Bn, .int .i64 (ht + l.2.2.1), .int .i64 (c0 + l.2.2.2)] 105))
      have t0' : (w3.alloc (.cells #[.int .i64 (Bn : Int), .int .i64 (ht + l.2.2.1), .int .i64 (c0 + l.2.2.2)] 105)).cell? ⟨w3.heap.size, 0, none⟩ = some (.int .i64 Bn) := new_cell rfl rfl
      have t1' : (w3.alloc (.cells #[.int .i64 (Bn : Int), .int .i64 (ht + l.2.2.1), .int .i64 (c0 + l.2.2.2)] 105)).cell? ⟨w3.heap.size, 1, none⟩ = some (.int .i64 (ht + l.2.2.1)) := new_cell rfl rfl
      have t2' : (w3.alloc (.cells #[.int .i64 (Bn : Int), .int .i64 (ht + l.2.2.1), .int .i64 (c0 + l.2.2.2)] 105)).cell? ⟨w3.heap.size, 2, none⟩ = some (.int .i64 (c0 + l.2.2.2)) := new_cell rfl rfl
      have y0 := ((gal w3 (.cells #[.int .i64 Bn, .int .i64 (ht + l.2.2.1), .int .i64 (c0 + l.2.2.2)] 105)).cell (p := ⟨lb, lof + Bn * 2, none⟩) hlb3).trans x0
      have y1 := ((gal w3 (.cells #[.int .i64 Bn, .int .i64 (ht + l.2.2.1), .int .i64 (c0 + l.2.2.2)] 105)).cell (p := ⟨lb, lof + Bn * 2 + 1, none⟩) hlb3).trans x1
      have hlb4 : lb < (w3.alloc (.cells #[.int .i64 (Bn : Int), .int .i64 (ht + l.2.2.1), .int .i64 (c0 + l.2.2.2)] 105)).heap.size := by simp; omega
      have ltT : w3.heap.size < (w3.alloc (.cells #[.int .i64 (Bn : Int), .int .i64 (ht + l.2.2.1), .int .i64 (c0 + l.2.2.2)] 105)).heap.size := by simp
      generalize w3.alloc (.cells #[.int .i64 (Bn : Int), .int .i64 (ht + l.2.2.1), .int .i64 (c0 + l.2.2.2)] 105) = W5 at *
      have hne5 : Nonempty (HeldIn W5) := ⟨⟨W5, Below.refl _ _⟩⟩
      have f0 : ∀ s : HeldIn W5, s.w.cell? ⟨w.heap.size, 1, none⟩ = some (.slice (some ⟨lb, lof, none⟩) g.lives.length lc) := fun s => (N4.below s.h).g1
      have f1 : ∀ s : HeldIn W5, s.w.cell? ⟨w3.heap.size, 0, none⟩ = some (.int .i64 Bn) := fun s => (s.h.cell (p := ⟨w3.heap.size, 0, none⟩) ltT).trans t0'
      have f2 : ∀ s : HeldIn W5, s.w.cell? ⟨w3.heap.size, 1, none⟩ = some (.int .i64 (ht + l.2.2.1)) := fun s => (s.h.cell (p := ⟨w3.heap.size, 1, none⟩) ltT).trans t1'
      have f3 : ∀ s : HeldIn W5, s.w.cell? ⟨w3.heap.size, 2, none⟩ = some (.int .i64 (c0 + l.2.2.2)) := fun s => (s.h.cell (p := ⟨w3.heap.size, 2, none⟩) ltT).trans t2'
      have f5 : ∀ s : HeldIn W5, s.w.cell? ⟨lb, lof + Bn * 2, none⟩ = some (.int .i64 a2) := fun s => (s.h.cell (p := ⟨lb, lof + Bn * 2, none⟩) hlb4).trans y0
      have f6 : ∀ s : HeldIn W5, s.w.cell? ⟨lb, lof + Bn * 2 + 1, none⟩ = some (.int .i64 b2) := fun s => (s.h.cell (p := ⟨lb, lof + Bn * 2 + 1, none⟩) hlb4).trans y1
      have HN4 := hideg N4
      clear N4 N3 t0' t1' t2' y0 y1 x0 x1 q2 q3 ltq g1 s2 h1 e1 lt
      refine wp_region_held_back2 W5 (Below.refl _ _) (by kernel_rfl) (by simp) (by kernel_rfl) (by kernel_rfl) (by kernel_rfl) (by kernel_rfl) (by kernel_rfl) ?_
      simp only [List.pop_toArray, List.dropLast, List.back!_toArray, List.getLast!]
      repeat (go_big_quiet_step ((go_at_call 33; exact held_of (hAl _))))
      refine wpQuiet_nil ?_
      rintro _ ⟨s, rfl⟩
      refine back_last (fun K hK => ?_)
      have N6 := HN4.out.below s.h
      have z0 := f1 s
      have z1 := f2 s
      have z2 := f3 s
      clear f0 f1 f2 f3 f5 f6 hne5
      generalize s.w = w6 at *
      have hbF := N6.bel
      have r0 := N6.r0
      have r1 := N6.r1
      have r2 := N6.r2
      have fz := N6.fz
      have lt := N6.lt
      clear N6 HN4
      go_simp
      refine hK.out _ _ ?_
      clear hK K
      refine back_last (fun K hK => ?_)
      go_simp
      refine hK.out _ _ ?_
      clear hK K
      go_wp2
      refine bodyPost_ret (v := nextV ((Bn : Int), ht + l.2.2.1, c0 + l.2.2.2) bF) (by simp [results, Tryd.results44, go_sem, nextV, r0, r1, r2]; done) rfl ⟨rfl, ?_⟩
      exact set3 hbF (by omega) _ _ _

end Go.Proofs.YtjjhhmlogddnkaiDoor
