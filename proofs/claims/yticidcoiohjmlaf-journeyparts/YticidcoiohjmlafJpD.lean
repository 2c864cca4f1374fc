/-
  What Out of the program's journeys answers.
-/
import Derived.Test.YticidcoiohjmlafJpB
namespace Go.Proofs.Yticidcoiohjmlaf
open Go.RowKit

theorem Try.infoHopJ : (Try.prog.info? 37).map (fun i => (i.zero, i.size, i.bytes)) = some (some (.agg #[.int .i64 0, .int .i64 0]), 2, 16) := by kernel_rfl
theorem stopHere {p : Prop} (h : Hid p) : p := h
theorem encs_appj (a b : List (Int × Int)) : encs (a ++ b) = encs a ++ encs b := by simp [encs, flat]
/-- what Out answers -/
def outAns (g : Gr) (v t : Int) : List Hp := if placeE g v t = 0 then outsF g v t else []
/-- the hops of the first i edges at a time -/
def outNx (g : Gr) (v t d : Int) : Nat → List Hp
  | 0 => []
  | i + 1 => outNx g v t d i ++ if (nextF g (v, t, 0) ((i : Int), d)).isSome = true then [((i : Int), d)] else []
def outNxTo (g : Gr) (v t : Int) : Nat → List Hp
  | 0 => []
  | k + 1 => outNxTo g v t k ++ outNx g v t (t + k) g.edges.length
theorem outNx_same {g : Gr} {v t d : Int} (ha : aliveB t g.lives v = true) (hd : t ≤ d) : ∀ i, i ≤ g.edges.length → outNx g v t d i = outAt g v d i
  | 0, _ => rfl
  | i + 1, hi => by
    have hi' : i < g.edges.length := by omega
    have hg : g.edges.getD i (0, 0, []) = g.edges[i] := by rw [List.getD_eq_getElem?_getD, List.getElem?_eq_getElem hi']; rfl
    have e : (nextF g (v, t, 0) ((i : Int), d)).isSome = true ↔ ((lands g g.edges[i] d).isSome = true ∧ g.edges[i].1 = v) := by
      rw [nextF_at (h := ((i : Int), d)) rfl hi']
      by_cases h1 : g.edges[i].1 = v
      · rw [if_pos (⟨ha, h1, hd⟩ : aliveB (v, t, (0 : Int)).2.1 g.lives (v, t, (0 : Int)).1 = true ∧ g.edges[i].1 = (v, t, (0 : Int)).1 ∧ (v, t, (0 : Int)).2.1 ≤ ((i : Int), d).2), Option.isSome_map]
        exact ⟨fun h => ⟨h, h1⟩, fun h => h.1⟩
      · rw [if_neg (fun h => h1 h.2.1)]
        exact ⟨fun h => (by cases h), fun h => absurd h.2 h1⟩
    rw [outNx, outAt, outNx_same ha hd i (by omega), hg]
    congr 1
    by_cases h : (nextF g (v, t, 0) ((i : Int), d)).isSome = true
    · rw [if_pos h, if_pos (e.1 h)]
    · rw [if_neg h, if_neg (fun k => h (e.2 k))]
theorem outNx_away {g : Gr} {v t d : Int} (ha : aliveB t g.lives v = false) : ∀ i, outNx g v t d i = []
  | 0 => rfl
  | i + 1 => by rw [outNx, outNx_away ha i, nextF_away ha]; rfl
theorem outNxTo_same {g : Gr} {v t : Int} (ha : aliveB t g.lives v = true) : ∀ k, outNxTo g v t k = outsTo g v t k
  | 0 => rfl
  | k + 1 => by rw [outNxTo, outsTo, outNxTo_same ha k, outNx_same ha (by omega) _ (Nat.le_refl _)]
theorem outNxTo_away {g : Gr} {v t : Int} (ha : aliveB t g.lives v = false) : ∀ k, outNxTo g v t k = []
  | 0 => rfl
  | k + 1 => by rw [outNxTo, outNxTo_away ha k, outNx_away ha]; rfl
theorem outNxTo_all {g : Gr} {v t : Int} : outNxTo g v t (g.hor - t).toNat = outsF g v t := by
  unfold outsF
  cases ha : aliveB t g.lives v with
  | false => rw [outNxTo_away ha]; rfl
  | true => rw [outNxTo_same ha]; rfl
theorem outNx_len (g : Gr) (v t d : Int) (i : Nat) : (outNx g v t d i).length ≤ i := by
  induction i with
  | zero => simp [outNx]
  | succ i ih =>
    rw [outNx, List.length_append]
    split <;> simp <;> omega
theorem outNxTo_len (g : Gr) (v t : Int) (k : Nat) : (outNxTo g v t k).length ≤ k * g.edges.length := by
  induction k with
  | zero => simp [outNxTo]
  | succ k ih =>
    have := outNx_len g v t (t + k) g.edges.length
    rw [outNxTo, List.length_append, Nat.succ_mul]; omega

theorem results_two_j {fn : Func} {t u : Tmp} (h : fn.results = #[.tmp t, .tmp u]) (tmps : Array Value) (P : Program) (w : World) :
    (results fn tmps).run P w = .ok (.tuple #[tmps.getD t undef, tmps.getD u undef]) w := by
  simp [results, h]

set_option maxRecDepth 100000 in
set_option maxHeartbeats 8000000 in
theorem jOut_any (g : Gr) (la ea : Option Addr) (lc ec : Nat) (v t : Int) (w : World) (hG : GAt w la ea g) :
    Calls Try.prog 9 #[.agg #[.int .i64 g.hor, .slice la g.lives.length lc, .slice ea g.edges.length ec], .int .i64 v, .int .i64 t] w fun r w' => ∃ u, r = .returned (.tuple #[u, .int .i64 (placeE g v t)]) ∧ w'.ownsRow w.heap.size 37 2 u (outAns g v t).length (encs (outAns g v t)) ∧ Below w.heap.size w w' := by
  obtain ⟨i0, hi, hz0, hz1, hz2⟩ := info_parts Try.infoHopJ
  have B0 := gbx_start w g la ea lc ec 25
  have h1 := jcheck_any g la ea lc ec v t _ (hG.below B0.bel)
  by_cases e1 : placeE g v t = 0
  case neg =>
    have HP : Hid (outAns g v t = []) := by show _ = _; unfold outAns; rw [if_neg e1]
    have d1 : (placeE g v t != 0) = true := by simpa using e1
    generalize placeE g v t = n at *
    clear e1 hG
    go_enter Try.func9, Try.ntmps9
    go_wp2_with fail
    refine h1.mono ?_
    rintro r w1 ⟨rfl, hb1⟩
    have hbF := (B0.below hb1).bel
    clear h1 hb1 B0
    go_wp2
    (try simp only [Exit.inBlock, Exit.then]); refine bodyPost_ret (results_two_j rfl _ _ _) rfl ?_
    exact ⟨_, rfl, by rw [HP.out]; exact World.ownsRow_nil _ _ _ _, hbF⟩
  have HO : Hid (outAns g v t = outNxTo g v t (g.hor - t).toNat) := by show _ = _; unfold outAns; rw [if_pos e1, outNxTo_all]
  rw [e1] at h1
  obtain ⟨hg0, ⟨hv0, hv1⟩, ht0, ht1⟩ := placeE_zero e1
  have hR := gChk_right hg0
  have hhor := hR.hor
  have hed := hR.eds
  have HRt := hideg hR
  have HG := hideg hG
  rw [e1]
  clear hR hG hg0 e1
  go_enter Try.func9, Try.ntmps9
  go_wp2_with fail
  refine h1.mono ?_
  rintro r w1 ⟨rfl, hb1⟩
  have HB1 := hideg (B0.below hb1)
  clear h1 hb1 B0
  go_wp2_with fail
  go_loopw [9, 10] (fun u d wr => ∃ k : Nat, (k : Int) ≤ g.hor - t ∧ d = .int .i64 (t + k) ∧ wr.ownsRow w1.heap.size 37 2 u (outNxTo g v t k).length (encs (outNxTo g v t k)) ∧ Below w1.heap.size w1 wr) (fun _ d _ => (g.hor - intOf d).toNat)
  case atStart => exact ⟨0, by omega, by simp, World.ownsRow_nil _ _ _ _, Below.refl _ _⟩
  case round =>
    obtain ⟨k, hk, rfl, hown, hb⟩ := hrel
    have BR := HB1.out.below hb
    have g0 := BR.c0
    have g2 := BR.c2
    have hol := outNxTo_len g v t k
    have hk100 : k ≤ 100 := by omega
    have hol' : (outNxTo g v t k).length ≤ 3000 := Nat.le_trans hol (Nat.le_trans (Nat.mul_le_mul hk100 hed) (by omega))
    by_cases hlt : t + (k : Int) < g.hor
    · obtain ⟨out, hout⟩ : ∃ o, o = outNxTo g v t k := ⟨_, rfl⟩
      rw [← hout] at hown hol'
      have HSucc : Hid (outNxTo g v t (k + 1) = out ++ outNx g v t (t + k) g.edges.length) := by show _ = _; rw [hout]; rfl
      clear hout hol
      obtain ⟨wo, hwo⟩ : ∃ x, x = wr := ⟨_, rfl⟩
      have hown0 : wo.ownsRow w1.heap.size 37 2 u9 out.length (encs out) := by rw [hwo]; exact hown
      have hbo : Below w1.heap.size w1 wo := by rw [hwo]; exact hb
      rw [← hwo] at g0 g2 ⊢
      clear hown hb hwo BR
      go_wp2_with fail
      go_loopw [9, 32] (fun u i wr => ∃ j : Nat, j ≤ g.edges.length ∧ i = .int .i64 j ∧ wr.ownsRow w1.heap.size 37 2 u (out ++ outNx g v t (t + k) j).length (encs (out ++ outNx g v t (t + k) j)) ∧ Below w1.heap.size w1 wr) (fun _ i _ => g.edges.length - (intOf i).toNat)
      case atStart => exact ⟨0, Nat.zero_le _, rfl, by simpa [outNx] using hown0, hbo⟩
      case round =>
        clear hown0 hbo g0 g2
        obtain ⟨j, hj, rfl, hown, hb⟩ := hrel
        have BR := HB1.out.below hb
        have g0 := BR.c0
        have g1 := BR.c1
        have g2 := BR.c2
        have hoa := outNx_len g v t (t + k) j
        have hw1 : IntKind.i64.wrap (t + (k : Int) + 1) = t + (k : Int) + 1 := wrap_nj _ (by omega) (by omega)
        by_cases hjl : j < g.edges.length
        · obtain ⟨p, hp, hNx⟩ := next_any g la ea lc ec (v, t, 0) ((j : Int), t + k) HRt.out hv0 hv1 (by simp) (by simp)
          clear hp
          simp only at hNx
          unfold nextV at hNx
          have hNw := fun o => hNx (wr.alloc o) (HG.out.below (ptg BR.bel (gal wr o)))
          have BA := BR.below (gal wr (.cells #[.int .i64 (j : Int), .int .i64 (t + k)] 37))
          have ga0 := BA.c0
          have ga1 := BA.c1
          have ga2 := BA.c2
          clear BA
          have hll : (out ++ outNx g v t (t + k) j).length ≤ 4000 := by rw [List.length_append]; omega
          have HOW : Hid (∀ W, Below wr.heap.size wr W → W.ownsRow w1.heap.size 37 2 _ (out ++ outNx g v t (t + k) j).length (encs (out ++ outNx g v t (t + k) j)) ∧ Below w1.heap.size w1 W) := fun W h => ⟨ownsRow_below hown h, hb.trans (h.mono hb.size)⟩
          have HHp : Hid (∀ T W, Below (wr.alloc (.cells #[.int .i64 j, .int .i64 (t + k)] T)).heap.size (wr.alloc (.cells #[.int .i64 j, .int .i64 (t + k)] T)) W → W.cell? ⟨wr.heap.size, 0, none⟩ = some (.int .i64 j) ∧ W.cell? ⟨wr.heap.size, 1, none⟩ = some (.int .i64 (t + k)) ∧ wr.heap.size < W.heap.size ∧ Below wr.heap.size wr W) := fun T W h => ⟨(h.cell (p := ⟨wr.heap.size, 0, none⟩) (by simp)).trans (new_cell rfl rfl), (h.cell (p := ⟨wr.heap.size, 1, none⟩) (by simp)).trans (new_cell rfl rfl), Nat.lt_of_lt_of_le (by simp) h.size, ptg (gal _ _) h⟩
          have HSt : Hid (outNx g v t (t + k) (j + 1) = outNx g v t (t + k) j ++ if (nextF g (v, t, 0) ((j : Int), t + k)).isSome = true then [((j : Int), t + k)] else []) := rfl
          clear hown hb hNx
          generalize hcur : out ++ outNx g v t (t + k) j = cur at *
          have HCur := hideg hcur
          clear hcur
          cases hs : (nextF g (v, t, 0) ((j : Int), t + k)).isSome with
          | false =>
            rw [hs] at hNw HSt
            have HE : Hid (outNx g v t (t + k) (j + 1) = outNx g v t (t + k) j) := by show _ = _; rw [HSt.out]; simp
            clear hs HSt
            go_wp2_with fail
            refine (hNw _).mono ?_
            rintro r w3 ⟨rfl, hb3⟩
            obtain ⟨y0, y1, y2, hb4⟩ := HHp.out _ w3 hb3
            have HO2 := hideg (fun o => HOW.out (w3.alloc o) (ptg hb4 (gal w3 o)))
            clear hNw hb3 g0 g1 g2 ga0 ga1 ga2 HOW HHp hb4
            go_wp2
            go_roundw
            case rel => exact ⟨j + 1, by omega, by go_num, by rw [HE.out, HCur.out]; exact (HO2.out _).1, (HO2.out _).2⟩
            case measure => simp [intOf]; omega
          | true =>
            rw [hs] at hNw HSt
            have HE : Hid (outNx g v t (t + k) (j + 1) = outNx g v t (t + k) j ++ [((j : Int), t + k)]) := by show _ = _; rw [HSt.out]; simp
            clear hs HSt
            go_wp2_with fail
            refine (hNw _).mono ?_
            rintro r w3 ⟨rfl, hb3⟩
            obtain ⟨y0, y1, y2, hb4⟩ := HHp.out _ w3 hb3
            obtain ⟨o1, o2⟩ := HOW.out (w3.alloc (.cells #[.int .i64 p.1, .int .i64 p.2.1, .int .i64 p.2.2] 45)) (ptg hb4 (gal w3 _))
            have x0 := ((gal w3 (.cells #[.int .i64 p.1, .int .i64 p.2.1, .int .i64 p.2.2] 45)).cell (p := ⟨wr.heap.size, 0, none⟩) y2).trans y0
            have x1 := ((gal w3 (.cells #[.int .i64 p.1, .int .i64 p.2.1, .int .i64 p.2.2] 45)).cell (p := ⟨wr.heap.size, 1, none⟩) y2).trans y1
            have hs3 := o2.size
            rw [World.size_alloc] at hs3
            have HBg : Hid (∀ (o : Obj) (w5 : World), ((w3.alloc (.cells #[.int .i64 p.1, .int .i64 p.2.1, .int .i64 p.2.2] 45)).alloc o).grownBy w5 u9.ownBlock → Below w1.heap.size w1 w5) := fun o w5 hgr => (o2.alloc o2.size o).grown hgr (by have := o2.size; simp at this ⊢; omega) (fun k hk => (o1.lt k hk).1)
            clear hNw hb3 g0 g1 g2 ga0 ga1 ga2 HOW HHp hb4
            go_wp2_with (at_builtin; refine stopHere ?_)
            refine hideg ?_
            refine wpList_append_own _ rfl _ _ 28 rfl w1.heap.size 37 i0 _ 2 16 Try.underlying28 hi hz0 hz1 hz2 rfl (by decide) _ _ _ rfl (World.ownsRow.alloc (w := w3.alloc (.cells #[.int .i64 p.1, .int .i64 p.2.1, .int .i64 p.2.2] 45)) o1 _) ⟨w3.heap.size + 1, 0, none⟩ 1 1 [.int .i64 j, .int .i64 (t + k)] rfl rfl (cells_two_new _ _ _ _ _ (by simp)) (by intro u hu; simp at hu; rcases hu with rfl | rfl <;> rfl) (by unfold maxLen; omega) (by omega) (by simp; omega) ?_
            intro v' w5 hown5 hgrow _
            have hb' := HBg.out _ _ hgrow
            have R : w5.ownsRow w1.heap.size 37 2 v' (out ++ outNx g v t (t + k) (j + 1)).length (encs (out ++ outNx g v t (t + k) (j + 1))) := by
              rw [HE.out, ← List.append_assoc, HCur.out, encs_appj, List.length_append]; exact hown5
            clear hgrow o1 hown5
            go_wp2
            go_roundw
            case rel => exact ⟨j + 1, by omega, by go_num, R, hb'⟩
            case measure => simp [intOf]; omega
        · have hjn : j = g.edges.length := by omega
          subst hjn
          rw [← HSucc.out] at hown
          go_wp2
          go_roundw
          case rel => exact ⟨k + 1, by omega, by go_num, hown, hb⟩
          case measure => simp [intOf]; omega
    · have hke : k = (g.hor - t).toNat := by omega
      rw [hke, ← HO.out] at hown
      have R := owns_base2 hown HB1.out.bel.size
      have hbF := BR.bel
      clear hown hke
      go_wp2
      (try simp only [Exit.inBlock, Exit.then]); refine bodyPost_ret (results_two_j rfl _ _ _) rfl ?_
      exact ⟨_, rfl, R, hbF⟩

end Go.Proofs.Yticidcoiohjmlaf
