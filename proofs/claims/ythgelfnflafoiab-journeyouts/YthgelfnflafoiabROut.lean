/-
  What Outs of the reference answers.
-/
import Derived.Test.YthgelfnflafoiabRJn
namespace Go.Proofs.Ythgelfnflafoiab
open Go.RowKit

theorem Try.infoHop : (Try.prog.info? 52).map (fun i => (i.zero, i.size, i.bytes)) = some (some (.agg #[.int .i64 0, .int .i64 0]), 2, 16) := by kernel_rfl
theorem outAt_no {g : Gr} {v d : Int} {i : Nat} (hi : i < g.edges.length) (h : ¬ ((lands g g.edges[i] d).isSome = true ∧ g.edges[i].1 = v)) : outAt g v d (i + 1) = outAt g v d i := by
  have hg : g.edges.getD i (0, 0, []) = g.edges[i] := by simp [List.getD_eq_getElem?_getD, List.getElem?_eq_getElem hi]
  rw [outAt, hg, if_neg h, List.append_nil]
theorem outAt_yes {g : Gr} {v d : Int} {i : Nat} (hi : i < g.edges.length) (h : (lands g g.edges[i] d).isSome = true ∧ g.edges[i].1 = v) : outAt g v d (i + 1) = outAt g v d i ++ [((i : Int), d)] := by
  have hg : g.edges.getD i (0, 0, []) = g.edges[i] := by simp [List.getD_eq_getElem?_getD, List.getElem?_eq_getElem hi]
  rw [outAt, hg, if_pos h]
theorem encs_app (a b : List (Int × Int)) : encs (a ++ b) = encs a ++ encs b := by simp [encs, flat]

set_option maxRecDepth 100000 in
set_option maxHeartbeats 8000000 in
theorem Outs_any (g : Gr) (la ea : Option Addr) (lc ec : Nat) (v t : Int) (w : World) (hG : GAt w la ea g) (hpl : placeE g v t = 0) :
    Calls Try.prog 21 #[.agg #[.int .i64 g.hor, .slice la g.lives.length lc, .slice ea g.edges.length ec], .int .i64 v, .int .i64 t] w fun r w' => ∃ u, r = .returned u ∧ w'.ownsRow w.heap.size 52 2 u (outsF g v t).length (encs (outsF g v t)) ∧ Below w.heap.size w w' := by
  obtain ⟨i0, hi, hz0, hz1, hz2⟩ := info_parts Try.infoHop
  have B0 := gbox_start w g la ea lc ec 41
  obtain ⟨hg0, ⟨hv0, hv1⟩, ht0, ht1⟩ := placeE_zero hpl
  have hR := gChk_right hg0
  obtain ⟨V, rfl⟩ : ∃ V : Nat, v = (V : Int) := ⟨v.toNat, by omega⟩
  have hhor := hR.hor
  have hed := hR.eds
  have hlv := hR.lvs
  have hAl := Alive_any g.hor la ea lc g.edges.length ec g.lives V t _ ((hG.below B0.bel).lv) (by omega) (by omega)
  have HRt := hideg hR
  have HG := hideg hG
  clear hR hG hpl hg0 hlv
  cases ha : aliveB t g.lives (V : Int) with
  | false =>
    have HO : Hid (outsF g (V : Int) t = []) := by show _ = _; unfold outsF; rw [ha]; rfl
    rw [ha] at hAl
    clear ha
    go_enter Try.func21, Try.ntmps21
    go_wp2_with fail
    refine hAl.mono ?_
    rintro r w1 ⟨rfl, hb1⟩
    have hbF := (B0.below hb1).bel
    clear hAl hb1 B0
    go_wp2
    go_ret
    exact ⟨_, rfl, by rw [HO.out]; exact World.ownsRow_nil _ _ _ _, hbF⟩
  | true =>
    have HO : Hid (outsF g (V : Int) t = outsTo g (V : Int) t (g.hor - t).toNat) := by show _ = _; unfold outsF; rw [if_pos ha]
    rw [ha] at hAl
    clear ha
    go_enter Try.func21, Try.ntmps21
    go_wp2_with fail
    refine hAl.mono ?_
    rintro r w1 ⟨rfl, hb1⟩
    have HB1 := hideg (B0.below hb1)
    clear hAl hb1 B0
    go_wp2_with fail
    go_loopw [7, 8] (fun u d wr => ∃ k : Nat, (k : Int) ≤ g.hor - t ∧ d = .int .i64 (t + k) ∧ wr.ownsRow w1.heap.size 52 2 u (outsTo g (V : Int) t k).length (encs (outsTo g (V : Int) t k)) ∧ Below w1.heap.size w1 wr) (fun _ d _ => (g.hor - intOf d).toNat)
    case atStart => exact ⟨0, by omega, by simp, World.ownsRow_nil _ _ _ _, Below.refl _ _⟩
    case round =>
      obtain ⟨k, hk, rfl, hown, hb⟩ := hrel
      have BR := HB1.out.below hb
      have g0 := BR.c0
      have g2 := BR.c2
      have hol := outsTo_len g (V : Int) t k
      have hk100 : k ≤ 100 := by omega
      have hol' : (outsTo g (V : Int) t k).length ≤ 3000 := Nat.le_trans hol (Nat.le_trans (Nat.mul_le_mul hk100 hed) (by omega))
      by_cases hlt : t + (k : Int) < g.hor
      · obtain ⟨out, hout⟩ : ∃ o, o = outsTo g (V : Int) t k := ⟨_, rfl⟩
        rw [← hout] at hown hol'
        have HOut := hideg hout
        have HSucc : Hid (outsTo g (V : Int) t (k + 1) = out ++ outAt g (V : Int) (t + k) g.edges.length) := by show _ = _; rw [hout]; rfl
        clear hout hol
        obtain ⟨wo, hwo⟩ : ∃ x, x = wr := ⟨_, rfl⟩
        have hown0 : wo.ownsRow w1.heap.size 52 2 u7 out.length (encs out) := by rw [hwo]; exact hown
        have hbo : Below w1.heap.size w1 wo := by rw [hwo]; exact hb
        rw [← hwo] at g0 g2 ⊢
        clear hown hb hwo BR
        go_wp2_with fail
        go_loopw [7, 9] (fun u i wr => ∃ j : Nat, j ≤ g.edges.length ∧ i = .int .i64 j ∧ wr.ownsRow w1.heap.size 52 2 u (out ++ outAt g (V : Int) (t + k) j).length (encs (out ++ outAt g (V : Int) (t + k) j)) ∧ Below w1.heap.size w1 wr) (fun _ i _ => g.edges.length - (intOf i).toNat)
        case atStart => exact ⟨0, Nat.zero_le _, rfl, by simpa [outAt] using hown0, hbo⟩
        case round =>
          clear hown0 hbo g0 g2
          obtain ⟨j, hj, rfl, hown, hb⟩ := hrel
          have BR := HB1.out.below hb
          have g0 := BR.c0
          have g1 := BR.c1
          have g2 := BR.c2
          have hoa := outAt_len g (V : Int) (t + k) j
          have hw1 : IntKind.i64.wrap (t + (k : Int) + 1) = t + (k : Int) + 1 := wrap_nr _ (by omega) (by omega)
          by_cases hjl : j < g.edges.length
          · have hGr := HG.out.below BR.bel
            rcases hGr.ed with h0 | ⟨eb, eo, rfl, hebr, hec⟩
            · rw [h0] at hjl; simp at hjl
            obtain ⟨ee0, _⟩ := hec j hjl
            have hLd := Lands_any g la (some ⟨eb, eo, none⟩) lc ec j (t + k) wr hGr HRt.out hjl
            have hji : (j : Int) < (g.edges.length : Int) := by omega
            have HOW : Hid (∀ W, Below wr.heap.size wr W → W.ownsRow w1.heap.size 52 2 _ (out ++ outAt g (V : Int) (t + k) j).length (encs (out ++ outAt g (V : Int) (t + k) j)) ∧ Below w1.heap.size w1 W) := fun W h => ⟨ownsRow_below hown h, hb.trans (h.mono hb.size)⟩
            have HN := hideg (fun h => outAt_no (g := g) (v := (V : Int)) (d := t + k) hjl h)
            have HY := hideg (fun h => outAt_yes (g := g) (v := (V : Int)) (d := t + k) hjl h)
            have HX := hideg (fun W (h : Below wr.heap.size wr W) => (⟨(BR.below h).c2, (h.cell (p := ⟨eb, eo + j * 3, none⟩) hebr).trans ee0⟩ : W.cell? ⟨w.heap.size, 2, none⟩ = some (.slice (some ⟨eb, eo, none⟩) g.edges.length ec) ∧ W.cell? ⟨eb, eo + j * 3, none⟩ = some (.int .i64 g.edges[j].1)))
            have hll : (out ++ outAt g (V : Int) (t + k) j).length ≤ 4000 := by rw [List.length_append]; omega
            unfold landsV at hLd
            clear hec hGr hown hb ee0
            generalize hcur : out ++ outAt g (V : Int) (t + k) j = cur at *
            have HCur := hideg hcur
            clear hcur
            cases hs : lands g g.edges[j] (t + k) with
            | none =>
              have HE := hideg (HN.out (fun h => by rw [hs] at h; simp at h))
              rw [hs] at hLd
              simp only [Option.getD_none, Option.isSome_none] at hLd
              clear hs HX
              go_wp2_with fail
              refine hLd.mono ?_
              rintro r w3 ⟨rfl, hb3⟩
              obtain ⟨o1, o2⟩ := HOW.out w3 hb3
              clear hLd hb3 g0 g1 g2 HOW
              go_wp2
              go_roundw
              case rel => exact ⟨j + 1, by omega, by go_num, by rw [HE.out, HCur.out]; exact o1, o2⟩
              case measure => simp [intOf]; omega
            | some q =>
              rw [hs] at hLd
              simp only [Option.getD_some, Option.isSome_some] at hLd
              by_cases hav : g.edges[j].1 = (V : Int)
              · have HE := hideg (HY.out ⟨by rw [hs]; rfl, hav⟩)
                have d1 : (g.edges[j].1 == (V : Int)) = true := by simpa using hav
                clear hs hav
                go_wp2_with fail
                refine hLd.mono ?_
                rintro r w3 ⟨rfl, hb3⟩
                obtain ⟨o1, o2⟩ := HOW.out w3 hb3
                obtain ⟨y2, y0⟩ := HX.out w3 hb3
                have hs3 := o2.size
                have HBg : Hid (∀ (o : Obj) (w5 : World), (w3.alloc o).grownBy w5 u7.ownBlock → Below w1.heap.size w1 w5) := fun o w5 hgr => (o2.alloc o2.size o).grown hgr (by have := o2.size; simp; omega) (fun k hk => (o1.lt k hk).1)
                clear hLd hb3 g0 g1 g2 HOW HX
                go_wp2_with (at_builtin; refine wpList_append_own _ rfl _ _ 42 rfl w1.heap.size 52 i0 _ 2 16 Try.underlying42 hi hz0 hz1 hz2 rfl (by decide) _ _ _ rfl (World.ownsRow.alloc (w := w3) o1 _) ⟨w3.heap.size, 0, none⟩ 1 1 [.int .i64 j, .int .i64 (t + k)] rfl rfl (cells_two_new _ _ _ _ _ rfl) (by intro u hu; simp at hu; rcases hu with rfl | rfl <;> rfl) (by unfold maxLen; omega) (by omega) (by simp; omega) ?_; intro v' w5 hown5 hgrow _)
                have hb' := HBg.out _ _ hgrow
                have R : w5.ownsRow w1.heap.size 52 2 v' (out ++ outAt g (V : Int) (t + k) (j + 1)).length (encs (out ++ outAt g (V : Int) (t + k) (j + 1))) := by
                  rw [HE.out, ← List.append_assoc, HCur.out, encs_app, List.length_append]; exact hown5
                clear hgrow o1 hown5
                go_wp2
                go_roundw
                case rel => exact ⟨j + 1, by omega, by go_num, R, hb'⟩
                case measure => simp [intOf]; omega
              · have HE := hideg (HN.out (fun h => hav h.2))
                have d1 : (g.edges[j].1 == (V : Int)) = false := by simpa using hav
                clear hs hav
                go_wp2_with fail
                refine hLd.mono ?_
                rintro r w3 ⟨rfl, hb3⟩
                obtain ⟨o1, o2⟩ := HOW.out w3 hb3
                obtain ⟨y2, y0⟩ := HX.out w3 hb3
                clear hLd hb3 g0 g1 g2 HOW HX
                go_wp2
                go_roundw
                case rel => exact ⟨j + 1, by omega, by go_num, by rw [HE.out, HCur.out]; exact o1, o2⟩
                case measure => simp [intOf]; omega
          · have hjn : j = g.edges.length := by omega
            subst hjn
            rw [← HSucc.out] at hown
            go_wp2
            go_roundw
            case rel => exact ⟨k + 1, by omega, by go_num, hown, hb⟩
            case measure => simp [intOf]; omega
      · have hke : k = (g.hor - t).toNat := by omega
        rw [hke, ← HO.out] at hown
        have R := owns_base2 hown HB1.out.bel.size
        have hbF := BR.bel
        clear hown hke
        go_wp2
        go_ret
        exact ⟨_, rfl, R, hbF⟩

end Go.Proofs.Ythgelfnflafoiab
