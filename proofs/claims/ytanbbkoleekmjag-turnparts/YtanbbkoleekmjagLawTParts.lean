/-
  The law TurnParts, walked.
-/
import Derived.Test.YtanbbkoleekmjagLawTurned
import Derived.Test.YtanbbkoleekmjagTnC
import Derived.Test.YtanbbkoleekmjagLawELater
namespace Go.Proofs.Ytanbbkoleekmjag
open Go.RowKit

theorem Try.infoBoolT : (Try.prog.info? 4).map (fun i => (i.zero, i.size, i.bytes)) = some (some (.bool false), 1, 1) := by kernel_rfl

/-- marks that are being made: the first k are set -/
def marks (n k : Nat) : List Bool := List.replicate k true ++ List.replicate (n - k) false
theorem marks_len {n k : Nat} (h : k ≤ n) : (marks n k).length = n := by simp [marks]; omega
theorem marks_set {n k : Nat} (h : k < n) : (marks n k).set k true = marks n (k + 1) := by
  unfold marks
  rw [List.set_append_right _ _ (by simp), List.length_replicate, Nat.sub_self, show n - k = (n - (k + 1)) + 1 by omega, List.replicate_succ, List.set_cons_zero, List.replicate_succ']
  simp
theorem marks_all (n : Nat) : marks n n = List.replicate n true := by simp [marks]
theorem marks_none (n : Nat) : marks n 0 = List.replicate n false := by simp [marks]

/-- the answers of the two, side by side -/
theorem parts_arr {g : Gr} {K : List Bool} (h0 : gChk g = 0) (hl : K.length = g.lives.length) {F : Nat} (hF : K.getD F false = true) (st : Int) :
    placeE (partG K g) ((oldF K F).length : Int) st = placeE g (F : Int) st ∧ (arrA g (F : Int) st).length ≤ K.length ∧ (arrA (partG K g) ((oldF K F).length : Int) st).length = (oldF K (arrA g (F : Int) st).length).length ∧
    ∀ v, v < (arrA g (F : Int) st).length → K.getD v false = true → (arrA g (F : Int) st).getD v 0 ≤ (arrA (partG K g) ((oldF K F).length : Int) st).getD (oldF K v).length 0 := by
  have hp := part_place h0 hl hF st
  refine ⟨hp, ?_⟩
  unfold arrA
  rw [hp]
  by_cases e : placeE g (F : Int) st = 0
  · rw [if_pos e, if_pos e, (erF_len _ _ _).1, (erF_len _ _ _).1]
    refine ⟨by omega, ?_, fun v hv hk => part_later h0 hl hF hk⟩
    show (livF K g.lives K.length).length = _
    rw [liv_len, hl]
  · rw [if_neg e, if_neg e]
    exact ⟨by simp, rfl, fun v hv => by simp at hv⟩

set_option maxRecDepth 100000 in
set_option maxHeartbeats 2000000 in
theorem turnParts_bad (g : Gr) (K : List Bool) (la ea ka : Option Addr) (lc ec kc : Nat) (fr st : Int) (w : World) (hG : GAt w la ea g) (hSz : g.lives.length * 16 ≤ 140737488351232) (h0 : ¬ gChk g = 0) :
    Calls Try.prog 8 #[.agg #[.int .i64 g.hor, .slice la g.lives.length lc, .slice ea g.edges.length ec], .slice ka K.length kc, .int .i64 fr, .int .i64 st] w fun r w' => r = .returned (.bool true) ∧ Below w.heap.size w w' := by
  obtain ⟨ib, hib, hi0, hi1, hi2⟩ := info_parts Try.infoBoolT
  have B0 := gbx_start w g la ea lc ec 25
  have h0' := turned0_any (w.alloc (.cells #[.int .i64 g.hor, .slice la g.lives.length lc, .slice ea g.edges.length ec] 25))
  have hnl := hG.nl
  obtain ⟨Z, hZ⟩ : ∃ Z : Gr, Z = ⟨0, [], []⟩ := ⟨_, rfl⟩
  have HO1 : Hid (∀ W b (_ : Below w.heap.size w W) (_ : BsAt W b (List.replicate g.lives.length true)), Calls Try.prog 27 #[.agg #[.int .i64 g.hor, .slice la g.lives.length lc, .slice ea g.edges.length ec], .slice b g.lives.length g.lives.length] W fun r w' => ∃ la' ea' lc' ec', r = .returned (.tuple #[.agg #[.int .i64 Z.hor, .slice la' Z.lives.length lc', .slice ea' Z.edges.length ec'], .int .i64 (gChk g)]) ∧ GAt w' la' ea' Z ∧ Below W.heap.size W w') := by
    intro W b hb hM
    have h := tOnly_bad g (List.replicate g.lives.length true) la ea b lc ec g.lives.length W (hG.below hb) h0
    rw [List.length_replicate] at h
    refine h.mono ?_
    rintro r w' ⟨rfl, hb'⟩
    subst hZ
    exact ⟨none, none, 0, 0, rfl, ⟨.inl rfl, .inl rfl, by simp, by simp⟩, hb'⟩
  have HO2 : Hid (∀ W (_ : Below w.heap.size w W), Calls Try.prog 27 #[.agg #[.int .i64 g.hor, .slice la g.lives.length lc, .slice ea g.edges.length ec], .slice ka K.length kc] W fun r w' => ∃ la' ea' lc' ec', r = .returned (.tuple #[.agg #[.int .i64 Z.hor, .slice la' Z.lives.length lc', .slice ea' Z.edges.length ec'], .int .i64 (gChk g)]) ∧ GAt w' la' ea' Z ∧ Below W.heap.size W w') := by
    intro W hb
    refine (tOnly_bad g K la ea ka lc ec kc W (hG.below hb) h0).mono ?_
    rintro r w' ⟨rfl, hb'⟩
    subst hZ
    exact ⟨none, none, 0, 0, rfl, ⟨.inl rfl, .inl rfl, by simp, by simp⟩, hb'⟩
  have d1 : (gChk g != 0) = true := by simpa using h0
  generalize gChk g = n at *
  clear hG h0 hZ
  go_enter Try.func8, Try.ntmps8
  go_wp2_with fail
  refine h0'.mono ?_
  rintro r w1 ⟨rfl, hbA⟩
  have B1 := B0.below hbA
  have g1 := B1.c1
  clear h0' hbA B0
  go_wp2_with (at_make; refine wpList_make_full _ rfl _ _ 47 rfl w1.heap.size 4 ib (.bool false) 1 Try.underlying47 hib hi0 hi1 .i64 .i64 _ _ g.lives.length rfl rfl rfl rfl (by rw [hi2]; omega) (by unfold maxLen; omega) (Nat.le_refl _) ?_; intro w3 hown3 hgrow3)
  obtain ⟨AB, hAB⟩ : ∃ x, x = w1.heap.size := ⟨_, rfl⟩
  rw [← hAB]
  have hM3 : w3.ownsRow w1.heap.size 4 1 (.slice (some ⟨AB, 0, none⟩) g.lives.length g.lives.length) g.lives.length ((marks g.lives.length 0).map Value.bool) := by
    have e3 : (madeCells (Value.bool false).cells (g.lives.length * 1)).toList = (marks g.lives.length 0).map Value.bool := by
      rw [Nat.mul_one, marks_none, List.map_replicate]
      show (madeCells #[Value.bool false] g.lives.length).toList = _
      rw [toList_madeCells_one]
    rw [e3, ← hAB] at hown3
    rw [← hAB]; exact hown3
  have HM3 := hideg hM3
  have HB3 : Hid (Below w1.heap.size w1 w3) := (Below.refl _ _).grown hgrow3 (Nat.le_refl _) (fun k hk => by cases hk)
  have HB1 := hideg B1
  have HAB := hideg hAB
  clear hown3 hgrow3 hM3 g1 B1 hAB
  go_loopw [29] (fun i wr => ∃ k : Nat, k ≤ g.lives.length ∧ i = .int .i64 (k : Int) ∧ wr.ownsRow w1.heap.size 4 1 (.slice (some ⟨AB, 0, none⟩) g.lives.length g.lives.length) g.lives.length ((marks g.lives.length k).map Value.bool) ∧ Below w1.heap.size w1 wr) (fun i _ => g.lives.length - (intOf i).toNat)
  case atStart => exact ⟨0, Nat.zero_le _, rfl, HM3.out, HB3.out⟩
  case round =>
    clear HM3 HB3
    obtain ⟨k, hk, rfl, hM, hb⟩ := hrel
    by_cases hkl : k < g.lives.length
    · have hki : (k : Int) < (g.lives.length : Int) := by omega
      have hkw : IntKind.i64.wrap ((k : Int) + 1) = (k : Int) + 1 := wrap_nj _ (by omega) (by omega)
      have fz := World.ownsRow.frozenAt hM k
      have hc : wr.cell? ⟨AB, k, none⟩ = some (.bool ((marks g.lives.length k).getD k false)) := by
        have h1 := hM.cells (g := AB) rfl k (.bool ((marks g.lives.length k).getD k false)) (by rw [List.getElem?_map, List.getD_eq_getElem?_getD, List.getElem?_eq_getElem (by rw [marks_len (by omega)]; exact hkl)]; rfl)
        have hadd : (⟨AB, 0, none⟩ : Addr).add k = ⟨AB, k, none⟩ := by unfold Addr.add; split <;> simp_all
        rw [hadd] at h1
        exact h1
      have hM2 : Hid ((wr.setCell ⟨AB, k, none⟩ (.bool true)).ownsRow w1.heap.size 4 1 (.slice (some ⟨AB, 0, none⟩) g.lives.length g.lives.length) g.lives.length ((marks g.lives.length (k + 1)).map Value.bool)) := by
        have := (World.ownsRow.stored hM k (.bool true)).1
        rw [← List.map_set, marks_set hkl] at this
        exact this
      have hB2 := hideg (hb.setCell (p := ⟨AB, k, none⟩) (by simp only; have := HAB.out; omega) (.bool true))
      generalize (marks g.lives.length k).getD k false = bb at *
      clear hM hb
      go_wp2
      go_roundw
      case rel => exact ⟨k + 1, by omega, by go_num, hM2.out, hB2.out⟩
      case measure => simp [intOf]; omega
    · have hkn : ¬ ((k : Int) < (g.lives.length : Int)) := by omega
      obtain rfl : k = g.lives.length := by omega
      rw [marks_all] at hM
      obtain ⟨zo, zc, ez, hZ⟩ := bsAt_of_owns hM
      simp only [Value.slice.injEq] at ez
      obtain ⟨rfl, ez1, ez2⟩ := ez
      clear ez1 ez2
      have B3 := HB1.out.below hb
      have h1 := HO1.out _ _ B3.bel hZ
      have g0 := B3.c0
      have g1 := B3.c1
      have g2 := B3.c2
      clear hM hb hZ HO1 HB1 HAB
      obtain ⟨wo, hwo⟩ : ∃ x, x = wr := ⟨_, rfl⟩
      subst hwo
      go_wp2_with fail
      refine h1.mono ?_
      rintro r w4 ⟨la4, ea4, lc4, ec4, rfl, hG4, hb4⟩
      obtain ⟨w5, hw5⟩ : ∃ x, x = w4.alloc (.cells #[.int .i64 Z.hor, .slice la4 Z.lives.length lc4, .slice ea4 Z.edges.length ec4] 25) := ⟨_, rfl⟩
      have hb5 : Below w4.heap.size w4 w5 := by rw [hw5]; exact gal w4 _
      have B5 := (B3.below hb4).below hb5
      have B11 : GBx w w5 w4.heap.size Z la4 ea4 lc4 ec4 := by rw [hw5]; exact gbx_new w w4 (B3.below hb4).bel Z la4 ea4 lc4 ec4 _
      have H11 := hideg (hG4.below hb5)
      have HW5 := hideg hw5.symm
      have h2 := HO2.out _ B5.bel
      clear g0 g1 g2
      have g0 := B5.c0
      have g1 := B5.c1
      have g2 := B5.c2
      rw [hw5] at g0 g1 g2
      clear h1 hb4 hb5 hG4 B3 HO2 hw5
      go_wp2_with fail
      rw [HW5.out]
      refine h2.mono ?_
      rintro r w6 ⟨la6, ea6, lc6, ec6, rfl, hG6, hb6⟩
      obtain ⟨w7, hw7⟩ : ∃ x, x = w6.alloc (.cells #[.int .i64 Z.hor, .slice la6 Z.lives.length lc6, .slice ea6 Z.edges.length ec6] 25) := ⟨_, rfl⟩
      have hb7 : Below w6.heap.size w6 w7 := by rw [hw7]; exact gal w6 _
      have B7 := (B5.below hb6).below hb7
      have B117 := (B11.below hb6).below hb7
      have B13 : GBx w w7 w6.heap.size Z la6 ea6 lc6 ec6 := by rw [hw7]; exact gbx_new w w6 (B5.below hb6).bel Z la6 ea6 lc6 ec6 _
      have H117 := hideg ((H11.out.below hb6).below hb7)
      have H13 := hideg (hG6.below hb7)
      have HW7 := hideg hw7.symm
      clear g0 g1 g2
      have g0 := B7.c0
      have g1 := B7.c1
      have g2 := B7.c2
      have a0 := B117.c0
      have a1 := B117.c1
      have a2 := B117.c2
      have hbF := B7.bel
      rw [hw7] at g0 g1 g2 a0 a1 a2
      clear h2 hb6 hb7 hG6 B5 B11 H11 HW5 hw7
      have HBF := hideg hbF
      clear B7 B117 B13 H117 H13
      go_wp2
      rw [HW7.out]
      go_ret
      exact ⟨rfl, HBF.out⟩

set_option maxRecDepth 100000 in
set_option maxHeartbeats 2000000 in
theorem turnParts_form (g : Gr) (K : List Bool) (la ea ka : Option Addr) (lc ec kc : Nat) (fr st : Int) (w : World) (hG : GAt w la ea g) (hSz : g.lives.length * 16 ≤ 140737488351232) (h0 : gChk g = 0) (hl : ¬ K.length = g.lives.length) :
    Calls Try.prog 8 #[.agg #[.int .i64 g.hor, .slice la g.lives.length lc, .slice ea g.edges.length ec], .slice ka K.length kc, .int .i64 fr, .int .i64 st] w fun r w' => r = .returned (.bool true) ∧ Below w.heap.size w w' := by
  obtain ⟨ib, hib, hi0, hi1, hi2⟩ := info_parts Try.infoBoolT
  have B0 := gbx_start w g la ea lc ec 25
  have h0' := turned0_any (w.alloc (.cells #[.int .i64 g.hor, .slice la g.lives.length lc, .slice ea g.edges.length ec] 25))
  have hnl := hG.nl
  obtain ⟨Z, hZ⟩ : ∃ Z : Gr, Z = ⟨0, [], []⟩ := ⟨_, rfl⟩
  have HO1 : Hid (∀ W b (_ : Below w.heap.size w W) (_ : BsAt W b (List.replicate g.lives.length true)), Calls Try.prog 27 #[.agg #[.int .i64 g.hor, .slice la g.lives.length lc, .slice ea g.edges.length ec], .slice b g.lives.length g.lives.length] W fun r w' => ∃ la' ea' lc' ec', r = .returned (.tuple #[.agg #[.int .i64 g.hor, .slice la' g.lives.length lc', .slice ea' g.edges.length ec'], .int .i64 0]) ∧ GAt w' la' ea' g ∧ Below W.heap.size W w') := by
    intro W b hb hM
    have h := tOnly_ok g (List.replicate g.lives.length true) la ea b lc ec g.lives.length W (hG.below hb) h0 hM (by simp)
    rw [List.length_replicate, all_same (gChk_right h0)] at h
    exact h
  have HO2 : Hid (∀ W (_ : Below w.heap.size w W), Calls Try.prog 27 #[.agg #[.int .i64 g.hor, .slice la g.lives.length lc, .slice ea g.edges.length ec], .slice ka K.length kc] W fun r w' => ∃ la' ea' lc' ec', r = .returned (.tuple #[.agg #[.int .i64 Z.hor, .slice la' Z.lives.length lc', .slice ea' Z.edges.length ec'], .int .i64 5]) ∧ GAt w' la' ea' Z ∧ Below W.heap.size W w') := by
    intro W hb
    refine (tOnly_form g K la ea ka lc ec kc W (hG.below hb) h0 hl).mono ?_
    rintro r w' ⟨rfl, hb'⟩
    subst hZ
    exact ⟨none, none, 0, 0, rfl, ⟨.inl rfl, .inl rfl, by simp, by simp⟩, hb'⟩
  have d1 : ((K.length : Int) != (g.lives.length : Int)) = true := by simpa using fun e => hl (by omega)
  clear hG h0 hZ hl
  go_enter Try.func8, Try.ntmps8
  go_wp2_with fail
  refine h0'.mono ?_
  rintro r w1 ⟨rfl, hbA⟩
  have B1 := B0.below hbA
  have g1 := B1.c1
  clear h0' hbA B0
  go_wp2_with (at_make; refine wpList_make_full _ rfl _ _ 47 rfl w1.heap.size 4 ib (.bool false) 1 Try.underlying47 hib hi0 hi1 .i64 .i64 _ _ g.lives.length rfl rfl rfl rfl (by rw [hi2]; omega) (by unfold maxLen; omega) (Nat.le_refl _) ?_; intro w3 hown3 hgrow3)
  obtain ⟨AB, hAB⟩ : ∃ x, x = w1.heap.size := ⟨_, rfl⟩
  rw [← hAB]
  have hM3 : w3.ownsRow w1.heap.size 4 1 (.slice (some ⟨AB, 0, none⟩) g.lives.length g.lives.length) g.lives.length ((marks g.lives.length 0).map Value.bool) := by
    have e3 : (madeCells (Value.bool false).cells (g.lives.length * 1)).toList = (marks g.lives.length 0).map Value.bool := by
      rw [Nat.mul_one, marks_none, List.map_replicate]
      show (madeCells #[Value.bool false] g.lives.length).toList = _
      rw [toList_madeCells_one]
    rw [e3, ← hAB] at hown3
    rw [← hAB]; exact hown3
  have HM3 := hideg hM3
  have HB3 : Hid (Below w1.heap.size w1 w3) := (Below.refl _ _).grown hgrow3 (Nat.le_refl _) (fun k hk => by cases hk)
  have HB1 := hideg B1
  have HAB := hideg hAB
  clear hown3 hgrow3 hM3 g1 B1 hAB
  go_loopw [29] (fun i wr => ∃ k : Nat, k ≤ g.lives.length ∧ i = .int .i64 (k : Int) ∧ wr.ownsRow w1.heap.size 4 1 (.slice (some ⟨AB, 0, none⟩) g.lives.length g.lives.length) g.lives.length ((marks g.lives.length k).map Value.bool) ∧ Below w1.heap.size w1 wr) (fun i _ => g.lives.length - (intOf i).toNat)
  case atStart => exact ⟨0, Nat.zero_le _, rfl, HM3.out, HB3.out⟩
  case round =>
    clear HM3 HB3
    obtain ⟨k, hk, rfl, hM, hb⟩ := hrel
    by_cases hkl : k < g.lives.length
    · have hki : (k : Int) < (g.lives.length : Int) := by omega
      have hkw : IntKind.i64.wrap ((k : Int) + 1) = (k : Int) + 1 := wrap_nj _ (by omega) (by omega)
      have fz := World.ownsRow.frozenAt hM k
      have hc : wr.cell? ⟨AB, k, none⟩ = some (.bool ((marks g.lives.length k).getD k false)) := by
        have h1 := hM.cells (g := AB) rfl k (.bool ((marks g.lives.length k).getD k false)) (by rw [List.getElem?_map, List.getD_eq_getElem?_getD, List.getElem?_eq_getElem (by rw [marks_len (by omega)]; exact hkl)]; rfl)
        have hadd : (⟨AB, 0, none⟩ : Addr).add k = ⟨AB, k, none⟩ := by unfold Addr.add; split <;> simp_all
        rw [hadd] at h1
        exact h1
      have hM2 : Hid ((wr.setCell ⟨AB, k, none⟩ (.bool true)).ownsRow w1.heap.size 4 1 (.slice (some ⟨AB, 0, none⟩) g.lives.length g.lives.length) g.lives.length ((marks g.lives.length (k + 1)).map Value.bool)) := by
        have := (World.ownsRow.stored hM k (.bool true)).1
        rw [← List.map_set, marks_set hkl] at this
        exact this
      have hB2 := hideg (hb.setCell (p := ⟨AB, k, none⟩) (by simp only; have := HAB.out; omega) (.bool true))
      generalize (marks g.lives.length k).getD k false = bb at *
      clear hM hb
      go_wp2
      go_roundw
      case rel => exact ⟨k + 1, by omega, by go_num, hM2.out, hB2.out⟩
      case measure => simp [intOf]; omega
    · have hkn : ¬ ((k : Int) < (g.lives.length : Int)) := by omega
      obtain rfl : k = g.lives.length := by omega
      rw [marks_all] at hM
      obtain ⟨zo, zc, ez, hZ⟩ := bsAt_of_owns hM
      simp only [Value.slice.injEq] at ez
      obtain ⟨rfl, ez1, ez2⟩ := ez
      clear ez1 ez2
      have B3 := HB1.out.below hb
      have h1 := HO1.out _ _ B3.bel hZ
      have g0 := B3.c0
      have g1 := B3.c1
      have g2 := B3.c2
      clear hM hb hZ HO1 HB1 HAB
      obtain ⟨wo, hwo⟩ : ∃ x, x = wr := ⟨_, rfl⟩
      subst hwo
      go_wp2_with fail
      refine h1.mono ?_
      rintro r w4 ⟨la4, ea4, lc4, ec4, rfl, hG4, hb4⟩
      obtain ⟨w5, hw5⟩ : ∃ x, x = w4.alloc (.cells #[.int .i64 g.hor, .slice la4 g.lives.length lc4, .slice ea4 g.edges.length ec4] 25) := ⟨_, rfl⟩
      have hb5 : Below w4.heap.size w4 w5 := by rw [hw5]; exact gal w4 _
      have B5 := (B3.below hb4).below hb5
      have B11 : GBx w w5 w4.heap.size g la4 ea4 lc4 ec4 := by rw [hw5]; exact gbx_new w w4 (B3.below hb4).bel g la4 ea4 lc4 ec4 _
      have H11 := hideg (hG4.below hb5)
      have HW5 := hideg hw5.symm
      have h2 := HO2.out _ B5.bel
      clear g0 g1 g2
      have g0 := B5.c0
      have g1 := B5.c1
      have g2 := B5.c2
      rw [hw5] at g0 g1 g2
      clear h1 hb4 hb5 hG4 B3 HO2 hw5
      go_wp2_with fail
      rw [HW5.out]
      refine h2.mono ?_
      rintro r w6 ⟨la6, ea6, lc6, ec6, rfl, hG6, hb6⟩
      obtain ⟨w7, hw7⟩ : ∃ x, x = w6.alloc (.cells #[.int .i64 Z.hor, .slice la6 Z.lives.length lc6, .slice ea6 Z.edges.length ec6] 25) := ⟨_, rfl⟩
      have hb7 : Below w6.heap.size w6 w7 := by rw [hw7]; exact gal w6 _
      have B7 := (B5.below hb6).below hb7
      have B117 := (B11.below hb6).below hb7
      have B13 : GBx w w7 w6.heap.size Z la6 ea6 lc6 ec6 := by rw [hw7]; exact gbx_new w w6 (B5.below hb6).bel Z la6 ea6 lc6 ec6 _
      have H117 := hideg ((H11.out.below hb6).below hb7)
      have H13 := hideg (hG6.below hb7)
      have HW7 := hideg hw7.symm
      clear g0 g1 g2
      have g0 := B7.c0
      have g1 := B7.c1
      have g2 := B7.c2
      have a0 := B117.c0
      have a1 := B117.c1
      have a2 := B117.c2
      have hbF := B7.bel
      rw [hw7] at g0 g1 g2 a0 a1 a2
      clear h2 hb6 hb7 hG6 B5 B11 H11 HW5 hw7
      have HBF := hideg hbF
      clear B7 B117 B13 H117 H13
      go_wp2
      rw [HW7.out]
      go_ret
      exact ⟨rfl, HBF.out⟩

set_option maxRecDepth 100000 in
set_option maxHeartbeats 2000000 in
theorem turnParts_ok (g : Gr) (K : List Bool) (la ea ka : Option Addr) (lc ec kc : Nat) (fr st : Int) (w : World) (hG : GAt w la ea g) (hK : BsAt w ka K) (hSz : g.lives.length * 16 ≤ 140737488351232) (h0 : gChk g = 0) (hl : K.length = g.lives.length) :
    Calls Try.prog 8 #[.agg #[.int .i64 g.hor, .slice la g.lives.length lc, .slice ea g.edges.length ec], .slice ka K.length kc, .int .i64 fr, .int .i64 st] w fun r w' => r = .returned (.bool true) ∧ Below w.heap.size w w' := by
  obtain ⟨ib, hib, hi0, hi1, hi2⟩ := info_parts Try.infoBoolT
  have B0 := gbx_start w g la ea lc ec 25
  have h0' := turned0_any (w.alloc (.cells #[.int .i64 g.hor, .slice la g.lives.length lc, .slice ea g.edges.length ec] 25))
  have hnl := hG.nl
  have HO1 : Hid (∀ W b (_ : Below w.heap.size w W) (_ : BsAt W b (List.replicate g.lives.length true)), Calls Try.prog 27 #[.agg #[.int .i64 g.hor, .slice la g.lives.length lc, .slice ea g.edges.length ec], .slice b g.lives.length g.lives.length] W fun r w' => ∃ la' ea' lc' ec', r = .returned (.tuple #[.agg #[.int .i64 g.hor, .slice la' g.lives.length lc', .slice ea' g.edges.length ec'], .int .i64 0]) ∧ GAt w' la' ea' g ∧ Below W.heap.size W w') := by
    intro W b hb hM
    have h := tOnly_ok g (List.replicate g.lives.length true) la ea b lc ec g.lives.length W (hG.below hb) h0 hM (by simp)
    rw [List.length_replicate, all_same (gChk_right h0)] at h
    exact h
  have HO2 : Hid (∀ W (_ : Below w.heap.size w W), Calls Try.prog 27 #[.agg #[.int .i64 g.hor, .slice la g.lives.length lc, .slice ea g.edges.length ec], .slice ka K.length kc] W fun r w' => ∃ la' ea' lc' ec', r = .returned (.tuple #[.agg #[.int .i64 (partG K g).hor, .slice la' (partG K g).lives.length lc', .slice ea' (partG K g).edges.length ec'], .int .i64 0]) ∧ GAt w' la' ea' (partG K g) ∧ Below W.heap.size W w') := by
    intro W hb
    exact tOnly_ok g K la ea ka lc ec kc W (hG.below hb) h0 (hK.below hb) hl
  have HSm := hideg (fun W la' ea' lc' ec' (hb : Below w.heap.size w W) (h : GAt W la' ea' g) => Same_any g la' ea' la ea lc' ec' lc ec W h (hG.below hb))
  have HKA := hideg (fun W (hb : Below w.heap.size w W) => hK.below hb)
  have HAr := hideg (fun W F (hb : Below w.heap.size w W) => eArr_any g la ea lc ec F st W (hG.below hb))
  have HAp := hideg (fun W la' ea' lc' ec' F (h : GAt W la' ea' (partG K g)) => eArr_any (partG K g) la' ea' lc' ec' F st W h)
  have HPa := hideg (fun (F : Nat) (hF : K.getD F false = true) => parts_arr h0 hl hF st)
  have hK12 : K.length ≤ 12 := by have := (gChk_right h0).lvs; omega
  have hg12 : g.lives.length ≤ 12 := by omega
  generalize partG K g = G2 at *
  clear hG hK h0 hl
  go_enter Try.func8, Try.ntmps8
  go_wp2_with fail
  refine h0'.mono ?_
  rintro r w1 ⟨rfl, hbA⟩
  have B1 := B0.below hbA
  have g1 := B1.c1
  clear h0' hbA B0
  go_wp2_with (at_make; refine wpList_make_full _ rfl _ _ 47 rfl w1.heap.size 4 ib (.bool false) 1 Try.underlying47 hib hi0 hi1 .i64 .i64 _ _ g.lives.length rfl rfl rfl rfl (by rw [hi2]; omega) (by unfold maxLen; omega) (Nat.le_refl _) ?_; intro w3 hown3 hgrow3)
  obtain ⟨AB, hAB⟩ : ∃ x, x = w1.heap.size := ⟨_, rfl⟩
  rw [← hAB]
  have hM3 : w3.ownsRow w1.heap.size 4 1 (.slice (some ⟨AB, 0, none⟩) g.lives.length g.lives.length) g.lives.length ((marks g.lives.length 0).map Value.bool) := by
    have e3 : (madeCells (Value.bool false).cells (g.lives.length * 1)).toList = (marks g.lives.length 0).map Value.bool := by
      rw [Nat.mul_one, marks_none, List.map_replicate]
      show (madeCells #[Value.bool false] g.lives.length).toList = _
      rw [toList_madeCells_one]
    rw [e3, ← hAB] at hown3
    rw [← hAB]; exact hown3
  have HM3 := hideg hM3
  have HB3 : Hid (Below w1.heap.size w1 w3) := (Below.refl _ _).grown hgrow3 (Nat.le_refl _) (fun k hk => by cases hk)
  have HB1 := hideg B1
  have HAB := hideg hAB
  clear hown3 hgrow3 hM3 g1 B1 hAB
  go_loopw [29] (fun i wr => ∃ k : Nat, k ≤ g.lives.length ∧ i = .int .i64 (k : Int) ∧ wr.ownsRow w1.heap.size 4 1 (.slice (some ⟨AB, 0, none⟩) g.lives.length g.lives.length) g.lives.length ((marks g.lives.length k).map Value.bool) ∧ Below w1.heap.size w1 wr) (fun i _ => g.lives.length - (intOf i).toNat)
  case atStart => exact ⟨0, Nat.zero_le _, rfl, HM3.out, HB3.out⟩
  case round =>
    clear HM3 HB3
    obtain ⟨k, hk, rfl, hM, hb⟩ := hrel
    by_cases hkl : k < g.lives.length
    · have hki : (k : Int) < (g.lives.length : Int) := by omega
      have hkw : IntKind.i64.wrap ((k : Int) + 1) = (k : Int) + 1 := wrap_nj _ (by omega) (by omega)
      have fz := World.ownsRow.frozenAt hM k
      have hc : wr.cell? ⟨AB, k, none⟩ = some (.bool ((marks g.lives.length k).getD k false)) := by
        have h1 := hM.cells (g := AB) rfl k (.bool ((marks g.lives.length k).getD k false)) (by rw [List.getElem?_map, List.getD_eq_getElem?_getD, List.getElem?_eq_getElem (by rw [marks_len (by omega)]; exact hkl)]; rfl)
        have hadd : (⟨AB, 0, none⟩ : Addr).add k = ⟨AB, k, none⟩ := by unfold Addr.add; split <;> simp_all
        rw [hadd] at h1
        exact h1
      have hM2 : Hid ((wr.setCell ⟨AB, k, none⟩ (.bool true)).ownsRow w1.heap.size 4 1 (.slice (some ⟨AB, 0, none⟩) g.lives.length g.lives.length) g.lives.length ((marks g.lives.length (k + 1)).map Value.bool)) := by
        have := (World.ownsRow.stored hM k (.bool true)).1
        rw [← List.map_set, marks_set hkl] at this
        exact this
      have hB2 := hideg (hb.setCell (p := ⟨AB, k, none⟩) (by simp only; have := HAB.out; omega) (.bool true))
      generalize (marks g.lives.length k).getD k false = bb at *
      clear hM hb
      go_wp2
      go_roundw
      case rel => exact ⟨k + 1, by omega, by go_num, hM2.out, hB2.out⟩
      case measure => simp [intOf]; omega
    · have hkn : ¬ ((k : Int) < (g.lives.length : Int)) := by omega
      obtain rfl : k = g.lives.length := by omega
      rw [marks_all] at hM
      obtain ⟨zo, zc, ez, hZ⟩ := bsAt_of_owns hM
      simp only [Value.slice.injEq] at ez
      obtain ⟨rfl, ez1, ez2⟩ := ez
      clear ez1 ez2
      have B3 := HB1.out.below hb
      have h1 := HO1.out _ _ B3.bel hZ
      have g0 := B3.c0
      have g1 := B3.c1
      have g2 := B3.c2
      clear hM hb hZ HO1 HB1 HAB
      obtain ⟨wo, hwo⟩ : ∃ x, x = wr := ⟨_, rfl⟩
      subst hwo
      go_wp2_with fail
      refine h1.mono ?_
      rintro r w4 ⟨la4, ea4, lc4, ec4, rfl, hG4, hb4⟩
      obtain ⟨w5, hw5⟩ : ∃ x, x = w4.alloc (.cells #[.int .i64 g.hor, .slice la4 g.lives.length lc4, .slice ea4 g.edges.length ec4] 25) := ⟨_, rfl⟩
      have hb5 : Below w4.heap.size w4 w5 := by rw [hw5]; exact gal w4 _
      have B5 := (B3.below hb4).below hb5
      have B11 : GBx w w5 w4.heap.size g la4 ea4 lc4 ec4 := by rw [hw5]; exact gbx_new w w4 (B3.below hb4).bel g la4 ea4 lc4 ec4 _
      have H11 := hideg (hG4.below hb5)
      have HW5 := hideg hw5.symm
      have h2 := HO2.out _ B5.bel
      clear g0 g1 g2
      have g0 := B5.c0
      have g1 := B5.c1
      have g2 := B5.c2
      rw [hw5] at g0 g1 g2
      clear h1 hb4 hb5 hG4 B3 HO2 hw5
      go_wp2_with fail
      rw [HW5.out]
      refine h2.mono ?_
      rintro r w6 ⟨la6, ea6, lc6, ec6, rfl, hG6, hb6⟩
      obtain ⟨w7, hw7⟩ : ∃ x, x = w6.alloc (.cells #[.int .i64 G2.hor, .slice la6 G2.lives.length lc6, .slice ea6 G2.edges.length ec6] 25) := ⟨_, rfl⟩
      have hb7 : Below w6.heap.size w6 w7 := by rw [hw7]; exact gal w6 _
      have B7 := (B5.below hb6).below hb7
      have B117 := (B11.below hb6).below hb7
      have B13 : GBx w w7 w6.heap.size G2 la6 ea6 lc6 ec6 := by rw [hw7]; exact gbx_new w w6 (B5.below hb6).bel G2 la6 ea6 lc6 ec6 _
      have H117 := hideg ((H11.out.below hb6).below hb7)
      have H13 := hideg (hG6.below hb7)
      have HW7 := hideg hw7.symm
      clear g0 g1 g2
      have g0 := B7.c0
      have g1 := B7.c1
      have g2 := B7.c2
      have a0 := B117.c0
      have a1 := B117.c1
      have a2 := B117.c2
      have hbF := B7.bel
      rw [hw7] at g0 g1 g2 a0 a1 a2
      clear h2 hb6 hb7 hG6 B5 B11 H11 HW5 hw7
      have h3 := HSm.out w7 la4 ea4 lc4 ec4 hbF H117.out
      have HBF := hideg hbF
      have HB7 := hideg B7
      have HB117 := hideg B117
      have HB13 := hideg B13
      clear hbF B7 B117 B13
      go_wp2_with fail
      rw [HW7.out]
      refine h3.mono ?_
      rintro r w8 ⟨rfl, hb8⟩
      have B8 := HB7.out.below hb8
      have B118 := HB117.out.below hb8
      have B138 := HB13.out.below hb8
      have H118 := hideg (H117.out.below hb8)
      have H138 := hideg (H13.out.below hb8)
      have h4 := HSm.out w8 la4 ea4 lc4 ec4 B8.bel H118.out
      clear g0 g1 g2 a0 a1 a2 h3 hb8 HB7 HB117 HB13 H117 H13 HW7 HBF HSm
      have hbK := B8.bel
      by_cases c1 : fr < 0
      · have g0 := B8.c0
        have g1 := B8.c1
        have g2 := B8.c2
        have a0 := B118.c0
        have a1 := B118.c1
        have a2 := B118.c2
        go_wp2_with fail
        refine h4.mono ?_
        rintro r w9 ⟨rfl, hb9⟩
        have hbE := ptg hbK hb9
        clear h4 hb9 hbK B8 B118 B138 g0 g1 g2 a0 a1 a2
        go_wp2
        go_ret
        exact ⟨rfl, hbE⟩
      obtain ⟨F, rfl⟩ : ∃ F : Nat, fr = (F : Int) := ⟨fr.toNat, by omega⟩
      by_cases c2 : K.length ≤ F
      · have c2i : ((F : Int) ≥ (K.length : Int)) := by omega
        have g0 := B8.c0
        have g1 := B8.c1
        have g2 := B8.c2
        have a0 := B118.c0
        have a1 := B118.c1
        have a2 := B118.c2
        go_wp2_with fail
        refine h4.mono ?_
        rintro r w9 ⟨rfl, hb9⟩
        have hbE := ptg hbK hb9
        clear h4 hb9 hbK B8 B118 B138 g0 g1 g2 a0 a1 a2
        go_wp2
        go_ret
        exact ⟨rfl, hbE⟩
      have c2n : ¬ ((F : Int) ≥ (K.length : Int)) := by omega
      have hFl : F < K.length := by omega
      have hFi : (F : Int) < (K.length : Int) := by omega
      obtain ⟨kb, kof, rfl, hkb⟩ : ∃ kb kof, ka = some ⟨kb, kof, none⟩ ∧ ∀ W, Below w.heap.size w W → ∀ j, j < K.length → W.cell? ⟨kb, kof + j, none⟩ = some (.bool (K.getD j false)) := by
        rcases HKA.out w (Below.refl _ _) with h | ⟨kb, kof, rfl, h1, h2⟩
        · rw [h] at hFl; simp at hFl
        · exact ⟨kb, kof, rfl, fun W hb j hj => (hb.cell (p := ⟨kb, kof + j, none⟩) h1).trans (h2 j hj)⟩
      have HKb := hideg hkb
      have kF := hkb w8 hbK F hFl
      clear hkb
      cases hkf : K.getD F false with
      | false =>
        rw [hkf] at kF
        have g0 := B8.c0
        have g1 := B8.c1
        have g2 := B8.c2
        have a0 := B118.c0
        have a1 := B118.c1
        have a2 := B118.c2
        go_wp2_with fail
        refine h4.mono ?_
        rintro r w9 ⟨rfl, hb9⟩
        have hbE := ptg hbK hb9
        clear h4 hb9 hbK B8 B118 B138 g0 g1 g2 a0 a1 a2 kF hkf
        go_wp2
        go_ret
        exact ⟨rfl, hbE⟩
      | true =>
        rw [hkf] at kF
        obtain ⟨q1, q2, q3, q4⟩ := HPa.out F hkf
        have HQ1 := hideg q1
        have HQ2 := hideg q2
        have HQ3 := hideg q3
        have HQ4 := hideg q4
        have HB8 := hideg B8
        have HB138 := hideg B138
        have HbK := hideg hbK
        clear h4 B118 H118 q1 q2 q3 q4 HPa B8 B138 hbK hkf
        go_wp2_with fail
        clear kF
        go_loopw [15, 98] (fun n i wr => ∃ k : Nat, k ≤ F ∧ n = .int .i64 ((oldF K k).length : Int) ∧ i = .int .i64 (k : Int) ∧ wr = w8) (fun _ i _ => F - (intOf i).toNat)
        case atStart => exact ⟨0, Nat.zero_le _, rfl, rfl, rfl⟩
        case round =>
          obtain ⟨k, hk, rfl, rfl, rfl⟩ := hrel
          by_cases hkF : k < F
          · have hki : (k : Int) < (F : Int) := by omega
            have hkK : (k : Int) < (K.length : Int) := by omega
            have hkw : IntKind.i64.wrap ((k : Int) + 1) = (k : Int) + 1 := wrap_nj _ (by omega) (by omega)
            have hol := old_len K k
            have kk := HKb.out wr HbK.out k (by omega)
            have HS : Hid ((oldF K (k + 1)).length = (oldF K k).length + if K.getD k false = true then 1 else 0) := by show _ = _; rw [oldF, List.length_append]; split <;> rfl
            have how : IntKind.i64.wrap (((oldF K k).length : Int) + 1) = ((oldF K k).length : Int) + 1 := wrap_nj _ (by omega) (by omega)
            cases hkk : K.getD k false with
            | false =>
              rw [hkk] at kk
              have HS2 : Hid ((oldF K (k + 1)).length = (oldF K k).length) := by show _ = _; have := HS.out; rw [hkk] at this; simpa using this
              generalize (oldF K k).length = m at *
              clear hkk HS
              go_wp2
              go_roundw
              case rel => exact ⟨k + 1, by omega, by rw [HS2.out], by go_num, by first | rfl | trivial⟩
              case measure => simp [intOf]; omega
            | true =>
              rw [hkk] at kk
              have HS2 : Hid ((oldF K (k + 1)).length = (oldF K k).length + 1) := by show _ = _; have := HS.out; rw [hkk] at this; simpa using this
              generalize (oldF K k).length = m at *
              clear hkk HS
              go_wp2
              go_roundw
              case rel => exact ⟨k + 1, by omega, by rw [HS2.out]; go_num, by go_num, by first | rfl | trivial⟩
              case measure => simp [intOf]; omega
          · obtain rfl : k = F := by omega
            have hkn : ¬ ((k : Int) < (k : Int)) := by omega
            have g0 := HB8.out.c0
            have g1 := HB8.out.c1
            have g2 := HB8.out.c2
            have h5 := HAr.out wr (k : Int) HbK.out
            have hol := old_len K k
            have HNw : Hid (∀ W la' ea' lc' ec', GAt W la' ea' G2 → Calls Try.prog 11 #[.agg #[.int .i64 G2.hor, .slice la' G2.lives.length lc', .slice ea' G2.edges.length ec'], .int .i64 ((oldF K k).length : Int), .int .i64 st] W fun r w' => ∃ u, r = .returned (.tuple #[u, .int .i64 (placeE g (k : Int) st)]) ∧ w'.ownsRow W.heap.size 3 1 u (arrA G2 ((oldF K k).length : Int) st).length ((arrA G2 ((oldF K k).length : Int) st).map (Value.int .i64)) ∧ Below W.heap.size W w') := by
              intro W la' ea' lc' ec' h
              have := HAp.out W la' ea' lc' ec' ((oldF K k).length : Int) h
              rw [HQ1.out] at this
              exact this
            generalize placeE g (k : Int) st = ee at *
            generalize arrA g (k : Int) st = X at *
            generalize arrA G2 ((oldF K k).length : Int) st = Y at *
            generalize (oldF K k).length = nw at *
            clear HAr HAp HQ1
            go_wp2_with fail
            refine h5.mono ?_
            rintro r w9 ⟨u9, rfl, ho9, hb9⟩
            have B139 := HB138.out.below hb9
            have h6 := HNw.out w9 la6 ea6 lc6 ec6 (H138.out.below hb9)
            have HbK9 := hideg (ptg HbK.out hb9)
            clear g0 g1 g2 h5 hb9 HNw H138 HB138 HB8
            have a0 := B139.c0
            have a1 := B139.c1
            have a2 := B139.c2
            go_wp2_with fail
            refine h6.mono ?_
            rintro r w10 ⟨u10, rfl, ho10, hb10⟩
            have ho9 := ownsRow_below ho9 hb10
            have HbF := hideg (ptg HbK9.out hb10)
            obtain ⟨b9, c9, rfl, z9⟩ := zsAt_of_owns ho9
            obtain ⟨b10, c10, rfl, z10⟩ := zsAt_of_owns ho10
            have Z9 := hideg z9
            have Z10 := hideg z10
            clear a0 a1 a2 h6 hb10 B139 HbK9 ho9 ho10 z9 z10
            obtain ⟨wz, hwz⟩ : ∃ x, x = wr := ⟨_, rfl⟩
            go_wp2_with fail
            go_loopw [19, 127] (fun n i wq => ∃ j : Nat, j ≤ X.length ∧ n = .int .i64 ((oldF K j).length : Int) ∧ i = .int .i64 (j : Int) ∧ Below w10.heap.size w10 wq) (fun _ i _ => X.length - (intOf i).toNat)
            case atStart => exact ⟨0, Nat.zero_le _, rfl, rfl, Below.refl _ _⟩
            case round =>
              obtain ⟨j, hj, rfl, rfl, hb⟩ := hrel
              by_cases hjX : j < X.length
              · have hq2 := HQ2.out
                have hji : (j : Int) < (X.length : Int) := by omega
                have hjK : (j : Int) < (K.length : Int) := by omega
                have hjw : IntKind.i64.wrap ((j : Int) + 1) = (j : Int) + 1 := wrap_nj _ (by omega) (by omega)
                have hol := old_len K j
                have kk := HKb.out _ (ptg HbF.out hb) j (by omega)
                have HS : Hid ((oldF K (j + 1)).length = (oldF K j).length + if K.getD j false = true then 1 else 0) := by show _ = _; rw [oldF, List.length_append]; split <;> rfl
                have how : IntKind.i64.wrap (((oldF K j).length : Int) + 1) = ((oldF K j).length : Int) + 1 := wrap_nj _ (by omega) (by omega)
                have HBd : Hid (∀ N, Below w10.heap.size w10 (wr.drewN N)) := fun N => below_drewN hb N
                have HBp := hideg hb
                cases hkk : K.getD j false with
                | false =>
                  rw [hkk] at kk
                  have HS2 : Hid ((oldF K (j + 1)).length = (oldF K j).length) := by show _ = _; have := HS.out; rw [hkk] at this; simpa using this
                  generalize (oldF K j).length = m at *
                  clear hkk HS hq2 hb
                  go_wp2
                  go_roundw
                  case rel => exact ⟨j + 1, by omega, by rw [HS2.out], by go_num, HBp.out⟩
                  case measure => simp [intOf]; omega
                | true =>
                  rw [hkk] at kk
                  have HS2 : Hid ((oldF K (j + 1)).length = (oldF K j).length + 1) := by show _ = _; have := HS.out; rw [hkk] at this; simpa using this
                  have hmY : (oldF K j).length < Y.length := by rw [HQ3.out]; exact old_lt K hjX hkk
                  have hmYi : ((oldF K j).length : Int) < (Y.length : Int) := by omega
                  have hle := HQ4.out j hjX hkk
                  obtain ⟨b2, o2, rfl, hb2, q2⟩ : ∃ b off, b9 = some ⟨b, off, none⟩ ∧ b < wr.heap.size ∧ wr.cell? ⟨b, off + j, none⟩ = some (.int .i64 (X.getD j 0)) := by
                    rcases Z9.out.below hb with h0 | ⟨b, off, rfl, hbr, hc⟩
                    · rw [h0] at hjX; simp at hjX
                    · exact ⟨b, off, rfl, hbr, hc j hjX⟩
                  obtain ⟨b3, o3, rfl, hb3, q3⟩ : ∃ b off, b10 = some ⟨b, off, none⟩ ∧ b < wr.heap.size ∧ wr.cell? ⟨b, off + (oldF K j).length, none⟩ = some (.int .i64 (Y.getD (oldF K j).length 0)) := by
                    rcases Z10.out.below hb with h0 | ⟨b, off, rfl, hbr, hc⟩
                    · rw [h0] at hmY; simp at hmY
                    · exact ⟨b, off, rfl, hbr, hc _ hmY⟩
                  generalize X.getD j 0 = y2 at *
                  generalize Y.getD (oldF K j).length 0 = y3 at *
                  have dL : decide (y3 < y2) = false := by simp; omega
                  generalize (oldF K j).length = m at *
                  clear hkk HS hq2 hb hle
                  go_wp2_with fail
                  go_quiet (fail)
                  clear q2 q3 kk
                  go_wp2
                  go_roundw
                  case rel => exact ⟨j + 1, by omega, by rw [HS2.out]; go_num, by go_num, HBd.out _⟩
                  case measure => simp [intOf]; omega
              · obtain rfl : j = X.length := by omega
                have hjn : ¬ ((X.length : Int) < (X.length : Int)) := by omega
                have hYe := HQ3.out
                have dE : (((oldF K X.length).length : Int) == (Y.length : Int)) = true := by rw [hYe]; simp
                have hbE := ptg HbF.out hb
                generalize (oldF K X.length).length = m at *
                clear hYe hb
                go_wp2
                go_ret
                exact ⟨rfl, hbE⟩

theorem turnParts_walk (g : Gr) (K : List Bool) (la ea ka : Option Addr) (lc ec kc : Nat) (fr st : Int) (w : World) (hG : GAt w la ea g) (hK : BsAt w ka K) (hSz : g.lives.length * 16 ≤ 140737488351232) :
    Calls Try.prog 8 #[.agg #[.int .i64 g.hor, .slice la g.lives.length lc, .slice ea g.edges.length ec], .slice ka K.length kc, .int .i64 fr, .int .i64 st] w fun r w' => r = .returned (.bool true) ∧ Below w.heap.size w w' := by
  by_cases h0 : gChk g = 0
  · by_cases hl : K.length = g.lives.length
    · exact turnParts_ok g K la ea ka lc ec kc fr st w hG hK hSz h0 hl
    · exact turnParts_form g K la ea ka lc ec kc fr st w hG hSz h0 hl
  · exact turnParts_bad g K la ea ka lc ec kc fr st w hG hSz h0

end Go.Proofs.Ytanbbkoleekmjag
