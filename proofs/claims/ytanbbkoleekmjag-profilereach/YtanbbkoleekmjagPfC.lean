/-
  What Reach of the program answers: who can be where within a stretch of time.
-/
import Derived.Test.YtanbbkoleekmjagPfB
import Derived.Test.YtanbbkoleekmjagPk1
namespace Go.Proofs.Ytanbbkoleekmjag
open Go.RowKit

theorem Try.infoBoolR : (Try.prog.info? 4).map (fun i => (i.zero, i.size, i.bytes)) = some (some (.bool false), 1, 1) := by kernel_rfl
theorem Try.infoBools : (Try.prog.info? 47).map (fun i => (i.zero, i.size, i.bytes)) = some (some (.slice none 0 0), 1, 24) := by kernel_rfl

/-- the error of Reach -/
def reachE (g : Gr) (s e : Int) : Int := if gChk g = 0 then if inR s 0 (g.hor - 1) = true ∧ inR e 0 (g.hor - 1) = true then 0 else 1 else gChk g
/-- a row of Reach -/
def reachR (g : Gr) (s e : Int) (v : Nat) : List Bool := (erF g (v : Int) s).1.map fun t => decide (t ≤ e)
/-- the first j cells of a row are written -/
def rowB (x : List Int) (e : Int) (j : Nat) : List Value := (List.range x.length).map fun (i : Nat) => .bool (if i < j then decide (x.getD i 0 ≤ e) else false)
theorem rowB_zero (x : List Int) (e : Int) : rowB x e 0 = List.replicate x.length (.bool false) := by
  apply List.ext_getElem (by simp [rowB])
  intro i h1 h2
  simp [rowB]
theorem rowB_succ (x : List Int) (e : Int) (j : Nat) : (rowB x e j).set j (.bool (decide (x.getD j 0 ≤ e))) = rowB x e (j + 1) := by
  apply List.ext_getElem (by simp [rowB])
  intro i h1 h2
  rw [List.getElem_set]
  simp only [rowB, List.getElem_map, List.getElem_range]
  by_cases c : j = i
  · subst c; rw [if_pos rfl, if_pos (by omega)]
  · rw [if_neg c]
    by_cases c2 : i < j
    · rw [if_pos c2, if_pos (by omega)]
    · rw [if_neg c2, if_neg (by omega)]
theorem rowB_full (x : List Int) (e : Int) : rowB x e x.length = (x.map fun t => decide (t ≤ e)).map Value.bool := by
  apply List.ext_getElem (by simp [rowB])
  intro i h1 h2
  simp only [rowB, List.length_map, List.length_range] at h1
  simp [rowB, h1, List.getD_eq_getElem?_getD]

set_option maxRecDepth 100000 in
set_option maxHeartbeats 1000000 in
theorem pReach_bad (g : Gr) (la ea : Option Addr) (lc ec : Nat) (s e : Int) (w : World) (hG : GAt w la ea g) (hE : reachE g s e ≠ 0) :
    Calls Try.prog 16 #[.agg #[.int .i64 g.hor, .slice la g.lives.length lc, .slice ea g.edges.length ec], .int .i64 s, .int .i64 e] w fun r w' => r = .returned (.tuple #[.slice none 0 0, .int .i64 (reachE g s e)]) ∧ Below w.heap.size w w' := by
  have B0 := gbx_start w g la ea lc ec 25
  have h1 := gCheck_any g la ea lc ec _ (hG.below B0.bel)
  by_cases e1 : gChk g = 0
  case neg =>
    have HP : Hid (reachE g s e = gChk g) := by show _ = _; unfold reachE; rw [if_neg e1]
    have d1 : (gChk g != 0) = true := by simpa using e1
    generalize gChk g = n at *
    clear e1 hG hE
    go_enter Try.func16, Try.ntmps16
    go_wp2_with fail
    refine h1.mono ?_
    rintro r w1 ⟨rfl, hb1⟩
    have hbF := (B0.below hb1).bel
    clear h1 hb1 B0
    go_wp2
    (try simp only [Exit.inBlock, Exit.then]); refine bodyPost_ret (results_two_e rfl _ _ _) rfl ?_
    exact ⟨by rw [HP.out]; rfl, hbF⟩
  have hR := gChk_right e1
  have hh := hR.hor
  have hs := fun W => gHasT_any g.hor la ea g.lives.length lc g.edges.length ec s W hh.1 hh.2
  have he := fun W => gHasT_any g.hor la ea g.lives.length lc g.edges.length ec e W hh.1 hh.2
  have HP : Hid (reachE g s e = 1 ∧ ¬ (inR s 0 (g.hor - 1) = true ∧ inR e 0 (g.hor - 1) = true)) := by
    unfold reachE at hE ⊢
    rw [if_pos e1] at hE ⊢
    by_cases c : inR s 0 (g.hor - 1) = true ∧ inR e 0 (g.hor - 1) = true
    · rw [if_pos c] at hE; exact absurd rfl hE
    · rw [if_neg c]; exact ⟨rfl, c⟩
  rw [e1] at h1
  clear e1 hG hE hR hh
  cases bs : inR s 0 (g.hor - 1) with
  | false =>
    rw [bs] at hs
    clear bs he
    go_enter Try.func16, Try.ntmps16
    go_wp2_with fail
    refine h1.mono ?_
    rintro r w1 ⟨rfl, hb1⟩
    have B1 := B0.below hb1
    have g0 := B1.c0
    have g1 := B1.c1
    have g2 := B1.c2
    clear h1 hb1 B0
    go_wp2_with fail
    refine (hs _).mono ?_
    rintro r w2 ⟨rfl, hb2⟩
    have hbF := (B1.below hb2).bel
    clear hs hb2 B1 g0 g1 g2
    go_wp2
    (try simp only [Exit.inBlock, Exit.then]); refine bodyPost_ret (results_two_e rfl _ _ _) rfl ?_
    exact ⟨by rw [HP.out.1]; rfl, hbF⟩
  | true =>
    cases be : inR e 0 (g.hor - 1) with
    | true => exact absurd ⟨bs, be⟩ HP.out.2
    | false =>
      rw [bs] at hs
      rw [be] at he
      clear bs be
      go_enter Try.func16, Try.ntmps16
      go_wp2_with fail
      refine h1.mono ?_
      rintro r w1 ⟨rfl, hb1⟩
      have B1 := B0.below hb1
      have g0 := B1.c0
      have g1 := B1.c1
      have g2 := B1.c2
      clear h1 hb1 B0
      go_wp2_with fail
      refine (hs _).mono ?_
      rintro r w2 ⟨rfl, hb2⟩
      have B2 := B1.below hb2
      clear hs hb2 B1 g0 g1 g2
      have g0 := B2.c0
      have g1 := B2.c1
      have g2 := B2.c2
      go_wp2_with fail
      refine (he _).mono ?_
      rintro r w3 ⟨rfl, hb3⟩
      have hbF := (B2.below hb3).bel
      clear he hb3 B2 g0 g1 g2
      go_wp2
      (try simp only [Exit.inBlock, Exit.then]); refine bodyPost_ret (results_two_e rfl _ _ _) rfl ?_
      exact ⟨by rw [HP.out.1]; rfl, hbF⟩

set_option maxRecDepth 100000 in
set_option maxHeartbeats 1000000 in
theorem pReach_ok (g : Gr) (la ea : Option Addr) (lc ec : Nat) (s e : Int) (w : World) (hG : GAt w la ea g) (hE : reachE g s e = 0) :
    Calls Try.prog 16 #[.agg #[.int .i64 g.hor, .slice la g.lives.length lc, .slice ea g.edges.length ec], .int .i64 s, .int .i64 e] w fun r w' => ∃ go bl, r = .returned (.tuple #[.slice (some ⟨go, 0, none⟩) g.lives.length g.lives.length, .int .i64 0]) ∧ bl.length = g.lives.length ∧ RM w.heap.size 47 4 go g.lives.length g.lives.length w' bl (fun v => (reachR g s e v).map Value.bool) ∧ Below w.heap.size w w' := by
  obtain ⟨i0, hi, hz0, hz1, hz2⟩ := info_parts Try.infoBools
  obtain ⟨i1, hi', hy0, hy1, hy2⟩ := info_parts Try.infoBoolR
  have B0 := gbx_start w g la ea lc ec 25
  have h1 := gCheck_any g la ea lc ec _ (hG.below B0.bel)
  have e1 : gChk g = 0 := by
    unfold reachE at hE
    by_cases c : gChk g = 0
    · exact c
    · rw [if_neg c] at hE; exact absurd hE c
  have hR := gChk_right e1
  have hh := hR.hor
  have hl12 := hR.lvs
  have hse : inR s 0 (g.hor - 1) = true ∧ inR e 0 (g.hor - 1) = true := by
    unfold reachE at hE
    rw [if_pos e1] at hE
    by_cases c : inR s 0 (g.hor - 1) = true ∧ inR e 0 (g.hor - 1) = true
    · exact c
    · rw [if_neg c] at hE; cases hE
  have hs := fun W => gHasT_any g.hor la ea g.lives.length lc g.edges.length ec s W hh.1 hh.2
  have he := fun W => gHasT_any g.hor la ea g.lives.length lc g.edges.length ec e W hh.1 hh.2
  rw [hse.1] at hs
  rw [hse.2] at he
  rw [e1] at h1
  have HAr : Hid (∀ (v : Nat), v < g.lives.length → ∀ W, Below w.heap.size w W → Calls Try.prog 11 #[.agg #[.int .i64 g.hor, .slice la g.lives.length lc, .slice ea g.edges.length ec], .int .i64 (v : Int), .int .i64 s] W fun r w' => ∃ gb cap, r = .returned (.tuple #[.slice (some ⟨gb, 0, none⟩) g.lives.length cap, .int .i64 0]) ∧ Zo w' W.heap.size gb g.lives.length cap (erF g (v : Int) s).1 ∧ Below W.heap.size W w') := by
    intro v hv W hb
    have hp : placeE g (v : Int) s = 0 := by unfold placeE; rw [if_pos e1, if_pos ((inR_iff _ _ _).2 (by omega)), if_pos hse.1]
    refine (eArr_any g la ea lc ec (v : Int) s W (hG.below hb)).mono ?_
    rintro r w' ⟨u, rfl, hown, hb'⟩
    have ea' : arrA g (v : Int) s = (erF g (v : Int) s).1 := by unfold arrA; rw [if_pos hp]
    rw [ea'] at hown
    rw [(erF_len g (v : Int) s).1] at hown
    rcases hown.2 with ⟨_, h0⟩ | ⟨ga, ca, cur, e', _⟩
    · omega
    subst e'
    rw [hp]
    exact ⟨ga, ca, rfl, hown, hb'⟩
  have HLen := hideg (fun v : Nat => (erF_len g (v : Int) s).1)
  clear e1 hG hE hR hh hse
  go_enter Try.func16, Try.ntmps16
  go_wp2_with fail
  refine h1.mono ?_
  rintro r w1 ⟨rfl, hb1⟩
  have B1 := B0.below hb1
  have g0 := B1.c0
  have g1 := B1.c1
  have g2 := B1.c2
  clear h1 hb1 B0
  go_wp2_with fail
  refine (hs _).mono ?_
  rintro r w2 ⟨rfl, hb2⟩
  have B2 := B1.below hb2
  clear hs hb2 B1 g0 g1 g2
  have g0 := B2.c0
  have g1 := B2.c1
  have g2 := B2.c2
  go_wp2_with fail
  refine (he _).mono ?_
  rintro r w3 ⟨rfl, hb3⟩
  have B3 := B2.below hb3
  clear he hb3 B2 g0 g1 g2
  have g1 := B3.c1
  go_wp2_with (at_make; refine wpList_make_full _ rfl _ _ 43 rfl w3.heap.size 47 i0 _ 1 Try.underlying43 hi hz0 hz1 .i64 .i64 _ _ g.lives.length rfl rfl rfl rfl (by rw [hz2]; omega) (by unfold maxLen; omega) (by omega) ?_; intro w4 hown4 hgrow4; refine stopHereR ?_)
  refine hideg ?_
  have hb4 : Below w3.heap.size w3 w4 := (Below.refl _ _).grown hgrow4 (Nat.le_refl _) (fun k hk => by cases hk)
  have e4 : (madeCells (Value.slice none 0 0).cells (g.lives.length * 1)).toList = sls g.lives.length [] ++ List.replicate (g.lives.length - ([] : List (Nat × Nat)).length) (.slice none 0 0) := by
    rw [Nat.mul_one]
    show (madeCells #[Value.slice none 0 0] g.lives.length).toList = _
    rw [toList_madeCells_one]; rfl
  rw [e4] at hown4
  have M4 : RM w3.heap.size 47 4 w3.heap.size g.lives.length g.lives.length w4 [] (fun v => (reachR g s e v).map Value.bool) := ⟨hown4, fun v hv => absurd hv (by simp), fun v _ hv => absurd hv (by simp), Nat.zero_le _⟩
  have HB3 := hideg B3
  clear hown4 hgrow4 e4 g1 B3
  obtain ⟨GO, hGO⟩ : ∃ x, x = w3.heap.size := ⟨_, rfl⟩
  rw [← hGO]
  have M4' : RM w3.heap.size 47 4 GO g.lives.length g.lives.length w4 [] (fun v => (reachR g s e v).map Value.bool) := by rw [hGO]; exact M4
  have HGO := hideg hGO
  clear M4 hGO
  go_wp2_with fail
  go_loopw [36] (fun i wr => ∃ bl : List (Nat × Nat), i = .int .i64 ((bl.length : Nat) : Int) ∧ RM w3.heap.size 47 4 GO g.lives.length g.lives.length wr bl (fun v => (reachR g s e v).map Value.bool) ∧ Below w3.heap.size w3 wr) (fun i _ => g.lives.length - (intOf i).toNat)
  case atStart => exact ⟨[], rfl, M4', hb4⟩
  case round =>
    clear M4' hb4
    obtain ⟨bl, rfl, M, hb⟩ := hrel
    have hble := M.le
    by_cases hlt : bl.length < g.lives.length
    · obtain ⟨k, hk⟩ : ∃ k, k = bl.length := ⟨_, rfl⟩
      have hki : (k : Int) < (g.lives.length : Int) := by omega
      have hkw : IntKind.i64.wrap ((k : Int) + 1) = (k : Int) + 1 := wrap_nj _ (by omega) (by omega)
      have BR := HB3.out.below hb
      have g0 := BR.c0
      have g1 := BR.c1
      have g2 := BR.c2
      have hAr := HAr.out k (by omega) wr BR.bel
      have HM := hideg M
      have HB := hideg hb
      have hsz := hb.size
      rw [← hk]
      have HKk := hideg hk
      have hk12 : k < g.lives.length := by omega
      have hlt2 := hideg hlt
      obtain ⟨X, hX⟩ : ∃ X, X = (erF g (k : Int) s).1 := ⟨_, rfl⟩
      have hXl : X.length = g.lives.length := by rw [hX]; exact HLen.out k
      have HXl := hideg hXl
      have HRow : Hid (reachR g s e k = X.map fun t => decide (t ≤ e)) := by show _ = _; rw [hX]; rfl
      rw [← hX] at hAr
      clear M hb hk hlt hble BR hX hXl
      go_wp2_with fail
      refine hAr.mono ?_
      rintro r w5 ⟨xo, xc, rfl, hz5, hb5⟩
      have M5 := HM.out.below hb5
      have hb5' := HB.out.trans (hb5.mono HB.out.size)
      clear hAr g0 g1 g2
      have hs5 := hb5'.size
      have hxo := World.ownsRow.lt hz5 _ rfl
      go_wp2_with (at_make; refine wpList_make_full _ rfl _ _ 47 rfl w3.heap.size 4 i1 _ 1 Try.underlying47 hi' hy0 hy1 .i64 .i64 _ _ g.lives.length rfl rfl rfl rfl (by rw [hy2]; omega) (by unfold maxLen; omega) (by omega) ?_; intro w6 hown6 hgrow6; refine stopHereR ?_)
      refine hideg ?_
      have hb6 : Below w5.heap.size w5 w6 := (Below.refl _ _).grown hgrow6 (Nat.le_refl _) (fun k hk => by cases hk)
      have e6 : (madeCells (Value.bool false).cells (g.lives.length * 1)).toList = rowB X e 0 := by
        rw [Nat.mul_one, rowB_zero, HXl.out]
        show (madeCells #[Value.bool false] g.lives.length).toList = _
        rw [toList_madeCells_one]
      rw [e6] at hown6
      have M6 := M5.below hb6
      have hb6' := hb5'.trans (hb6.mono hb5'.size)
      have fz := World.ownsRow.frozenAt M6.own k
      have cv := M6.nil (v := k) (by have := HKk.out; omega) hk12
      have M7 := M6.put (by decide) hlt2.out hown6 (fun v hv => by have := (M5.ltI hv).2; omega)
      rw [← HKk.out] at M7
      have hb7 := hb6'.setCell (p := ⟨GO, k, none⟩) (by have := HGO.out; simp only; omega) (.slice (some ⟨w5.heap.size, 0, none⟩) g.lives.length g.lives.length)
      have hz7 : Zo (w6.setCell ⟨GO, k, none⟩ (.slice (some ⟨w5.heap.size, 0, none⟩) g.lives.length g.lives.length)) wr.heap.size xo g.lives.length xc X := ownsRow_setCell_other (ownsRow_below hz5 hb6) (by simp [Value.ownBlock]; have := HM.out.lt; omega) _
      obtain ⟨BL, hBL⟩ : ∃ BL, BL = bl ++ [(w5.heap.size, g.lives.length)] := ⟨_, rfl⟩
      rw [← hBL] at M7
      obtain ⟨RB, hRB⟩ : ∃ RB, RB = w5.heap.size := ⟨_, rfl⟩
      have hBk : bk BL k = RB ∧ ck BL k = g.lives.length := by rw [hBL, HKk.out, hRB]; exact bk_snoc bl _
      have hBLl : BL.length = k + 1 := by rw [hBL, HKk.out]; simp
      have HBk := hideg hBk
      have HBLl := hideg hBLl
      have HxRB : Hid (xo ≠ RB) := by show _ ≠ _; omega
      have HM7 := hideg M7
      have HB7 := hideg hb7
      have HZ7 := hideg hz7
      clear M5 M6 M7 hb5 hb5' hb6 hb6' hb7 hz5 hz7 hown6 hgrow6 e6 hBk hBLl hBL HM HB
      rw [← hRB] at HM7 HB7 HZ7 ⊢
      clear hRB
      go_wp2_with fail
      clear fz cv
      obtain ⟨w8, hw8⟩ : ∃ x, x = w6.setCell ⟨GO, k, none⟩ (.slice (some ⟨RB, 0, none⟩) g.lives.length g.lives.length) := ⟨_, rfl⟩
      rw [← hw8] at HM7 HB7 HZ7 ⊢
      obtain ⟨wo, hwo⟩ : ∃ x, x = wr.heap.size := ⟨_, rfl⟩
      rw [← hwo] at HZ7
      clear hw8 hwo hxo hs5
      obtain ⟨wo2, hwo2⟩ : ∃ x, x = wr := ⟨_, rfl⟩
      subst hwo2
      go_loopw [54] (fun i wr => ∃ j : Nat, j ≤ g.lives.length ∧ i = .int .i64 (j : Int) ∧ RM w3.heap.size 47 4 GO g.lives.length g.lives.length wr BL (upF (fun v => (reachR g s e v).map Value.bool) k (rowB X e j)) ∧ Zo wr wo xo g.lives.length xc X ∧ Below w3.heap.size w3 wr) (fun i _ => g.lives.length - (intOf i).toNat)
      case atStart => exact ⟨0, Nat.zero_le _, rfl, HM7.out, HZ7.out, HB7.out⟩
      case round =>
        clear HM7 HZ7 HB7
        obtain ⟨j, hj, rfl, M, hz, hb⟩ := hrel
        have hkB : k < BL.length := by rw [HBLl.out]; omega
        by_cases hjl : j < g.lives.length
        · have hji : (j : Int) < (g.lives.length : Int) := by omega
          have hjw : IntKind.i64.wrap ((j : Int) + 1) = (j : Int) + 1 := wrap_nj _ (by omega) (by omega)
          have oK := M.out hkB
          rw [HBk.out.1, HBk.out.2] at oK
          have xj := Zo.cell hz hjl
          have cj := M.cell hkB hjl
          rw [HBk.out.1, upF_same, List.getElem?_eq_getElem (by simp [rowB, HXl.out]; exact hjl)] at cj
          have fz := World.ownsRow.frozenAt (M.inn k hkB) j
          rw [HBk.out.1] at fz
          have M' := M.set (by decide) hkB j (.bool (decide (X.getD j 0 ≤ e)))
          rw [HBk.out.1, upF_same, rowB_succ] at M'
          have M'' := M'.congr (T' := upF (fun v => (reachR g s e v).map Value.bool) k (rowB X e (j + 1))) (fun v _ => by unfold upF; split <;> simp_all)
          have hz' : Zo (wr.setCell ⟨RB, j, none⟩ (.bool (decide (X.getD j 0 ≤ e)))) wo xo g.lives.length xc X := ownsRow_setCell_other hz (by simp [Value.ownBlock]; exact HxRB.out) _
          have hb' := hb.setCell (p := ⟨RB, j, none⟩) (by have := (M.ltI hkB).1; rw [HBk.out.1] at this; exact this) (.bool (decide (X.getD j 0 ≤ e)))
          have HM := hideg M''
          have HZ := hideg hz'
          have HB := hideg hb'
          clear M M' M'' hz hz' hb hb'
          generalize X.getD j 0 = x at *
          generalize (rowB X e j)[j]'(by simp [rowB, HXl.out]; exact hjl) = oldv at cj
          go_wp2
          go_roundw
          case rel => exact ⟨j + 1, by omega, by go_num, HM.out, HZ.out, HB.out⟩
          case measure => simp [intOf]; omega
        · have hjn : j = g.lives.length := by omega
          have hnj : ¬ ((j : Int) < (g.lives.length : Int)) := by omega
          have M' := M.congr (T' := fun v => (reachR g s e v).map Value.bool) (fun v _ => by
            unfold upF
            split
            · rename_i ev
              subst ev
              rw [HRow.out, ← rowB_full, HXl.out, hjn]
            · rfl)
          have HM := hideg M'
          have HB := hideg hb
          clear M M' hz hb hjn
          go_wp2
          go_roundw
          case rel => exact ⟨BL, by rw [HBLl.out]; go_num, HM.out, HB.out⟩
          case measure => simp [intOf]; omega
    · have hbn : bl.length = g.lives.length := by omega
      have hni : ¬ ((bl.length : Int) < (g.lives.length : Int)) := by omega
      have HM := hideg M
      have HBn := hideg hbn
      have HB := hideg hb
      clear M hbn hb hlt hble
      go_wp2
      (try simp only [Exit.inBlock, Exit.then]); refine bodyPost_ret (results_two_e rfl _ _ _) rfl ?_
      exact ⟨_, rfl, bl, HBn.out, HM.out.base HB3.out.bel.size, HB3.out.bel.trans (HB.out.mono HB3.out.bel.size)⟩

end Go.Proofs.Ytanbbkoleekmjag
