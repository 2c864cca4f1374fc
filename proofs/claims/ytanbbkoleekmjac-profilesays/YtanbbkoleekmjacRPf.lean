/-
  What Profile of the reference answers: the map of the times at which one comes.
-/
import Derived.Test.YtanbbkoleekmjacPfB
import Derived.Test.YtanbbkoleekmjacRTld
import Derived.Test.YtanbbkoleekmjacRArrF
import Derived.Test.YtanbbkoleekmjacErRef
namespace Go.Proofs.Ytanbbkoleekmjac
open Go.RowKit

set_option maxRecDepth 100000 in
set_option maxHeartbeats 1000000 in
theorem rProf1_any (g : Gr) (la ea : Option Addr) (lc ec : Nat) (V Q T bg bf bt : Nat) (w : World) (hG : GAt w la ea g) (hp : placeE g (V : Int) (T : Int) = 0) (hQ : Q < g.lives.length)
    (hb : bg < w.heap.size ∧ bf < w.heap.size ∧ bt < w.heap.size)
    (c : (w.cell? ⟨bg, 0, none⟩ = some (.int .i64 g.hor) ∧ w.cell? ⟨bg, 1, none⟩ = some (.slice la g.lives.length lc) ∧ w.cell? ⟨bg, 2, none⟩ = some (.slice ea g.edges.length ec)) ∧ w.cell? ⟨bf, 0, none⟩ = some (.int .i64 (V : Int)) ∧ w.cell? ⟨bt, 0, none⟩ = some (.int .i64 (Q : Int))) :
    Calls Try.prog 53 #[.int .i64 (T : Int), .pointer (some ⟨bg, 0, none⟩), .pointer (some ⟨bf, 0, none⟩), .pointer (some ⟨bt, 0, none⟩)] w fun e w' => e = .returned (.tuple #[.int .i64 ((erF g (V : Int) (T : Int)).1.getD Q 0), .bool (decide ((erF g (V : Int) (T : Int)).1.getD Q 0 < 1099511627776))]) ∧ Below w.heap.size w w' := by
  have HA := hideg (fun W (hb : Below w.heap.size w W) => Arr_fn g la ea lc ec (V : Int) (T : Int) W (hG.below hb) hp)
  have HEq := hideg (arrF_is hG hp)
  have HS := hideg (fun W (hq : Below w.heap.size w W) => (⟨⟨(hq.cell (p := ⟨bg, 0, none⟩) hb.1).trans c.1.1, (hq.cell (p := ⟨bg, 1, none⟩) hb.1).trans c.1.2.1, (hq.cell (p := ⟨bg, 2, none⟩) hb.1).trans c.1.2.2⟩, (hq.cell (p := ⟨bf, 0, none⟩) hb.2.1).trans c.2.1, (hq.cell (p := ⟨bt, 0, none⟩) hb.2.2).trans c.2.2⟩ : (W.cell? ⟨bg, 0, none⟩ = some (.int .i64 g.hor) ∧ W.cell? ⟨bg, 1, none⟩ = some (.slice la g.lives.length lc) ∧ W.cell? ⟨bg, 2, none⟩ = some (.slice ea g.edges.length ec)) ∧ W.cell? ⟨bf, 0, none⟩ = some (.int .i64 (V : Int)) ∧ W.cell? ⟨bt, 0, none⟩ = some (.int .i64 (Q : Int))))
  have hQi : (Q : Int) < (g.lives.length : Int) := by omega
  obtain ⟨x, hx⟩ : ∃ x, x = (erF g (V : Int) (T : Int)).1.getD Q 0 := ⟨_, rfl⟩
  rw [← hx]
  have HX := hideg hx
  clear c hb hG hp hx
  go_enter Try.func53, Try.ntmps53
  go_wp2_with fail
  refine Go.wp_region_held (S := fun W => (W.cell? ⟨bg, 0, none⟩ = some (.int .i64 g.hor) ∧ W.cell? ⟨bg, 1, none⟩ = some (.slice la g.lives.length lc) ∧ W.cell? ⟨bg, 2, none⟩ = some (.slice ea g.edges.length ec)) ∧ W.cell? ⟨bf, 0, none⟩ = some (.int .i64 (V : Int)) ∧ W.cell? ⟨bt, 0, none⟩ = some (.int .i64 (Q : Int))) (by kernel_rfl) ?_
  generalize hw8 : ({ w with drawn := w.drawn + 1 } : World) = w2
  have b2 : Below w.heap.size w w2 := by rw [← hw8]; exact below_drewN (Below.refl _ _) 1
  have hS0 := HS.out w2 b2
  clear hw8
  refine take_lit (i := 0) (v := ?_) rfl (by kernel_rfl) (by kernel_rfl) (by kernel_rfl) (fun _ _ _ h => h) (Or.inl ⟨by rfl, ?hy0⟩) (by assumption) ?_
  case hy0 => (intro w hSw; (try dsimp only at hSw); go_simp; try with_reducible rfl)
  try simp only [Act.put, List.setIfInBounds_toArray, List.set_cons_zero, List.set_cons_succ]
  refine take_lit (i := 1) (v := ?_) rfl (by kernel_rfl) (by kernel_rfl) (by kernel_rfl) (fun _ _ _ h => h) (Or.inl ⟨by rfl, ?hy1⟩) (by assumption) ?_
  case hy1 => (intro w hSw; (try dsimp only at hSw); go_simp; try with_reducible rfl)
  try simp only [Act.put, List.setIfInBounds_toArray, List.set_cons_zero, List.set_cons_succ]
  refine take_lit (i := 2) (v := ?_) rfl (by kernel_rfl) (by kernel_rfl) (by kernel_rfl) (fun _ _ _ h => h) (Or.inl ⟨by rfl, ?hy2⟩) (by assumption) ?_
  case hy2 => (intro w hSw; (try dsimp only at hSw); go_simp; try with_reducible rfl)
  try simp only [Act.put, List.setIfInBounds_toArray, List.set_cons_zero, List.set_cons_succ]
  refine take_lit (i := 4) (v := ?_) rfl (by kernel_rfl) (by kernel_rfl) (by kernel_rfl) (fun _ _ _ h => h) (Or.inl ⟨by rfl, ?hy4⟩) (by assumption) ?_
  case hy4 => (intro w hSw; (try dsimp only at hSw); go_simp; try with_reducible rfl)
  try simp only [Act.put, List.setIfInBounds_toArray, List.set_cons_zero, List.set_cons_succ]
  refine next_lit (i := 3) rfl (by kernel_rfl) (fun K hK => ?_)
  go_simp
  refine (HA.out _ b2).mono ?_
  rintro r w3 ⟨gq, cap, rfl, hz, _, hb3⟩
  have b3 := ptg b2 hb3
  have hS3 := HS.out w3 b3
  refine hK.out _ _ hS3 (fun _ => ?_)
  clear hK K hS0 hb3 b2
  try simp only [Act.put, List.setIfInBounds_toArray, List.set_cons_zero, List.set_cons_succ]
  have xq := Zo.cell hz hQ
  rw [HEq.out, ← HX.out] at xq
  clear hz
  refine next_lit (i := 5) rfl (by kernel_rfl) (fun K hK => ?_)
  go_simp
  refine hK.out _ _ hS3 (fun _ => ?_)
  clear hK K
  try simp only [Act.put, List.setIfInBounds_toArray, List.set_cons_zero, List.set_cons_succ]
  refine next_lit (i := 6) rfl (by kernel_rfl) (fun K hK => ?_)
  go_simp
  refine hK.out _ _ hS3 (fun _ => ?_)
  clear hK K xq
  try simp only [Act.put, List.setIfInBounds_toArray, List.set_cons_zero, List.set_cons_succ]
  have hSw := hS3
  refine take_lit (i := 7) (v := ?_) rfl (by kernel_rfl) (by kernel_rfl) (by kernel_rfl) (fun _ _ _ h => h) (Or.inl ⟨by rfl, ?hy7⟩) (by assumption) ?_
  case hy7 => (intro w hSw; (try dsimp only at hSw); go_simp; try with_reducible rfl)
  try simp only [Act.put, List.setIfInBounds_toArray, List.set_cons_zero, List.set_cons_succ]
  refine wpAnyH_done (by kernel_rfl) ?_ _
  clear hS3 hSw
  go_wp2
  go_ret2
  exact ⟨rfl, b3⟩

set_option maxRecDepth 100000 in
set_option maxHeartbeats 1000000 in
theorem rProf_any (g : Gr) (la ea : Option Addr) (lc ec : Nat) (V Q : Nat) (w : World) (hG : GAt w la ea g) (h0 : gChk g = 0) (hV : V < g.lives.length) (hQ : Q < g.lives.length) :
    Calls Try.prog 23 #[.agg #[.int .i64 g.hor, .slice la g.lives.length lc, .slice ea g.edges.length ec], .int .i64 (V : Int), .int .i64 (Q : Int)] w fun r w' => ∃ u m, r = .returned u ∧ (MCan m ∧ ∀ t, tel m t = profF g V Q t) ∧ w'.ownsRow w.heap.size 63 3 u m.length (enc3 m) ∧ Below w.heap.size w w' := by
  obtain ⟨i0, hi, hz0, hz1, hz2⟩ := info_parts Try.infoInt
  have hR := gChk_right h0
  have hhor := hR.hor
  obtain ⟨H, hH⟩ : ∃ H : Nat, g.hor = (H : Int) := ⟨g.hor.toNat, by omega⟩
  have hH1 : 1 ≤ H ∧ H ≤ 100 := by omega
  obtain ⟨w1, hw1⟩ : ∃ x, x = ((w.alloc (.cells #[.int .i64 g.hor, .slice la g.lives.length lc, .slice ea g.edges.length ec] 25)).alloc (.cells #[.int .i64 (V : Int)] 3)).alloc (.cells #[.int .i64 (Q : Int)] 3) := ⟨_, rfl⟩
  have hb1 : Below w.heap.size w w1 := by rw [hw1]; exact ptg (ptg (gal w _) (gal _ _)) (gal _ _)
  have hs1 : w1.heap.size = w.heap.size + 1 + 1 + 1 := by rw [hw1]; simp
  have hS1 : (w1.cell? ⟨w.heap.size, 0, none⟩ = some (.int .i64 g.hor) ∧ w1.cell? ⟨w.heap.size, 1, none⟩ = some (.slice la g.lives.length lc) ∧ w1.cell? ⟨w.heap.size, 2, none⟩ = some (.slice ea g.edges.length ec)) ∧ w1.cell? ⟨w.heap.size + 1, 0, none⟩ = some (.int .i64 (V : Int)) ∧ w1.cell? ⟨w.heap.size + 1 + 1, 0, none⟩ = some (.int .i64 (Q : Int)) := by
    obtain ⟨wA, hwA⟩ : ∃ x, x = w.alloc (.cells #[.int .i64 g.hor, .slice la g.lives.length lc, .slice ea g.edges.length ec] 25) := ⟨_, rfl⟩
    obtain ⟨wB, hwB⟩ : ∃ x, x = wA.alloc (.cells #[.int .i64 (V : Int)] 3) := ⟨_, rfl⟩
    have sA : wA.heap.size = w.heap.size + 1 := by rw [hwA]; simp
    have sB : wB.heap.size = w.heap.size + 1 + 1 := by rw [hwB]; simp [sA]
    rw [← hwA, ← hwB] at hw1
    have bAB : Below wA.heap.size wA wB := by rw [hwB]; exact gal wA _
    have bB1 : Below wB.heap.size wB w1 := by rw [hw1]; exact gal wB _
    have bA1 := ptg bAB bB1
    refine ⟨⟨?_, ?_, ?_⟩, ?_, ?_⟩
    · rw [bA1.cell (p := ⟨w.heap.size, 0, none⟩) (by simp only; omega), hwA]; exact new_cell rfl rfl
    · rw [bA1.cell (p := ⟨w.heap.size, 1, none⟩) (by simp only; omega), hwA]; exact new_cell rfl rfl
    · rw [bA1.cell (p := ⟨w.heap.size, 2, none⟩) (by simp only; omega), hwA]; exact new_cell rfl rfl
    · rw [bB1.cell (p := ⟨w.heap.size + 1, 0, none⟩) (by simp only; omega), hwB]; exact new_cell sA.symm rfl
    · rw [hw1]; exact new_cell sB.symm rfl
  have HP : Hid (∀ t, t ∈ intsL 0 (H + 1) → (∃ u ∈ intsL 0 (H + 1), t < u) → ∀ wq, Below w1.heap.size w1 wq → Calls Try.prog 53 (#[.int .i64 t] ++ #[.pointer (some ⟨w.heap.size, 0, none⟩), .pointer (some ⟨w.heap.size + 1, 0, none⟩), .pointer (some ⟨w.heap.size + 1 + 1, 0, none⟩)]) wq fun e w' => (∃ x, e = .returned (.tuple #[.int .i64 x, .bool (profF g V Q t).isSome]) ∧ ∀ y, profF g V Q t = some y → x = y) ∧ Below wq.heap.size wq w') := by
    intro t ht1 ht2 wq hq
    obtain ⟨y, hy, hty⟩ := ht2
    rw [mem_intsL] at ht1 hy
    obtain ⟨T, rfl⟩ : ∃ T : Nat, t = (T : Int) := ⟨t.toNat, by omega⟩
    have hp : placeE g (V : Int) (T : Int) = 0 := placeE_of h0 (by omega) (by omega)
    refine (rProf1_any g la ea lc ec V Q T w.heap.size (w.heap.size + 1) (w.heap.size + 1 + 1) wq (hG.below (ptg hb1 hq)) hp hQ (by have := hq.size; omega) ⟨⟨(hq.cell (p := ⟨w.heap.size, 0, none⟩) (by simp only; omega)).trans hS1.1.1, (hq.cell (p := ⟨w.heap.size, 1, none⟩) (by simp only; omega)).trans hS1.1.2.1, (hq.cell (p := ⟨w.heap.size, 2, none⟩) (by simp only; omega)).trans hS1.1.2.2⟩, (hq.cell (p := ⟨w.heap.size + 1, 0, none⟩) (by simp only; omega)).trans hS1.2.1, (hq.cell (p := ⟨w.heap.size + 1 + 1, 0, none⟩) (by simp only; omega)).trans hS1.2.2⟩).mono ?_
    rintro e w' ⟨rfl, hbe⟩
    have hx : (erF g (V : Int) (T : Int)).1.getD Q 0 = 1099511627776 ∨ (aliveB (T : Int) g.lives (V : Int) = true ∧ (erF g (V : Int) (T : Int)).1.getD Q 0 < 1099511627776) := by
      by_cases ha : aliveB (T : Int) g.lives (V : Int) = true
      · rcases (erF_ok hR (v := (V : Int)) (by omega) ha).1.is Q hQ with e | e
        · exact .inl e
        · right; have := (e.place hR (by omega)).2.2.2; exact ⟨ha, by omega⟩
      · left; rw [erF_away ha, rep_getD _ _ _ hQ]
    unfold profF
    generalize (erF g (V : Int) (T : Int)).1.getD Q 0 = x at *
    refine ⟨⟨x, ?_, fun y hy => ?_⟩, hbe⟩
    · rcases hx with e | ⟨ha, e⟩
      · rw [if_neg (fun h => h.2 e), show decide (x < 1099511627776) = false by simp; omega]; rfl
      · rw [if_pos ⟨ha, by omega⟩, show decide (x < 1099511627776) = true by simpa using e]; rfl
    · split at hy
      · exact Option.some.inj hy
      · cases hy
  have HM : Hid (∀ S m, Ordered (intsL 0 (H + 1)) S → Tl S (profF g V Q) (S.length - 1) m → MCan m ∧ ∀ t, tel m t = profF g V Q t) := by
    intro S m hO hT
    have hl := hR.life _ (List.getElem_mem hV)
    exact ⟨hT.canon, fun t => tl_tel hO (profF_turns hR hV (a := 0) (b := (H : Int)) (by omega) (by omega) (fun x => by rw [hO.mem, mem_intsL]; omega)) hT t⟩
  rw [hH] at hw1 hS1 ⊢
  have HB1 := hideg hb1
  have HS1 := hideg hS1
  have c0 := hS1.1.1
  have hw1s := hw1.symm
  clear hG h0 hR hb1 hS1 hhor hw1 hH
  go_enter Try.func23, Try.ntmps23
  go_wp2_with fail
  clear c0 hw1s
  go_loopw [7, 8] (fun u x wr => ∃ k : Nat, k ≤ H + 1 ∧ x = .int .i64 (k : Int) ∧ wr.ownsRow w1.heap.size 3 1 u k ((intsL 0 k).map (Value.int .i64)) ∧ Below w1.heap.size w1 wr) (fun _ x _ => H + 1 - (intOf x).toNat)
  case atStart => exact ⟨0, Nat.zero_le _, rfl, World.ownsRow_nil _ _ _ _, Below.refl _ _⟩
  case round =>
    obtain ⟨k, hk, rfl, hown, hb⟩ := hrel
    have c0 : wr.cell? ⟨w.heap.size, 0, none⟩ = some (.int .i64 (H : Int)) := (hb.cell (p := ⟨w.heap.size, 0, none⟩) (by simp only; omega)).trans HS1.out.1.1
    have hsz := hb.size
    by_cases hlt : k < H + 1
    · have hle : (k : Int) ≤ (H : Int) := by omega
      have htw : IntKind.i64.wrap ((k : Int) + 1) = (k : Int) + 1 := wrap_nj _ (by omega) (by omega)
      have HSu := hideg (intsL_succ 0 k)
      have HBb := hideg hb
      clear hb
      go_wp2_with (at_builtin; refine wpList_append_own _ rfl _ _ 28 rfl w1.heap.size 3 i0 (.int .i64 0) 1 8 Try.underlying28 hi hz0 hz1 hz2 rfl (by decide) _ _ _ rfl (World.ownsRow.alloc (w := wr) hown _) ⟨wr.heap.size, 0, none⟩ 1 1 [.int .i64 (k : Int)] rfl rfl (cell_one_new _ _ _) (by intro u hu; simp at hu; subst hu; rfl) (by unfold maxLen; omega) (by omega) (by simp; omega) ?_; intro v' w6 hown6 hgrow _)
      have hb6 := (HBb.out.alloc hsz _).grown hgrow (by simp; omega) (fun q hq => (hown.lt q hq).1)
      exact ⟨⟨k + 1, by omega, by go_num, by rw [HSu.out, Int.zero_add]; exact hown6, hb6⟩, by simp [intOf]; omega⟩
    · have hkE : k = H + 1 := by omega
      have hnl : ¬ ((k : Int) ≤ (H : Int)) := by omega
      subst hkE
      obtain ⟨A, hA⟩ : ∃ A, A = intsL 0 (H + 1) := ⟨_, rfl⟩
      have hAl : A.length = H + 1 := by rw [hA, intsL_len]
      rw [← hA] at HP HM hown
      rw [← hAl] at hown
      obtain ⟨ao, ca, rfl, hBd⟩ := rbounds_own hown (by omega)
      have hTl := told_in 53 #[.pointer (some ⟨w.heap.size, 0, none⟩), .pointer (some ⟨w.heap.size + 1, 0, none⟩), .pointer (some ⟨w.heap.size + 1 + 1, 0, none⟩)] (profF g V Q) (fun args w => Try.call53 args w) wr A (fun t h1 h2 wq hq => HP.out t h1 h2 wq (hb.trans (hq.mono hb.size))) ao A.length ca (by omega) hBd
      have HB := hideg (ptg HB1.out hb)
      clear hown hBd hb HP hAl hA
      go_wp2_with fail
      refine hTl.mono ?_
      rintro e w6 ⟨v', S, out, rfl, hO, hT, hown6, hb6⟩
      have HO := hideg (HM.out S out hO hT)
      have HOw := hideg (owns_base2 hown6 HB.out.size)
      have HBF := hideg (ptg HB.out hb6)
      clear hTl hO hT hown6 hb6 HM
      go_wp2
      go_ret
      exact ⟨_, out, rfl, HO.out, HOw.out, HBF.out⟩

end Go.Proofs.Ytanbbkoleekmjac
