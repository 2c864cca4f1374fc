/-
  The law EarlyVia, walked.
-/
import Derived.Test.YthgelfnflafoiafLawEBack
namespace Go.Proofs.Ythgelfnflafoiaf
open Go.RowKit

set_option maxRecDepth 100000 in
set_option maxHeartbeats 400000 in
theorem earlyVia_walk (g : Gr) (la ea : Option Addr) (lc ec : Nat) (v t m : Int) (w : World) (hG : GAt w la ea g) :
    Calls Try.prog 7 #[.agg #[.int .i64 g.hor, .slice la g.lives.length lc, .slice ea g.edges.length ec], .int .i64 v, .int .i64 t, .int .i64 m] w fun r w' => r = .returned (.bool true) ∧ Below w.heap.size w w' := by
  have B0 := gbx_start w g la ea lc ec 25
  have h0 := early0_any (w.alloc (.cells #[.int .i64 g.hor, .slice la g.lives.length lc, .slice ea g.edges.length ec] 25))
  have HA := hideg (fun (v t : Int) W (hb : Below w.heap.size w W) => eArr_any g la ea lc ec v t W (hG.below hb))
  clear hG
  go_enter Try.func7, Try.ntmps7
  go_wp2_with fail
  refine h0.mono ?_
  rintro r w1 ⟨rfl, hb1⟩
  have B1 := B0.below hb1
  have g0 := B1.c0
  have g1 := B1.c1
  have g2 := B1.c2
  have h1 := HA.out v t _ B1.bel
  clear h0 hb1 B0
  go_wp2_with fail
  refine h1.mono ?_
  rintro r w2 ⟨u2, rfl, ho2, hb2⟩
  have B2 := B1.below hb2
  have hbF := B2.bel
  clear g0 g1 g2 h1 hb2 B1
  by_cases e1 : placeE g v t = 0
  case neg =>
    have d1 : (placeE g v t != 0) = true := by simpa using e1
    generalize placeE g v t = n at *
    clear e1 B2 HA ho2
    go_wp2
    go_ret
    exact ⟨rfl, hbF⟩
  obtain ⟨hg0, ⟨hv0, hv1⟩, ht0, ht1⟩ := placeE_zero e1
  have hR := gChk_right hg0
  have hn12 := hR.lvs
  rw [arrA_ok e1, (erF_len _ _ _).1] at ho2
  rw [e1]
  by_cases q1 : m < 0
  · clear B2 HA ho2 e1 hg0 hR
    go_wp2
    go_ret
    exact ⟨rfl, hbF⟩
  by_cases q2 : (g.lives.length : Int) ≤ m
  · obtain ⟨ao, cap, hu, hz⟩ := zsAt_of_owns ho2
    rw [(erF_len _ _ _).1] at hu
    subst hu
    clear B2 HA ho2 hz e1 hg0 hR
    go_wp2
    go_ret
    exact ⟨rfl, hbF⟩
  obtain ⟨M, rfl⟩ : ∃ V : Nat, m = (V : Int) := ⟨m.toNat, by omega⟩
  have hM : M < g.lives.length := by omega
  obtain ⟨V, rfl⟩ : ∃ V : Nat, v = (V : Int) := ⟨v.toNat, by omega⟩
  have hV : V < g.lives.length := by omega
  obtain ⟨b2, c2, rfl, hb2, z2⟩ := zs_cell ho2 hM
  have HO2 := hideg ho2
  by_cases q3 : (erF g (V : Int) t).1.getD M 0 = 1099511627776
  · rw [q3] at z2
    clear B2 HA ho2 HO2 e1 hg0 hR q3
    go_wp2
    go_ret
    exact ⟨rfl, hbF⟩
  obtain ⟨hal, hr, hat, hvia⟩ := arr_via hR hv0 hM q3
  simp only [Int.toNat_natCast] at hat
  have eP : placeE g (M : Int) ((erF g (V : Int) t).1.getD M 0) = 0 := by
    unfold placeE
    rw [if_pos hg0, if_pos ((inR_iff _ _ _).2 (by omega)), if_pos ((inR_iff _ _ _).2 (by omega))]
  have h3 := fun W hb => HA.out (M : Int) ((erF g (V : Int) t).1.getD M 0) W hb
  rw [eP, arrA_ok eP, (erF_len _ _ _).1] at h3
  have d3 : ((erF g (V : Int) t).1.getD M 0 == 1099511627776) = false := by simpa using q3
  generalize (erF g (M : Int) ((erF g (V : Int) t).1.getD M 0)).1 = xb at *
  generalize (erF g (V : Int) t).1 = xa at *
  obtain ⟨y, hy⟩ : ∃ y, y = xa.getD M 0 := ⟨_, rfl⟩
  rw [← hy] at z2 h3 d3
  have HVia := hideg hvia
  have Hat := hideg hat
  have H3 := hideg h3
  have HB2 := hideg B2
  have g0 := B2.c0
  have g1 := B2.c1
  have g2 := B2.c2
  have hMi : (M : Int) < (g.lives.length : Int) := by omega
  have hVi : (V : Int) < (g.lives.length : Int) := by omega
  clear HA e1 hg0 hR q3 hal hr hat hvia eP hy B2 ho2 h3
  go_wp2_with fail
  refine Go.wp_region_held (S := fun w3 => w3.cell? ⟨w.heap.size, 0, none⟩ = some (.int .i64 g.hor) ∧ w3.cell? ⟨w.heap.size, 1, none⟩ = some (.slice la g.lives.length lc) ∧ w3.cell? ⟨w.heap.size, 2, none⟩ = some (.slice ea g.edges.length ec) ∧ w3.cell? ⟨b2, M, none⟩ = some (.int .i64 y)) (by kernel_rfl) ?_
  generalize hw8 : ({ w2 with drawn := w2.drawn + 1 } : World) = w3
  have B3 : GBx w w3 w.heap.size g la ea lc ec := by rw [← hw8]; exact HB2.out.below (below_drewN (Below.refl _ _) 1)
  have hb23 : Below w2.heap.size w2 w3 := by rw [← hw8]; exact below_drewN (Below.refl _ _) 1
  have z3 := (hb23.cell (p := ⟨b2, M, none⟩) hb2).trans z2
  have hS0 : w3.cell? ⟨w.heap.size, 0, none⟩ = some (.int .i64 g.hor) ∧ w3.cell? ⟨w.heap.size, 1, none⟩ = some (.slice la g.lives.length lc) ∧ w3.cell? ⟨w.heap.size, 2, none⟩ = some (.slice ea g.edges.length ec) ∧ w3.cell? ⟨b2, M, none⟩ = some (.int .i64 y) := ⟨B3.c0, B3.c1, B3.c2, z3⟩
  clear hw8 g0 g1 g2 z2
  refine take_lit (i := 0) (v := ?_) rfl (by kernel_rfl) (by kernel_rfl) (by kernel_rfl) (fun _ _ _ h => h) (Or.inl ⟨by rfl, ?hy0⟩) (by assumption) ?_
  case hy0 => (intro w hSw; (try dsimp only at hSw); go_simp; try with_reducible rfl)
  try simp only [Act.put, List.setIfInBounds_toArray, List.set_cons_zero, List.set_cons_succ]
  refine take_lit (i := 1) (v := ?_) rfl (by kernel_rfl) (by kernel_rfl) (by kernel_rfl) (fun _ _ _ h => h) (Or.inl ⟨by rfl, ?hy1⟩) (by assumption) ?_
  case hy1 => (intro w hSw; (try dsimp only at hSw); go_simp; try with_reducible rfl)
  try simp only [Act.put, List.setIfInBounds_toArray, List.set_cons_zero, List.set_cons_succ]
  refine take_lit (i := 2) (v := ?_) rfl (by kernel_rfl) (by kernel_rfl) (by kernel_rfl) (fun _ _ _ h => h) (Or.inl ⟨by rfl, ?hy2⟩) (by assumption) ?_
  case hy2 => (intro w hSw; (try dsimp only at hSw); go_simp; try with_reducible rfl)
  try simp only [Act.put, List.setIfInBounds_toArray, List.set_cons_zero, List.set_cons_succ]
  refine take_lit (i := 3) (v := ?_) rfl (by kernel_rfl) (by kernel_rfl) (by kernel_rfl) (fun _ _ _ h => h) (Or.inl ⟨by rfl, ?hy3⟩) (by assumption) ?_
  case hy3 => (intro w hSw; (try dsimp only at hSw); go_simp; try with_reducible rfl)
  try simp only [Act.put, List.setIfInBounds_toArray, List.set_cons_zero, List.set_cons_succ]
  refine take_lit (i := 4) (v := ?_) rfl (by kernel_rfl) (by kernel_rfl) (by kernel_rfl) (fun _ _ _ h => h) (Or.inl ⟨by rfl, ?hy4⟩) (by assumption) ?_
  case hy4 => (intro w hSw; (try dsimp only at hSw); go_simp; try with_reducible rfl)
  try simp only [Act.put, List.setIfInBounds_toArray, List.set_cons_zero, List.set_cons_succ]
  refine take_lit (i := 5) (v := ?_) rfl (by kernel_rfl) (by kernel_rfl) (by kernel_rfl) (fun _ _ _ h => h) (Or.inl ⟨by rfl, ?hy5⟩) (by assumption) ?_
  case hy5 => (intro w hSw; (try dsimp only at hSw); go_simp; try with_reducible rfl)
  try simp only [Act.put, List.setIfInBounds_toArray, List.set_cons_zero, List.set_cons_succ]
  refine next_lit (i := 6) rfl (by kernel_rfl) (fun K hK => ?_)
  go_simp
  refine (H3.out _ B3.bel).mono ?_
  rintro r w4 ⟨u4, rfl, ho4, hb4⟩
  have B4 := B3.below hb4
  have hS4 : w4.cell? ⟨w.heap.size, 0, none⟩ = some (.int .i64 g.hor) ∧ w4.cell? ⟨w.heap.size, 1, none⟩ = some (.slice la g.lives.length lc) ∧ w4.cell? ⟨w.heap.size, 2, none⟩ = some (.slice ea g.edges.length ec) ∧ w4.cell? ⟨b2, M, none⟩ = some (.int .i64 y) := ⟨B4.c0, B4.c1, B4.c2, (hb4.cell (p := ⟨b2, M, none⟩) (Nat.lt_of_lt_of_le hb2 hb23.size)).trans z3⟩
  refine hK.out _ _ hS4 (fun _ => ?_)
  have ho2 := ownsRow_below (ownsRow_below HO2.out hb23) hb4
  clear hK K hS0 B3 z3 hb23 hb4 HB2 HO2 H3
  try simp only [Act.put, List.setIfInBounds_toArray, List.set_cons_zero, List.set_cons_succ]
  refine take_lit (i := 7) (v := ?_) rfl (by kernel_rfl) (by kernel_rfl) (by kernel_rfl) (fun _ _ _ h => h) (Or.inl ⟨by rfl, ?hy7⟩) (by assumption) ?_
  case hy7 => (intro w hSw; (try dsimp only at hSw); go_simp; try with_reducible rfl)
  try simp only [Act.put, List.setIfInBounds_toArray, List.set_cons_zero, List.set_cons_succ]
  refine take_lit (i := 8) (v := ?_) rfl (by kernel_rfl) (by kernel_rfl) (by kernel_rfl) (fun _ _ _ h => h) (Or.inl ⟨by rfl, ?hy8⟩) (by assumption) ?_
  case hy8 => (intro w hSw; (try dsimp only at hSw); go_simp; try with_reducible rfl)
  try simp only [Act.put, List.setIfInBounds_toArray, List.set_cons_zero, List.set_cons_succ]
  refine take_lit (i := 9) (v := ?_) rfl (by kernel_rfl) (by kernel_rfl) (by kernel_rfl) (fun _ _ _ h => h) (Or.inl ⟨by rfl, ?hy9⟩) (by assumption) ?_
  case hy9 => (intro w hSw; (try dsimp only at hSw); go_simp; try with_reducible rfl)
  try simp only [Act.put, List.setIfInBounds_toArray, List.set_cons_zero, List.set_cons_succ]
  refine take_lit (i := 10) (v := ?_) rfl (by kernel_rfl) (by kernel_rfl) (by kernel_rfl) (fun _ _ _ h => h) (Or.inl ⟨by rfl, ?hy10⟩) (by assumption) ?_
  case hy10 => (intro w hSw; (try dsimp only at hSw); go_simp; try with_reducible rfl)
  try simp only [Act.put, List.setIfInBounds_toArray, List.set_cons_zero, List.set_cons_succ]
  refine take_lit (i := 11) (v := ?_) rfl (by kernel_rfl) (by kernel_rfl) (by kernel_rfl) (fun _ _ _ h => h) (Or.inl ⟨by rfl, ?hy11⟩) (by assumption) ?_
  case hy11 => (intro w hSw; (try dsimp only at hSw); go_simp; try with_reducible rfl)
  try simp only [Act.put, List.setIfInBounds_toArray, List.set_cons_zero, List.set_cons_succ]
  refine wpAnyH_done (by kernel_rfl) ?_ _
  have hbG := B4.bel
  have HO2 := hideg ho2
  have HO4 := hideg ho4
  obtain ⟨b4, c4, rfl, _⟩ := zs_cell ho4 hM
  clear hS4 B4 ho2 ho4 hbF
  go_wp2_with fail
  go_loopw [55] (fun i wr => ∃ k : Nat, k ≤ g.lives.length ∧ i = .int .i64 k ∧ Below w4.heap.size w4 wr) (fun i _ => g.lives.length - (intOf i).toNat)
  case atStart => exact ⟨0, Nat.zero_le _, rfl, Below.refl _ _⟩
  case round =>
    obtain ⟨k, hk, rfl, hb⟩ := hrel
    by_cases hkl : k < g.lives.length
    · have hki : (k : Int) < (g.lives.length : Int) := by omega
      have hkw : IntKind.i64.wrap ((k : Int) + 1) = (k : Int) + 1 := wrap_nj _ (by omega) (by omega)
      have q2 := Zo.cell (ownsRow_below HO2.out hb) hkl
      have q3 := Zo.cell (ownsRow_below HO4.out hb) hkl
      have hL := HVia.out k hkl
      generalize xa.getD k 0 = y2 at *
      generalize xb.getD k 0 = y3 at *
      have dL : decide (y3 < y2) = false := by simp; omega
      have HBd : Hid (∀ N, Below w4.heap.size w4 (wr.drewN N)) := fun N => below_drewN hb N
      clear hL
      go_wp2_with fail
      go_quiet (fail)
      clear q2 q3
      go_wp2
      go_roundw
      case rel => exact ⟨k + 1, by omega, by go_num, HBd.out _⟩
      case measure => simp [intOf]; omega
    · have hbF := ptg hbG hb
      have q2 := Zo.cell (ownsRow_below HO2.out hb) hV
      rw [Hat.out] at q2
      go_wp2
      go_ret
      exact ⟨rfl, hbF⟩

end Go.Proofs.Ythgelfnflafoiaf
