/-
  What numbers of the reference answers.
-/
import Derived.Test.YteibdmfcclkjpacPkMath
import Derived.Test.YteibdmfcclkjpacGRow
import Derived.Test.YteibdmfcclkjpacPop
namespace Go.Proofs.Yteibdmfcclkjpac
open Go.RowKit

theorem wrap_q (n : Int) (h0 : -9223372036854775808 ≤ n) (h1 : n < 9223372036854775808) : IntKind.i64.wrap n = n := by simp [IntKind.wrap, IntKind.bits, IntKind.signed]; omega
theorem new_cellP {W : World} {cs : Array Value} {T : TypeId} {b j : Nat} {x : Value} (hb : b = W.heap.size) (hx : cs[j]? = some x) : (W.alloc (.cells cs T)).cell? ⟨b, j, none⟩ = some x := by subst hb; simp [hx]
theorem owns_low {w : World} {B B' e size n : Nat} {v : Value} {xs : List Value} (h : w.ownsRow B e size v n xs) (hB : B' ≤ B) : w.ownsRow B' e size v n xs := by
  refine ⟨h.1, ?_⟩
  rcases h.2 with h0 | ⟨g, cap, cur, e1, hb, h3⟩
  · exact .inl h0
  · exact .inr ⟨g, cap, cur, e1, by omega, h3⟩
theorem Try.infoIntP : (Try.prog.info? 3).map (fun i => (i.zero, i.size, i.bytes)) = some (some (.int .i64 0), 1, 8) := by kernel_rfl

set_option maxRecDepth 100000 in
set_option maxHeartbeats 1000000 in
theorem PNums_any (g : Gr) (la ea : Option Addr) (lc ec : Nat) (w : World) (hG : GAt w la ea g) (hR : Right g) :
    Calls Try.prog 70 #[.agg #[.int .i64 g.hor, .slice la g.lives.length lc, .slice ea g.edges.length ec]] w fun r w' => ∃ u, r = .returned u ∧ w'.ownsRow w.heap.size 3 1 u (nums g).length ((nums g).map (Value.int .i64)) ∧ Below w.heap.size w w' := by
  obtain ⟨in', hin, hn0, hn1, hn2⟩ := info_parts Try.infoIntP
  have hl12 := hR.lvs
  have he30 := hR.eds
  obtain ⟨wA, hwA⟩ : ∃ x, x = w.alloc (.cells #[.int .i64 g.hor, .slice la g.lives.length lc, .slice ea g.edges.length ec] 25) := ⟨_, rfl⟩
  have hsA : wA.heap.size = w.heap.size + 1 := by rw [hwA]; simp
  have hbA : Below w.heap.size w wA := by rw [hwA]; exact gal w _
  obtain ⟨B, hB⟩ : ∃ B, B = wA.heap.size := ⟨_, rfl⟩
  have HGx : Hid (∀ W, Below B wA W → W.cell? ⟨w.heap.size, 0, none⟩ = some (.int .i64 g.hor) ∧ W.cell? ⟨w.heap.size, 1, none⟩ = some (.slice la g.lives.length lc) ∧ W.cell? ⟨w.heap.size, 2, none⟩ = some (.slice ea g.edges.length ec) ∧ GAt W la ea g ∧ Below w.heap.size w W) := by
    intro W hb
    have c : ∀ j x, #[Value.int .i64 g.hor, .slice la g.lives.length lc, .slice ea g.edges.length ec][j]? = some x → W.cell? ⟨w.heap.size, j, none⟩ = some x := by
      intro j x hx
      rw [hb.cell (p := ⟨w.heap.size, j, none⟩) (by simp only; omega), hwA]
      exact new_cellP rfl hx
    have hW : Below w.heap.size w W := hbA.trans (hb.mono (by omega))
    exact ⟨c 0 _ rfl, c 1 _ rfl, c 2 _ rfl, hG.below hW, hW⟩
  obtain ⟨w2, hw2⟩ : ∃ x, x = wA.alloc (.cells #[.int .i64 g.hor, .int .i64 (g.lives.length : Int), .int .i64 (g.edges.length : Int)] 3) := ⟨_, rfl⟩
  have hb2 : Below B wA w2 := by rw [hw2, hB]; exact gal wA _
  have hN2 : w2.ownsRow B 3 1 (.slice (some ⟨B, 0, none⟩) 3 3) (numsA g 0).length ((numsA g 0).map (Value.int .i64)) := by
    refine ⟨rfl, .inr ⟨B, 3, #[.int .i64 g.hor, .int .i64 (g.lives.length : Int), .int .i64 (g.edges.length : Int)], rfl, Nat.le_refl _, ?_, Nat.le_refl _, by unfold maxLen; omega, rfl, rfl⟩⟩
    rw [hw2, hB]; exact heap_alloc_new wA _
  have hwB : w.heap.size < B := by omega
  have HRt := hideg hR
  have HWA := hideg hwA.symm
  have HW2 := hideg hw2.symm
  have HBA : Hid (B = w.heap.size + 1) := by show _ = _; omega
  have HN2 := hideg hN2
  have HBW := hideg hB
  have Hb2 := hideg hb2
  obtain ⟨q0, q1, q2, _⟩ := HGx.out wA (Below.refl _ _)
  rw [← HWA.out] at q0 q1 q2
  have HLb : Hid (∀ b off, la = some ⟨b, off, none⟩ → 0 < g.lives.length → b < w.heap.size) := by
    intro b off e hl
    rcases hG.lv with h | ⟨b', off', e', h1, _⟩
    · rw [h] at hl; simp at hl
    · rw [e] at e'; cases e'; exact h1
  have HEd : Hid (∀ i (h : i < g.edges.length), ∃ eb eof lo lcap, ea = some ⟨eb, eof, none⟩ ∧ eb < w.heap.size ∧ (∀ b off, lo = some ⟨b, off, none⟩ → 0 < g.edges[i].2.2.length → b < w.heap.size) ∧ ∀ W, Below w.heap.size w W → W.cell? ⟨eb, eof + i * 3, none⟩ = some (.int .i64 g.edges[i].1) ∧ W.cell? ⟨eb, eof + i * 3 + 1, none⟩ = some (.int .i64 g.edges[i].2.1) ∧ W.cell? ⟨eb, eof + i * 3 + 2, none⟩ = some (.slice lo g.edges[i].2.2.length lcap) ∧ LgAt W lo g.edges[i].2.2) := by
    intro i h
    rcases hG.ed with h0 | ⟨eb, eof, rfl, heb, hce⟩
    · rw [h0] at h; simp at h
    · obtain ⟨c0, c1, lo, lcap, c2, hL, _, _⟩ := hce i h
      refine ⟨eb, eof, lo, lcap, rfl, heb, fun b off e hl => ?_, fun W hb => ⟨(hb.cell (p := ⟨eb, eof + i * 3, none⟩) heb).trans c0, (hb.cell (p := ⟨eb, eof + i * 3 + 1, none⟩) heb).trans c1, (hb.cell (p := ⟨eb, eof + i * 3 + 2, none⟩) heb).trans c2, hL.below hb⟩⟩
      rcases hL with h | ⟨b', off', e', h1, _⟩
      · rw [h] at hl; simp at hl
      · rw [e] at e'; cases e'; exact h1
  clear hG hR hbA hwA hw2 hb2 hN2 hsA hB
  go_enter Try.func70, Try.ntmps70
  go_wp2_with fail
  rw [HWA.out, HW2.out, ← HBA.out]
  clear q0 q1 q2 HWA HW2
  go_loopw [3, 4] (fun o i wr => ∃ k : Nat, k ≤ g.lives.length ∧ i = .int .i64 (k : Int) ∧ wr.ownsRow B 3 1 o (numsA g k).length ((numsA g k).map (Value.int .i64)) ∧ Below B wA wr) (fun _ i _ => g.lives.length - (intOf i).toNat)
  case atStart => exact ⟨0, Nat.zero_le _, rfl, HN2.out, Hb2.out⟩
  case round =>
    clear HN2 Hb2
    obtain ⟨k, hk, rfl, hN, hb⟩ := hrel
    obtain ⟨q0, q1, q2, hGA, hbw⟩ := HGx.out wr hb
    have hnl := numsA_len g k
    obtain ⟨vo, vc, rfl, _, _⟩ := row_form hN
    by_cases hlt : k < g.lives.length
    · have hki : (k : Int) < (g.lives.length : Int) := by omega
      have hkw : IntKind.i64.wrap ((k : Int) + 1) = (k : Int) + 1 := wrap_q _ (by omega) (by omega)
      have HS := hideg (numsA_succ hlt)
      rcases hGA.lv with h0 | ⟨lb, lof, rfl, hlb, hc⟩
      · rw [h0] at hlt; simp at hlt
      obtain ⟨c0, c1⟩ := IvAt.get hlt hc
      generalize g.lives[k] = pp at *
      obtain ⟨pf, pt⟩ := pp
      simp only at c0 c1 HS
      have HN := hideg hN
      have HB := hideg hb
      generalize hn : (numsA g k).length = n at *
      have hBr : B ≤ wr.heap.size := by have := hb.size; have := HBW.out; omega
      have hwl : w.heap.size < wr.heap.size := by omega
      have hne0 : some w.heap.size ≠ (Value.slice vo n vc).ownBlock := fun e => by have h1 := (hN.lt w.heap.size e.symm).1; omega
      have hlbB : lb < B := by have := HLb.out lb lof rfl (by omega); omega
      have hne1 : some lb ≠ (Value.slice vo n vc).ownBlock := fun e => by have h1 := (hN.lt lb e.symm).1; omega
      clear hN hb hGA hc hbw
      go_wp2_with fail
      refine Go.wp_region_held (S := fun w' => w'.cell? ⟨w.heap.size, 1, none⟩ = some (.slice (some ⟨lb, lof, none⟩) g.lives.length lc) ∧ w'.cell? ⟨lb, lof + k * 2, none⟩ = some (.int .i64 pf) ∧ w'.cell? ⟨lb, lof + k * 2 + 1, none⟩ = some (.int .i64 pt)) (by kernel_rfl) ?_
      generalize hw8 : ({ wr with drawn := wr.drawn + 1 } : World) = wy
      have hby : Below wr.heap.size wr wy := by rw [← hw8]; exact below_drewN (Below.refl _ _) 1
      have hS0 : wy.cell? ⟨w.heap.size, 1, none⟩ = some (.slice (some ⟨lb, lof, none⟩) g.lives.length lc) ∧ wy.cell? ⟨lb, lof + k * 2, none⟩ = some (.int .i64 pf) ∧ wy.cell? ⟨lb, lof + k * 2 + 1, none⟩ = some (.int .i64 pt) := ⟨(hby.cell (p := ⟨w.heap.size, 1, none⟩) hwl).trans q1, (hby.cell (p := ⟨lb, lof + k * 2, none⟩) hlb).trans c0, (hby.cell (p := ⟨lb, lof + k * 2 + 1, none⟩) hlb).trans c1⟩
      clear hw8
      refine take_lit (i := 0) (v := ?_) rfl (by kernel_rfl) (by kernel_rfl) (by kernel_rfl) (fun _ _ _ h => h) (Or.inl ⟨by rfl, ?hy0⟩) (by assumption) ?_
      case hy0 => (intro w hSw; (try dsimp only at hSw); go_simp; try with_reducible rfl)
      try simp only [Act.put, List.setIfInBounds_toArray, List.set_cons_zero, List.set_cons_succ]
      refine take_lit (i := 1) (v := ?_) rfl (by kernel_rfl) (by kernel_rfl) (by kernel_rfl) (fun _ _ _ h => h) (Or.inl ⟨by rfl, ?hy1⟩) (by assumption) ?_
      case hy1 => (intro w hSw; (try dsimp only at hSw); go_simp; try with_reducible rfl)
      try simp only [Act.put, List.setIfInBounds_toArray, List.set_cons_zero, List.set_cons_succ]
      refine take_lit (i := 2) (v := ?_) rfl (by kernel_rfl) (by kernel_rfl) (by kernel_rfl) (fun _ _ _ h => h) (Or.inl ⟨by rfl, ?hy2⟩) (by assumption) ?_
      case hy2 => (intro w hSw; (try dsimp only at hSw); go_simp; try with_reducible rfl)
      try simp only [Act.put, List.setIfInBounds_toArray, List.set_cons_zero, List.set_cons_succ]
      refine take_lit (i := 3) (v := ?_) rfl (by kernel_rfl) (by kernel_rfl) (by kernel_rfl) (fun _ _ _ h => h) (Or.inl ⟨by rfl, ?hy3⟩) (by assumption) ?_
      case hy3 => (intro w hSw; (try dsimp only at hSw); go_simp; try with_reducible rfl)
      try simp only [Act.put, List.setIfInBounds_toArray, List.set_cons_zero, List.set_cons_succ]
      refine take_lit (i := 4) (v := ?_) rfl (by kernel_rfl) (by kernel_rfl) (by kernel_rfl) (fun _ _ _ h => h) (Or.inl ⟨by rfl, ?hy4⟩) (by assumption) ?_
      case hy4 => (intro w hSw; (try dsimp only at hSw); go_simp; try with_reducible rfl)
      try simp only [Act.put, List.setIfInBounds_toArray, List.set_cons_zero, List.set_cons_succ]
      refine take_lit (i := 5) (v := ?_) rfl (by kernel_rfl) (by kernel_rfl) (by kernel_rfl) (fun _ _ _ h => h) (Or.inl ⟨by rfl, ?hy5⟩) (by assumption) ?_
      case hy5 => (intro w hSw; (try dsimp only at hSw); go_simp; try with_reducible rfl)
      try simp only [Act.put, List.setIfInBounds_toArray, List.set_cons_zero, List.set_cons_succ]
      refine take_lit (i := 6) (v := ?_) rfl (by kernel_rfl) (by kernel_rfl) (by kernel_rfl) (fun _ _ _ h => h) (Or.inl ⟨by rfl, ?hy6⟩) (by assumption) ?_
      case hy6 => (intro w hSw; (try dsimp only at hSw); go_simp; try with_reducible rfl)
      try simp only [Act.put, List.setIfInBounds_toArray, List.set_cons_zero, List.set_cons_succ]
      refine take_lit (i := 7) (v := ?_) rfl (by kernel_rfl) (by kernel_rfl) (by kernel_rfl) (fun _ _ _ h => h) (Or.inl ⟨by rfl, ?hy7⟩) (by assumption) ?_
      case hy7 => (intro w hSw; (try dsimp only at hSw); go_simp; try with_reducible rfl)
      try simp only [Act.put, List.setIfInBounds_toArray, List.set_cons_zero, List.set_cons_succ]
      refine take_lit (i := 8) (v := ?_) rfl (by kernel_rfl) (by kernel_rfl) (by kernel_rfl) (fun _ _ _ h => h) (Or.inl ⟨by rfl, ?hy8⟩) (by assumption) ?_
      case hy8 => (intro w hSw; (try dsimp only at hSw); go_simp; try with_reducible rfl)
      try simp only [Act.put, List.setIfInBounds_toArray, List.set_cons_zero, List.set_cons_succ]
      refine take_lit (i := 9) (v := ?_) rfl (by kernel_rfl) (by kernel_rfl) (by kernel_rfl) (fun _ _ _ h => h) (Or.inl ⟨by rfl, ?hy9⟩) (by assumption) ?_
      case hy9 => (intro w hSw; (try dsimp only at hSw); go_simp; try with_reducible rfl)
      try simp only [Act.put, List.setIfInBounds_toArray, List.set_cons_zero, List.set_cons_succ]
      refine take_lit (i := 10) (v := ?_) rfl (by kernel_rfl) (by kernel_rfl) (by kernel_rfl) (fun _ _ _ h => h) (Or.inl ⟨by rfl, ?hy10⟩) (by assumption) ?_
      case hy10 => (intro w hSw; (try dsimp only at hSw); go_simp; try with_reducible rfl)
      try simp only [Act.put, List.setIfInBounds_toArray, List.set_cons_zero, List.set_cons_succ]
      refine take_lit (i := 11) (v := ?_) rfl (by kernel_rfl) (by kernel_rfl) (by kernel_rfl) (fun _ _ _ h => h) (Or.inl ⟨by rfl, ?hy11⟩) (by assumption) ?_
      case hy11 => (intro w hSw; (try dsimp only at hSw); go_simp; try with_reducible rfl)
      try simp only [Act.put, List.setIfInBounds_toArray, List.set_cons_zero, List.set_cons_succ]
      refine take_lit (i := 12) (v := ?_) rfl (by kernel_rfl) (by kernel_rfl) (by kernel_rfl) (fun _ _ _ h => h) (Or.inl ⟨by rfl, ?hy12⟩) (by assumption) ?_
      case hy12 => (intro w hSw; (try dsimp only at hSw); go_simp; try with_reducible rfl)
      try simp only [Act.put, List.setIfInBounds_toArray, List.set_cons_zero, List.set_cons_succ]
      refine next_lit (i := 13) rfl (by kernel_rfl) (fun KK hK => ?_)
      go_simp
      have hwa : Below wr.heap.size wr (wy.alloc (.cells #[.int .i64 pf, .int .i64 pt] 3)) := hby.alloc hby.size _
      have n2 := (hwa.cell (p := ⟨w.heap.size, 1, none⟩) hwl).trans q1
      have n3 := (hwa.cell (p := ⟨lb, lof + k * 2, none⟩) hlb).trans c0
      have n4 := (hwa.cell (p := ⟨lb, lof + k * 2 + 1, none⟩) hlb).trans c1
      refine hK.out _ _ ⟨n2, n3, n4⟩ (fun _ => ?_)
      clear hK KK hS0
      try simp only [Act.put, List.setIfInBounds_toArray, List.set_cons_zero, List.set_cons_succ]
      refine next_lit (i := 14) rfl (by kernel_rfl) (fun KK hK => ?_)
      have hN0 := ownsRow_below HN.out hwa
      have hzy := hby.size
      refine step_append_lies _ (by rfl) _ _ _ (by rfl) B 3 in' _ 1 8 Try.underlying28 hin hn0 hn1 hn2 rfl (by omega) (.slice vo n vc) n ((numsA g k).map (Value.int .i64)) (by rfl) hN0 ⟨wy.heap.size, 0, none⟩ 2 2 [.int .i64 pf, .int .i64 pt] (by rfl) (by rfl) (World.news_of_block (cs := #[.int .i64 pf, .int .i64 pt]) (t := 3) (fr := (0, 0)) (heap_alloc_new wy _)) (by simp [Value.oneCell']) (by omega) (by unfold maxLen; omega) (by omega) (by simp; omega) (wy.heap.size + 1) (by simp) ?_
      intro gg cap1 w4 hown1 hgrow hat hltg
      have x2 : w4.cell? ⟨w.heap.size, 1, none⟩ = some (.slice (some ⟨lb, lof, none⟩) g.lives.length lc) := by rw [hgrow.cell_far _ (Nat.lt_of_lt_of_le hwl hwa.size) hne0]; exact n2
      have x3 : w4.cell? ⟨lb, lof + k * 2, none⟩ = some (.int .i64 pf) := by rw [hgrow.cell_far _ (Nat.lt_of_lt_of_le hlb hwa.size) hne1]; exact n3
      have x4 : w4.cell? ⟨lb, lof + k * 2 + 1, none⟩ = some (.int .i64 pt) := by rw [hgrow.cell_far _ (Nat.lt_of_lt_of_le hlb hwa.size) hne1]; exact n4
      have HB4 := hideg ((HB.out.trans (hwa.mono hBr)).grown hgrow (Nat.le_trans hBr hwa.size) (fun j hj => (hN0.lt j hj).1))
      have HN4 : Hid (w4.ownsRow B 3 1 (.slice (some ⟨gg, 0, none⟩) (n + 2) cap1) (numsA g (k + 1)).length ((numsA g (k + 1)).map (Value.int .i64))) := by
        show World.ownsRow _ _ _ _ _ _ _
        rw [HS.out, List.length_append, List.map_append, hn]; exact hown1
      refine hK.out _ _ ⟨x2, x3, x4⟩ (fun _ => ?_)
      clear hK KK hwa n2 n3 n4 hgrow hown1 hat hltg hN0
      try simp only [Act.put, List.setIfInBounds_toArray, List.set_cons_zero, List.set_cons_succ]
      have hS4 : w4.cell? ⟨w.heap.size, 1, none⟩ = some (.slice (some ⟨lb, lof, none⟩) g.lives.length lc) ∧ w4.cell? ⟨lb, lof + k * 2, none⟩ = some (.int .i64 pf) ∧ w4.cell? ⟨lb, lof + k * 2 + 1, none⟩ = some (.int .i64 pt) := ⟨x2, x3, x4⟩
      refine take_lit (i := 15) (v := ?_) rfl (by kernel_rfl) (by kernel_rfl) (by kernel_rfl) (fun _ _ _ h => h) (Or.inl ⟨by rfl, ?hy15⟩) (by assumption) ?_
      case hy15 => (intro w hSw; (try dsimp only at hSw); go_simp; try with_reducible rfl)
      try simp only [Act.put, List.setIfInBounds_toArray, List.set_cons_zero, List.set_cons_succ]
      refine wpAnyH_done (by kernel_rfl) ?_ _
      clear hS4 x2 x3 x4 q0 q1 q2 c0 c1
      go_wp2
      go_roundw
      case rel => exact ⟨k + 1, by omega, by go_num, HN4.out, HB4.out⟩
      case measure => simp [intOf]; omega
    · have hkn : ¬ ((k : Int) < (g.lives.length : Int)) := by omega
      obtain rfl : k = g.lives.length := by omega
      rw [numsA_all] at hN hnl
      have HN := hideg hN
      have HB := hideg hb
      clear hN hb hGA hbw hlt q0 q2
      rw [numsA_all]
      obtain ⟨wo, hwo⟩ : ∃ x, x = wr := ⟨_, rfl⟩
      subst hwo
      go_wp2_with fail
      clear q1
      go_loopw [3, 5] (fun o i wr => ∃ k : Nat, k ≤ g.edges.length ∧ i = .int .i64 (k : Int) ∧ wr.ownsRow B 3 1 o (numsB g k).length ((numsB g k).map (Value.int .i64)) ∧ Below B wA wr) (fun _ i _ => g.edges.length - (intOf i).toNat)
      case atStart => exact ⟨0, Nat.zero_le _, rfl, HN.out, HB.out⟩
      case round =>
        clear HN HB
        obtain ⟨i, hi, rfl, hN, hb⟩ := hrel
        obtain ⟨q0, q1, q2, hGA, hbw⟩ := HGx.out wr hb
        have hnl := numsB_len HRt.out i
        obtain ⟨vo, vc, rfl, _, _⟩ := row_form hN
        by_cases hlt2 : i < g.edges.length
        · have hii2 : (i : Int) < (g.edges.length : Int) := by omega
          have hiw : IntKind.i64.wrap ((i : Int) + 1) = (i : Int) + 1 := wrap_q _ (by omega) (by omega)
          obtain ⟨eb, eof, lo, lcap, rfl, heb, hlob, hed⟩ := HEd.out i hlt2
          obtain ⟨c0, c1, c2, _⟩ := hed wr hbw
          have hel := (HRt.out.ends _ (List.getElem_mem hlt2)).2.2
          have HLg : Hid (∀ W, Below B wA W → LgAt W lo g.edges[i].2.2) := fun W hW => (hed W (HGx.out W hW).2.2.2.2).2.2.2
          have HC0 := hideg (numsC_zero g i g.edges[i])
          have HCs := hideg (fun j (hj : j < g.edges[i].2.2.length) => numsC_succ (g := g) (k := i) (e := g.edges[i]) (j := j) hj)
          have HCa := hideg (numsC_all hlt2)
          have HCl := hideg (fun j => numsC_len HRt.out i j g.edges[i] hel)
          generalize g.edges[i] = e at *
          obtain ⟨A, C, legs⟩ := e
          simp only at c0 c1 c2 hel HLg HC0 HCs HCa hlob
          obtain ⟨wx, hwx⟩ : ∃ x, x = wr.alloc (.cells #[.int .i64 A, .int .i64 C, .slice lo legs.length lcap] 51) := ⟨_, rfl⟩
          have bx : Below wr.heap.size wr wx := by rw [hwx]; exact gal wr _
          obtain ⟨XB, hXB⟩ : ∃ x, x = wr.heap.size := ⟨_, rfl⟩
          have y0 : wx.cell? ⟨XB, 0, none⟩ = some (.int .i64 A) := by rw [hwx, hXB]; exact new_cellP rfl rfl
          have y1 : wx.cell? ⟨XB, 1, none⟩ = some (.int .i64 C) := by rw [hwx, hXB]; exact new_cellP rfl rfl
          have y2 : wx.cell? ⟨XB, 2, none⟩ = some (.slice lo legs.length lcap) := by rw [hwx, hXB]; exact new_cellP rfl rfl
          have hXl : XB < wx.heap.size := by rw [hwx, hXB]; simp
          have hBr : B ≤ wr.heap.size := by have := hb.size; have := HBW.out; omega
          have hNX : (Value.slice vo (numsB g i).length vc).ownBlock ≠ some XB := fun e => by have := (hN.lt XB e).2; omega
          have HXw : Hid (B ≤ XB) := by show B ≤ XB; omega
          obtain ⟨wb, hwb⟩ : ∃ x, x = wx.alloc (.cells #[.int .i64 A, .int .i64 C, .int .i64 (legs.length : Int)] 3) := ⟨_, rfl⟩
          have bb : Below wx.heap.size wx wb := by rw [hwb]; exact gal wx _
          have bbr : Below wr.heap.size wr wb := bx.trans (bb.mono bx.size)
          have HNb := hideg (ownsRow_below hN bbr)
          have hNew := World.news_of_block (w := wb) (B := wx.heap.size) (cs := #[.int .i64 A, .int .i64 C, .int .i64 (legs.length : Int)]) (t := 3) (fr := (0, 0)) (by rw [hwb]; exact heap_alloc_new wx _)
          have hsx : wx.heap.size = wr.heap.size + 1 := by rw [hwx]; simp
          rw [hsx] at hNew
          have HNew := hideg hNew
          have hbsz : B ≤ wb.heap.size := Nat.le_trans hBr bbr.size
          have HBb := hideg (hb.trans (bbr.mono hBr))
          have hXb := Nat.lt_of_lt_of_le hXl bb.size
          have HY := hideg (⟨(bb.cell (p := ⟨XB, 0, none⟩) hXl).trans y0, (bb.cell (p := ⟨XB, 1, none⟩) hXl).trans y1, (bb.cell (p := ⟨XB, 2, none⟩) hXl).trans y2, hXb⟩ : _ ∧ _ ∧ _ ∧ _)
          have HWX := hideg hwx.symm
          have HWB := hideg hwb.symm
          have HXB := hideg hXB
          clear hN hb hGA hed hbw bx bb bbr hwx hwb y0 y1 y2 hXl hXB hsx hNew
          go_wp2_with (at_builtin; rw [HWX.out]; rw [HWB.out]; refine wpList_append_own_at _ rfl _ _ 28 rfl B 3 in' _ 1 8 Try.underlying28 hin hn0 hn1 hn2 rfl (by decide) _ _ _ rfl HNb.out ⟨wr.heap.size + 1, 0, none⟩ 3 3 [.int .i64 A, .int .i64 C, .int .i64 (legs.length : Int)] rfl rfl HNew.out (by intro u hu; simp at hu; rcases hu with rfl | rfl | rfl <;> rfl) (by unfold maxLen; omega) (by omega) hbsz ?_; intro v' w5 hown5 hgrow _ hat; obtain ⟨vo5, cp5, rfl, _, _⟩ := row_form hown5; have HN5 := hideg hown5; have HGr : Hid (wb.grownBy w5 (Value.slice vo (numsB g i).length vc).ownBlock) := hgrow; have HAt : Hid ((Value.slice vo5 ((numsB g i).length + 3) cp5).ownBlock = (Value.slice vo (numsB g i).length vc).ownBlock ∨ (Value.slice vo5 ((numsB g i).length + 3) cp5).ownBlock = some wb.heap.size) := hat; clear hown5 hgrow hat)
          obtain ⟨wr0, hwr0⟩ : ∃ x, x = wr := ⟨_, rfl⟩
          subst hwr0
          rw [← HXB.out]
          have hXw := HXw.out
          have hYr := HY.out
          have hc5 : ∀ j x, wb.cell? ⟨XB, j, none⟩ = some x → w5.cell? ⟨XB, j, none⟩ = some x := fun j x hx => by rw [HGr.out.cell_far (⟨XB, j, none⟩) hYr.2.2.2 (fun e => hNX e.symm)]; exact hx
          have HY5 : Hid (w5.cell? ⟨XB, 2, none⟩ = some (.slice lo legs.length lcap) ∧ XB < w5.heap.size ∧ (Value.slice vo5 ((numsB g i).length + 3) cp5).ownBlock ≠ some XB) := by
            refine ⟨hc5 _ _ hYr.2.2.1, Nat.lt_of_lt_of_le hYr.2.2.2 HGr.out.size, ?_⟩
            rcases HAt.out with h | h
            · rw [h]; exact hNX
            · rw [h]; intro e; simp only [Option.some.injEq] at e; omega
          have HB5 := hideg (HBb.out.grown HGr.out hbsz (fun q hq => (HNb.out.lt q hq).1))
          have HN6 : Hid (w5.ownsRow B 3 1 (.slice vo5 ((numsB g i).length + 3) cp5) (numsC g i (A, C, legs) 0).length ((numsC g i (A, C, legs) 0).map (Value.int .i64))) := by
            show World.ownsRow _ _ _ _ _ _ _
            rw [HC0.out, List.length_append, List.map_append]; exact HN5.out
          clear hc5 hYr HY HGr HAt HNb HNew HN5 HWX HWB HXB c0 c1 c2 q0 q1 q2 HC0 HBb hbsz hNX
          go_wp2_with fail
          go_loopw [3, 7] (fun o j wq => ∃ m : Nat, m ≤ legs.length ∧ j = .int .i64 (m : Int) ∧ wq.ownsRow B 3 1 o (numsC g i (A, C, legs) m).length ((numsC g i (A, C, legs) m).map (Value.int .i64)) ∧ Below B wA wq ∧ (wq.cell? ⟨XB, 2, none⟩ = some (.slice lo legs.length lcap) ∧ XB < wq.heap.size ∧ o.ownBlock ≠ some XB)) (fun _ j _ => legs.length - (intOf j).toNat)
          case atStart => exact ⟨0, Nat.zero_le _, rfl, HN6.out, HB5.out, HY5.out⟩
          case round =>
            clear HN6 HB5 HY5
            obtain ⟨m, hm, rfl, hN, hb, y2, hXl, hNX⟩ := hrel
            have hnl := HCl.out m
            obtain ⟨vq, cq, rfl, _, _⟩ := row_form hN
            by_cases hml : m < legs.length
            · have hmi : (m : Int) < (legs.length : Int) := by omega
              have hmw : IntKind.i64.wrap ((m : Int) + 1) = (m : Int) + 1 := wrap_q _ (by omega) (by omega)
              have HS := hideg (HCs.out m hml)
              rcases HLg.out wr hb with h0 | ⟨gb, gof, rfl, hgb, hcg⟩
              · rw [h0] at hml; simp at hml
              obtain ⟨z0, z1, z2, z3⟩ := LgAt.get hml hcg
              have hgB : gb < B := by have := hlob gb gof rfl (by omega); omega
              generalize legs[m] = l at *
              obtain ⟨l1, l2, l3, l4⟩ := l
              simp only at z0 z1 z2 z3 HS
              have HN := hideg hN
              have HB := hideg hb
              generalize hn : (numsC g i (A, C, legs) m).length = n at *
              have hBr : B ≤ wr.heap.size := by have := hb.size; have := HBW.out; omega
              have hneX : some XB ≠ (Value.slice vq n cq).ownBlock := fun e => hNX e.symm
              have hneg : some gb ≠ (Value.slice vq n cq).ownBlock := fun e => by have h1 := (hN.lt gb e.symm).1; omega
              clear hN hb hcg hNX
              go_wp2_with fail
              refine Go.wp_region_held (S := fun w' => w'.cell? ⟨XB, 2, none⟩ = some (.slice (some ⟨gb, gof, none⟩) legs.length lcap) ∧ w'.cell? ⟨gb, gof + m * 4, none⟩ = some (.int .i64 l1) ∧ w'.cell? ⟨gb, gof + m * 4 + 1, none⟩ = some (.int .i64 l2) ∧ w'.cell? ⟨gb, gof + m * 4 + 2, none⟩ = some (.int .i64 l3) ∧ w'.cell? ⟨gb, gof + m * 4 + 3, none⟩ = some (.int .i64 l4)) (by kernel_rfl) ?_
              generalize hw8 : ({ wr with drawn := wr.drawn + 1 } : World) = wy
              have hby : Below wr.heap.size wr wy := by rw [← hw8]; exact below_drewN (Below.refl _ _) 1
              have hS0 : wy.cell? ⟨XB, 2, none⟩ = some (.slice (some ⟨gb, gof, none⟩) legs.length lcap) ∧ wy.cell? ⟨gb, gof + m * 4, none⟩ = some (.int .i64 l1) ∧ wy.cell? ⟨gb, gof + m * 4 + 1, none⟩ = some (.int .i64 l2) ∧ wy.cell? ⟨gb, gof + m * 4 + 2, none⟩ = some (.int .i64 l3) ∧ wy.cell? ⟨gb, gof + m * 4 + 3, none⟩ = some (.int .i64 l4) := ⟨(hby.cell (p := ⟨XB, 2, none⟩) hXl).trans y2, (hby.cell (p := ⟨gb, gof + m * 4, none⟩) hgb).trans z0, (hby.cell (p := ⟨gb, gof + m * 4 + 1, none⟩) hgb).trans z1, (hby.cell (p := ⟨gb, gof + m * 4 + 2, none⟩) hgb).trans z2, (hby.cell (p := ⟨gb, gof + m * 4 + 3, none⟩) hgb).trans z3⟩
              clear hw8
              refine take_lit (i := 0) (v := ?_) rfl (by kernel_rfl) (by kernel_rfl) (by kernel_rfl) (fun _ _ _ h => h) (Or.inl ⟨by rfl, ?hy0⟩) (by assumption) ?_
              case hy0 => (intro w hSw; (try dsimp only at hSw); go_simp; try with_reducible rfl)
              try simp only [Act.put, List.setIfInBounds_toArray, List.set_cons_zero, List.set_cons_succ]
              refine take_lit (i := 1) (v := ?_) rfl (by kernel_rfl) (by kernel_rfl) (by kernel_rfl) (fun _ _ _ h => h) (Or.inl ⟨by rfl, ?hy1⟩) (by assumption) ?_
              case hy1 => (intro w hSw; (try dsimp only at hSw); go_simp; try with_reducible rfl)
              try simp only [Act.put, List.setIfInBounds_toArray, List.set_cons_zero, List.set_cons_succ]
              refine take_lit (i := 2) (v := ?_) rfl (by kernel_rfl) (by kernel_rfl) (by kernel_rfl) (fun _ _ _ h => h) (Or.inl ⟨by rfl, ?hy2⟩) (by assumption) ?_
              case hy2 => (intro w hSw; (try dsimp only at hSw); go_simp; try with_reducible rfl)
              try simp only [Act.put, List.setIfInBounds_toArray, List.set_cons_zero, List.set_cons_succ]
              refine take_lit (i := 3) (v := ?_) rfl (by kernel_rfl) (by kernel_rfl) (by kernel_rfl) (fun _ _ _ h => h) (Or.inl ⟨by rfl, ?hy3⟩) (by assumption) ?_
              case hy3 => (intro w hSw; (try dsimp only at hSw); go_simp; try with_reducible rfl)
              try simp only [Act.put, List.setIfInBounds_toArray, List.set_cons_zero, List.set_cons_succ]
              refine take_lit (i := 4) (v := ?_) rfl (by kernel_rfl) (by kernel_rfl) (by kernel_rfl) (fun _ _ _ h => h) (Or.inl ⟨by rfl, ?hy4⟩) (by assumption) ?_
              case hy4 => (intro w hSw; (try dsimp only at hSw); go_simp; try with_reducible rfl)
              try simp only [Act.put, List.setIfInBounds_toArray, List.set_cons_zero, List.set_cons_succ]
              refine take_lit (i := 5) (v := ?_) rfl (by kernel_rfl) (by kernel_rfl) (by kernel_rfl) (fun _ _ _ h => h) (Or.inl ⟨by rfl, ?hy5⟩) (by assumption) ?_
              case hy5 => (intro w hSw; (try dsimp only at hSw); go_simp; try with_reducible rfl)
              try simp only [Act.put, List.setIfInBounds_toArray, List.set_cons_zero, List.set_cons_succ]
              refine take_lit (i := 6) (v := ?_) rfl (by kernel_rfl) (by kernel_rfl) (by kernel_rfl) (fun _ _ _ h => h) (Or.inl ⟨by rfl, ?hy6⟩) (by assumption) ?_
              case hy6 => (intro w hSw; (try dsimp only at hSw); go_simp; try with_reducible rfl)
              try simp only [Act.put, List.setIfInBounds_toArray, List.set_cons_zero, List.set_cons_succ]
              refine take_lit (i := 7) (v := ?_) rfl (by kernel_rfl) (by kernel_rfl) (by kernel_rfl) (fun _ _ _ h => h) (Or.inl ⟨by rfl, ?hy7⟩) (by assumption) ?_
              case hy7 => (intro w hSw; (try dsimp only at hSw); go_simp; try with_reducible rfl)
              try simp only [Act.put, List.setIfInBounds_toArray, List.set_cons_zero, List.set_cons_succ]
              refine take_lit (i := 8) (v := ?_) rfl (by kernel_rfl) (by kernel_rfl) (by kernel_rfl) (fun _ _ _ h => h) (Or.inl ⟨by rfl, ?hy8⟩) (by assumption) ?_
              case hy8 => (intro w hSw; (try dsimp only at hSw); go_simp; try with_reducible rfl)
              try simp only [Act.put, List.setIfInBounds_toArray, List.set_cons_zero, List.set_cons_succ]
              refine take_lit (i := 9) (v := ?_) rfl (by kernel_rfl) (by kernel_rfl) (by kernel_rfl) (fun _ _ _ h => h) (Or.inl ⟨by rfl, ?hy9⟩) (by assumption) ?_
              case hy9 => (intro w hSw; (try dsimp only at hSw); go_simp; try with_reducible rfl)
              try simp only [Act.put, List.setIfInBounds_toArray, List.set_cons_zero, List.set_cons_succ]
              refine take_lit (i := 10) (v := ?_) rfl (by kernel_rfl) (by kernel_rfl) (by kernel_rfl) (fun _ _ _ h => h) (Or.inl ⟨by rfl, ?hy10⟩) (by assumption) ?_
              case hy10 => (intro w hSw; (try dsimp only at hSw); go_simp; try with_reducible rfl)
              try simp only [Act.put, List.setIfInBounds_toArray, List.set_cons_zero, List.set_cons_succ]
              refine take_lit (i := 11) (v := ?_) rfl (by kernel_rfl) (by kernel_rfl) (by kernel_rfl) (fun _ _ _ h => h) (Or.inl ⟨by rfl, ?hy11⟩) (by assumption) ?_
              case hy11 => (intro w hSw; (try dsimp only at hSw); go_simp; try with_reducible rfl)
              try simp only [Act.put, List.setIfInBounds_toArray, List.set_cons_zero, List.set_cons_succ]
              refine take_lit (i := 12) (v := ?_) rfl (by kernel_rfl) (by kernel_rfl) (by kernel_rfl) (fun _ _ _ h => h) (Or.inl ⟨by rfl, ?hy12⟩) (by assumption) ?_
              case hy12 => (intro w hSw; (try dsimp only at hSw); go_simp; try with_reducible rfl)
              try simp only [Act.put, List.setIfInBounds_toArray, List.set_cons_zero, List.set_cons_succ]
              refine take_lit (i := 13) (v := ?_) rfl (by kernel_rfl) (by kernel_rfl) (by kernel_rfl) (fun _ _ _ h => h) (Or.inl ⟨by rfl, ?hy13⟩) (by assumption) ?_
              case hy13 => (intro w hSw; (try dsimp only at hSw); go_simp; try with_reducible rfl)
              try simp only [Act.put, List.setIfInBounds_toArray, List.set_cons_zero, List.set_cons_succ]
              refine take_lit (i := 14) (v := ?_) rfl (by kernel_rfl) (by kernel_rfl) (by kernel_rfl) (fun _ _ _ h => h) (Or.inl ⟨by rfl, ?hy14⟩) (by assumption) ?_
              case hy14 => (intro w hSw; (try dsimp only at hSw); go_simp; try with_reducible rfl)
              try simp only [Act.put, List.setIfInBounds_toArray, List.set_cons_zero, List.set_cons_succ]
              refine take_lit (i := 15) (v := ?_) rfl (by kernel_rfl) (by kernel_rfl) (by kernel_rfl) (fun _ _ _ h => h) (Or.inl ⟨by rfl, ?hy15⟩) (by assumption) ?_
              case hy15 => (intro w hSw; (try dsimp only at hSw); go_simp; try with_reducible rfl)
              try simp only [Act.put, List.setIfInBounds_toArray, List.set_cons_zero, List.set_cons_succ]
              refine take_lit (i := 16) (v := ?_) rfl (by kernel_rfl) (by kernel_rfl) (by kernel_rfl) (fun _ _ _ h => h) (Or.inl ⟨by rfl, ?hy16⟩) (by assumption) ?_
              case hy16 => (intro w hSw; (try dsimp only at hSw); go_simp; try with_reducible rfl)
              try simp only [Act.put, List.setIfInBounds_toArray, List.set_cons_zero, List.set_cons_succ]
              refine take_lit (i := 17) (v := ?_) rfl (by kernel_rfl) (by kernel_rfl) (by kernel_rfl) (fun _ _ _ h => h) (Or.inl ⟨by rfl, ?hy17⟩) (by assumption) ?_
              case hy17 => (intro w hSw; (try dsimp only at hSw); go_simp; try with_reducible rfl)
              try simp only [Act.put, List.setIfInBounds_toArray, List.set_cons_zero, List.set_cons_succ]
              refine take_lit (i := 18) (v := ?_) rfl (by kernel_rfl) (by kernel_rfl) (by kernel_rfl) (fun _ _ _ h => h) (Or.inl ⟨by rfl, ?hy18⟩) (by assumption) ?_
              case hy18 => (intro w hSw; (try dsimp only at hSw); go_simp; try with_reducible rfl)
              try simp only [Act.put, List.setIfInBounds_toArray, List.set_cons_zero, List.set_cons_succ]
              refine take_lit (i := 19) (v := ?_) rfl (by kernel_rfl) (by kernel_rfl) (by kernel_rfl) (fun _ _ _ h => h) (Or.inl ⟨by rfl, ?hy19⟩) (by assumption) ?_
              case hy19 => (intro w hSw; (try dsimp only at hSw); go_simp; try with_reducible rfl)
              try simp only [Act.put, List.setIfInBounds_toArray, List.set_cons_zero, List.set_cons_succ]
              refine take_lit (i := 20) (v := ?_) rfl (by kernel_rfl) (by kernel_rfl) (by kernel_rfl) (fun _ _ _ h => h) (Or.inl ⟨by rfl, ?hy20⟩) (by assumption) ?_
              case hy20 => (intro w hSw; (try dsimp only at hSw); go_simp; try with_reducible rfl)
              try simp only [Act.put, List.setIfInBounds_toArray, List.set_cons_zero, List.set_cons_succ]
              refine take_lit (i := 21) (v := ?_) rfl (by kernel_rfl) (by kernel_rfl) (by kernel_rfl) (fun _ _ _ h => h) (Or.inl ⟨by rfl, ?hy21⟩) (by assumption) ?_
              case hy21 => (intro w hSw; (try dsimp only at hSw); go_simp; try with_reducible rfl)
              try simp only [Act.put, List.setIfInBounds_toArray, List.set_cons_zero, List.set_cons_succ]
              refine take_lit (i := 22) (v := ?_) rfl (by kernel_rfl) (by kernel_rfl) (by kernel_rfl) (fun _ _ _ h => h) (Or.inl ⟨by rfl, ?hy22⟩) (by assumption) ?_
              case hy22 => (intro w hSw; (try dsimp only at hSw); go_simp; try with_reducible rfl)
              try simp only [Act.put, List.setIfInBounds_toArray, List.set_cons_zero, List.set_cons_succ]
              refine take_lit (i := 23) (v := ?_) rfl (by kernel_rfl) (by kernel_rfl) (by kernel_rfl) (fun _ _ _ h => h) (Or.inl ⟨by rfl, ?hy23⟩) (by assumption) ?_
              case hy23 => (intro w hSw; (try dsimp only at hSw); go_simp; try with_reducible rfl)
              try simp only [Act.put, List.setIfInBounds_toArray, List.set_cons_zero, List.set_cons_succ]
              refine take_lit (i := 24) (v := ?_) rfl (by kernel_rfl) (by kernel_rfl) (by kernel_rfl) (fun _ _ _ h => h) (Or.inl ⟨by rfl, ?hy24⟩) (by assumption) ?_
              case hy24 => (intro w hSw; (try dsimp only at hSw); go_simp; try with_reducible rfl)
              try simp only [Act.put, List.setIfInBounds_toArray, List.set_cons_zero, List.set_cons_succ]
              refine next_lit (i := 25) rfl (by kernel_rfl) (fun KK hK => ?_)
              go_simp
              have hwa : Below wr.heap.size wr (wy.alloc (.cells #[.int .i64 l1, .int .i64 l2, .int .i64 l3, .int .i64 l4] 3)) := hby.alloc hby.size _
              have n0 := (hwa.cell (p := ⟨XB, 2, none⟩) hXl).trans y2
              have n1 := (hwa.cell (p := ⟨gb, gof + m * 4, none⟩) hgb).trans z0
              have n2 := (hwa.cell (p := ⟨gb, gof + m * 4 + 1, none⟩) hgb).trans z1
              have n3 := (hwa.cell (p := ⟨gb, gof + m * 4 + 2, none⟩) hgb).trans z2
              have n4 := (hwa.cell (p := ⟨gb, gof + m * 4 + 3, none⟩) hgb).trans z3
              refine hK.out _ _ ⟨n0, n1, n2, n3, n4⟩ (fun _ => ?_)
              clear hK KK hS0
              try simp only [Act.put, List.setIfInBounds_toArray, List.set_cons_zero, List.set_cons_succ]
              refine next_lit (i := 26) rfl (by kernel_rfl) (fun KK hK => ?_)
              have hN0 := ownsRow_below HN.out hwa
              have hzy := hby.size
              refine step_append_lies _ (by rfl) _ _ _ (by rfl) B 3 in' _ 1 8 Try.underlying28 hin hn0 hn1 hn2 rfl (by omega) (.slice vq n cq) n ((numsC g i (A, C, legs) m).map (Value.int .i64)) (by rfl) hN0 ⟨wy.heap.size, 0, none⟩ 4 4 [.int .i64 l1, .int .i64 l2, .int .i64 l3, .int .i64 l4] (by rfl) (by rfl) (World.news_of_block (cs := #[.int .i64 l1, .int .i64 l2, .int .i64 l3, .int .i64 l4]) (t := 3) (fr := (0, 0)) (heap_alloc_new wy _)) (by simp [Value.oneCell']) (by omega) (by unfold maxLen; omega) (by omega) (by simp; omega) (wy.heap.size + 1) (by simp) ?_
              intro gg cap1 w4 hown1 hgrow hat hltg
              have x0 : w4.cell? ⟨XB, 2, none⟩ = some (.slice (some ⟨gb, gof, none⟩) legs.length lcap) := by rw [hgrow.cell_far _ (Nat.lt_of_lt_of_le hXl hwa.size) hneX]; exact n0
              have x1 : w4.cell? ⟨gb, gof + m * 4, none⟩ = some (.int .i64 l1) := by rw [hgrow.cell_far _ (Nat.lt_of_lt_of_le hgb hwa.size) hneg]; exact n1
              have x2 : w4.cell? ⟨gb, gof + m * 4 + 1, none⟩ = some (.int .i64 l2) := by rw [hgrow.cell_far _ (Nat.lt_of_lt_of_le hgb hwa.size) hneg]; exact n2
              have x3 : w4.cell? ⟨gb, gof + m * 4 + 2, none⟩ = some (.int .i64 l3) := by rw [hgrow.cell_far _ (Nat.lt_of_lt_of_le hgb hwa.size) hneg]; exact n3
              have x4 : w4.cell? ⟨gb, gof + m * 4 + 3, none⟩ = some (.int .i64 l4) := by rw [hgrow.cell_far _ (Nat.lt_of_lt_of_le hgb hwa.size) hneg]; exact n4
              have HB4 := hideg ((HB.out.trans (hwa.mono hBr)).grown hgrow (Nat.le_trans hBr hwa.size) (fun j hj => (hN0.lt j hj).1))
              have HN4 : Hid (w4.ownsRow B 3 1 (.slice (some ⟨gg, 0, none⟩) (n + 4) cap1) (numsC g i (A, C, legs) (m + 1)).length ((numsC g i (A, C, legs) (m + 1)).map (Value.int .i64))) := by
                show World.ownsRow _ _ _ _ _ _ _
                rw [HS.out, List.length_append, List.map_append, hn]; exact hown1
              have HX4 : Hid (XB < w4.heap.size ∧ (Value.slice (some ⟨gg, 0, none⟩) (n + 4) cap1).ownBlock ≠ some XB) := by
                refine ⟨Nat.lt_of_lt_of_le (Nat.lt_of_lt_of_le hXl hwa.size) hgrow.size, fun e => ?_⟩
                have e' : gg = XB := by simpa [Value.ownBlock] using e
                rcases hat with h | h
                · exact hneX (by rw [h, e'])
                · omega
              refine hK.out _ _ ⟨x0, x1, x2, x3, x4⟩ (fun _ => ?_)
              clear hK KK hwa n0 n1 n2 n3 n4 hgrow hown1 hat hltg hN0
              try simp only [Act.put, List.setIfInBounds_toArray, List.set_cons_zero, List.set_cons_succ]
              have hS4 : w4.cell? ⟨XB, 2, none⟩ = some (.slice (some ⟨gb, gof, none⟩) legs.length lcap) ∧ w4.cell? ⟨gb, gof + m * 4, none⟩ = some (.int .i64 l1) ∧ w4.cell? ⟨gb, gof + m * 4 + 1, none⟩ = some (.int .i64 l2) ∧ w4.cell? ⟨gb, gof + m * 4 + 2, none⟩ = some (.int .i64 l3) ∧ w4.cell? ⟨gb, gof + m * 4 + 3, none⟩ = some (.int .i64 l4) := ⟨x0, x1, x2, x3, x4⟩
              refine take_lit (i := 27) (v := ?_) rfl (by kernel_rfl) (by kernel_rfl) (by kernel_rfl) (fun _ _ _ h => h) (Or.inl ⟨by rfl, ?hy27⟩) (by assumption) ?_
              case hy27 => (intro w hSw; (try dsimp only at hSw); go_simp; try with_reducible rfl)
              try simp only [Act.put, List.setIfInBounds_toArray, List.set_cons_zero, List.set_cons_succ]
              refine wpAnyH_done (by kernel_rfl) ?_ _
              have HX0 := hideg x0
              clear hS4 x0 x1 x2 x3 x4 z0 z1 z2 z3 y2
              go_wp2
              go_roundw
              case rel => exact ⟨m + 1, by omega, by go_num, HN4.out, HB4.out, HX0.out, HX4.out⟩
              case measure => simp [intOf]; omega
            · have hmn : ¬ ((m : Int) < (legs.length : Int)) := by omega
              obtain rfl : m = legs.length := by omega
              rw [HCa.out] at hN
              have HN := hideg hN
              have HB := hideg hb
              rw [HCa.out]
              clear hN hb hNX
              go_wp2
              go_roundw
              case rel => exact ⟨i + 1, by omega, by go_num, HN.out, HB.out⟩
              case measure => simp [intOf]; omega
        · have hin2 : ¬ ((i : Int) < (g.edges.length : Int)) := by omega
          obtain rfl : i = g.edges.length := by omega
          rw [numsB_all] at hN
          have HN := hideg (owns_low hN (Nat.le_of_lt hwB))
          rw [numsB_all]
          clear hN hb hGA
          go_wp2
          go_ret
          exact ⟨_, rfl, HN.out, hbw⟩

end Go.Proofs.Yteibdmfcclkjpac
