/-
  How the program reads a graph.
-/
import Derived.Test.YteibdmfcclkjpadPkI
namespace Go.Proofs.Yteibdmfcclkjpad
open Go.RowKit

theorem Try.infoIvlJ : (Try.prog.info? 34).map (fun i => (i.zero, i.size, i.bytes)) = some (some (.agg #[.int .i64 0, .int .i64 0]), 2, 16) := by kernel_rfl
theorem Try.infoEdgeJ : (Try.prog.info? 68).map (fun i => (i.zero, i.size, i.bytes)) = some (some (.agg #[.int .i64 0, .int .i64 0, .slice none 0 0]), 3, 40) := by kernel_rfl

/-- a reading: the reader's box, what is kept, and the answer's box, as yet empty -/
structure Rg (s : ByteArray) (base RB : Nat) (w W : World) (st : Nat × Int) : Prop where
  rs : RS s RB st W
  ke : Ke base RB w W
  an : W.heap[w.heap.size]? = some (.cells #[.int .i64 0, .slice none 0 0, .slice none 0 0] 25 (0, 0))
theorem Rg.kn {s : ByteArray} {base RB : Nat} {w W W' : World} {st st' : Nat × Int} (h : Rg s base RB w W st) (k : Kn base RB RB W W') (r : RS s RB st' W') (hR : RB < w.heap.size) : Rg s base RB w W' st' :=
  ⟨r, h.ke.kn k, (k.blk _ (by omega) (by omega)).trans h.an⟩
theorem Rg.kE {s : ByteArray} {base RB : Nat} {w W W' : World} {st st' : Nat × Int} (h : Rg s base RB w W st) (k : Ke base RB W W') (r : RS s RB st' W') (hR : RB < w.heap.size) : Rg s base RB w W' st' :=
  ⟨r, h.ke.trans k, (k.blk _ (heap_ltg h.an) (by omega)).trans h.an⟩
theorem Rg.below {s : ByteArray} {base RB n : Nat} {w W W' : World} {st : Nat × Int} (h : Rg s base RB w W st) (k : Below n W W') (hn : w.heap.size < n) (hb : base ≤ RB) (hR : RB < w.heap.size) : Rg s base RB w W' st :=
  ⟨h.rs.below k (by omega), h.ke.below k (by omega) (by omega), (k.block _ hn).trans h.an⟩

set_option maxRecDepth 100000 in
set_option maxHeartbeats 2000000 in
theorem pGraph_any (s : ByteArray) (w : World) (base RB : Nat) (hs : s.size ≤ 4611686018427387904) (hb : base ≤ RB) (hR : RS s RB (0, 0) w) :
    Calls Try.prog 31 #[.pointer (some ⟨RB, 0, none⟩)] w fun r w' => ∃ la lc ea ec L, r = .returned (.agg #[.int .i64 (rdG s.data.toList).2.hor, .slice la (rdG s.data.toList).2.lives.length lc, .slice ea L.length ec]) ∧
      GOwn (w.heap.size + 1) (w.heap.size + 1) w' (rdG s.data.toList).2.hor (.slice la (rdG s.data.toList).2.lives.length lc) (.slice ea L.length ec) (rdG s.data.toList).2.lives L ∧ L.map (·.1) = (rdG s.data.toList).2.edges ∧ RS s RB (rdG s.data.toList).1 w' ∧ Ke base RB w w' := by
  obtain ⟨ii, hii, hi0, hi1, hi2⟩ := info_parts Try.infoIvlJ
  obtain ⟨ie, hie, he0, he1, he2⟩ := info_parts Try.infoEdgeJ
  have HL : Hid (s.data.toList.length = s.size) := rfl
  have hRB := heap_ltg hR
  have HNum := hideg (fun W st (ha : st.1 ≤ s.size) (h : RS s RB st W) => pNum_any s W base RB st hs ha hb h)
  obtain ⟨w0, hw0⟩ : ∃ x, x = w.alloc (.cells #[.int .i64 0, .slice none 0 0, .slice none 0 0] 25) := ⟨_, rfl⟩
  have b0 : Below w.heap.size w w0 := by rw [hw0]; exact gal w _
  have hs0 : w0.heap.size = w.heap.size + 1 := by rw [hw0]; simp
  have hG0 : Rg s base RB w w0 (0, 0) := ⟨hR.below b0 hRB, (Ke.refl w).below b0 (Nat.le_refl _) (by omega), by rw [hw0]; exact heap_alloc_new w _⟩
  have HHd : Hid (hdH s.data.toList = nx s.data.toList (0, 0) 65535) := rfl
  have HVd : Hid (hdV s.data.toList = nx s.data.toList (hdH s.data.toList).1 12) := rfl
  have HKd : Hid (hdK s.data.toList = nx s.data.toList (hdV s.data.toList).1 30) := rfl
  have hat4 : (hdH s.data.toList).1.1 ≤ s.size := by rw [HHd.out, ← HL.out]; exact nx_at (Nat.zero_le _)
  have hat5 : (hdV s.data.toList).1.1 ≤ s.size := by rw [HVd.out, ← HL.out]; exact nx_at hat4
  have hat6 : (hdK s.data.toList).1.1 ≤ s.size := by rw [HKd.out, ← HL.out]; exact nx_at hat5
  have hv12 := nx_range (s := s.data.toList) (st := (hdH s.data.toList).1) (most := 12) (by omega)
  have hk30 := nx_range (s := s.data.toList) (st := (hdV s.data.toList).1) (most := 30) (by omega)
  rw [← HVd.out] at hv12
  rw [← HKd.out] at hk30
  have h1 := HNum.out w0 (0, 0) (Nat.zero_le _) hG0.rs
  rw [← HHd.out] at h1
  have HC2 : Hid (∀ W, RS s RB (hdH s.data.toList).1 W → Calls Try.prog 62 #[.pointer (some ⟨RB, 0, none⟩), .int .i64 12] W fun r W' => r = .returned (.int .i64 (hdV s.data.toList).2) ∧ RS s RB (hdV s.data.toList).1 W' ∧ Kn base RB RB W W') := fun W h => by
    rw [HVd.out]; exact pCnt_any s W base RB _ 12 hs hat4 hb (by omega) h
  have HC3 : Hid (∀ W, RS s RB (hdV s.data.toList).1 W → Calls Try.prog 62 #[.pointer (some ⟨RB, 0, none⟩), .int .i64 30] W fun r W' => r = .returned (.int .i64 (hdK s.data.toList).2) ∧ RS s RB (hdK s.data.toList).1 W' ∧ Kn base RB RB W W') := fun W h => by
    rw [HKd.out]; exact pCnt_any s W base RB _ 30 hs hat5 hb (by omega) h
  have HLs : Hid (rdLs s.data.toList = rdLv s.data.toList (hdK s.data.toList).1 (hdV s.data.toList).2.toNat) := rfl
  have HRG : Hid (rdG s.data.toList = ((rdEs s.data.toList (rdLs s.data.toList).1 (hdK s.data.toList).2.toNat).1, ⟨(hdH s.data.toList).2, (rdLs s.data.toList).2, (rdEs s.data.toList (rdLs s.data.toList).1 (hdK s.data.toList).2.toNat).2⟩)) := rfl
  obtain ⟨nv, hnv⟩ : ∃ nv : Nat, (hdV s.data.toList).2 = (nv : Int) := ⟨(hdV s.data.toList).2.toNat, by omega⟩
  obtain ⟨nk, hnk⟩ : ∃ nk : Nat, (hdK s.data.toList).2 = (nk : Int) := ⟨(hdK s.data.toList).2.toNat, by omega⟩
  rw [hnv] at HC2
  rw [hnk] at HC3
  rw [hnv, Int.toNat_natCast] at HLs
  rw [hnk, Int.toNat_natCast] at HRG
  have hnv12 : nv ≤ 12 := by omega
  have hnk30 : nk ≤ 30 := by omega
  obtain ⟨st0, hst0⟩ : ∃ x, x = (hdK s.data.toList).1 := ⟨_, rfl⟩
  rw [← hst0] at HC3 HLs hat6
  have HLl : Hid (st0.1 ≤ s.data.toList.length) := by show _ ≤ _; rw [HL.out]; exact hat6
  generalize (hdH s.data.toList).2 = hh at *
  obtain ⟨B, hB⟩ : ∃ B, B = w.heap.size + 1 := ⟨_, rfl⟩
  have hwB : w.heap.size < B := by omega
  have HW0 := hideg hw0.symm
  have HG0 := hideg hG0
  have HS0 : Hid (w0.heap.size = B) := by show _ = _; omega
  have HBB := hideg hB
  rw [← hB]
  clear hw0 b0 hs0 hG0 hR hv12 hk30 hnv hnk hst0 hat4 hat5 hat6 HHd HVd HKd hB
  go_enter Try.func31, Try.ntmps31
  go_wp2_with fail
  rw [HW0.out]
  refine h1.mono ?_
  rintro r w1 ⟨rfl, hR1, hk1⟩
  have hG1 := HG0.out.kn hk1 hR1 hRB
  obtain ⟨w2, hw2⟩ : ∃ x, x = w1.alloc (.cells #[.int .i64 hh, .slice none 0 0, .slice none 0 0] 25) := ⟨_, rfl⟩
  have hs1 : w1.heap.size = B := hk1.size.trans HS0.out
  have b2 : Below B w1 w2 := by rw [hw2, ← hs1]; exact gal w1 _
  have hG2 := hG1.below b2 hwB hb hRB
  have hO2 : GOwn B B w2 hh (.slice none 0 0) (.slice none 0 0) [] [] := by
    have hbx : w2.heap[B]? = some (.cells #[.int .i64 hh, .slice none 0 0, .slice none 0 0] 25 (0, 0)) := by rw [hw2, ← hs1]; exact heap_alloc_new w1 _
    exact ⟨hbx, Nat.le_refl _, World.ownsRow_nil _ _ _ _, World.ownsRow_nil _ _ _ _, fun p hp => by simp at hp, fun M p h => by simp at h⟩
  have h2 := HC2.out w2 hG2.rs
  have HG2 := hideg hG2
  have HO2 := hideg hO2
  have HW2 := hideg hw2.symm
  have HS1 := hideg hs1
  clear h1 hR1 hk1 hG1 hw2 hs1 b2 hG2 hO2 HC2 HG0 HW0 HS0
  go_wp2_with fail
  rw [HW2.out, HS1.out]
  refine h2.mono ?_
  rintro r w3 ⟨rfl, hR3, hk3⟩
  have HG3 := hideg (HG2.out.kn hk3 hR3 hRB)
  have HO3 := hideg (HO2.out.kn hk3 (by omega) (by omega))
  have h3 := HC3.out w3 hR3
  clear h2 hR3 hk3 HG2 HO2 HC3 HW2 HS1
  go_wp2_with fail
  refine h3.mono ?_
  rintro r w4 ⟨rfl, hR4, hk4⟩
  have HG4 := hideg (HG3.out.kn hk4 hR4 hRB)
  have HO4 := hideg (HO3.out.kn hk4 (by omega) (by omega))
  clear h3 hR4 hk4 HG3 HO3
  go_wp2_with fail
  go_loopw [14] (fun i wr => ∃ (k : Nat) (vL : Value), k ≤ nv ∧ i = .int .i64 (k : Int) ∧ GOwn B B wr hh vL (.slice none 0 0) (rdLv s.data.toList st0 k).2 [] ∧ Rg s base RB w wr (rdLv s.data.toList st0 k).1) (fun i _ => nv - (intOf i).toNat)
  case atStart => exact ⟨0, _, Nat.zero_le _, rfl, HO4.out, HG4.out⟩
  case round =>
    clear HO4 HG4
    obtain ⟨k, vL, hk, rfl, hO, hG⟩ := hrel
    by_cases hlt : k < nv
    · have hki : (k : Int) < (nv : Int) := by omega
      have hkw : IntKind.i64.wrap ((k : Int) + 1) = (k : Int) + 1 := wrap_q _ (by omega) (by omega)
      have hatk : (rdLv s.data.toList st0 k).1.1 ≤ s.size := rdLv_at HLl.out k
      have hll := rdLv_len s.data.toList st0 k
      have HS : Hid (rdLv s.data.toList st0 (k + 1) = ((nx s.data.toList (nx s.data.toList (rdLv s.data.toList st0 k).1 65535).1 65535).1, (rdLv s.data.toList st0 k).2 ++ [((nx s.data.toList (rdLv s.data.toList st0 k).1 65535).2, (nx s.data.toList (nx s.data.toList (rdLv s.data.toList st0 k).1 65535).1 65535).2)])) := rfl
      have HN1 := hideg (fun W h => HNum.out W (rdLv s.data.toList st0 k).1 hatk h)
      have hat1 : (nx s.data.toList (rdLv s.data.toList st0 k).1 65535).1.1 ≤ s.size := nx_at hatk
      generalize nx s.data.toList (rdLv s.data.toList st0 k).1 65535 = N1 at *
      have HN2 := hideg (fun W h => HNum.out W N1.1 hat1 h)
      generalize nx s.data.toList N1.1 65535 = N2 at *
      obtain ⟨t1, z1⟩ := N1
      obtain ⟨t2, z2⟩ := N2
      simp only at HS HN1 HN2
      have p1 : wr.cell? ⟨B, 1, none⟩ = some vL := by rw [Lib.cell_of_heap hO.box]; rfl
      obtain ⟨vo, vc, rfl, _, _⟩ := row_form hO.lv
      rw [hll] at p1
      have HO := hideg hO
      have HG := hideg hG
      have hBl : B < wr.heap.size := heap_ltg hO.box
      clear hO hG hatk hat1
      go_wp2_with fail
      refine wp_region_back (S := fun w' => w'.cell? ⟨B, 1, none⟩ = some (.slice vo k vc)) (by kernel_rfl) (by simp) (by kernel_rfl) (by kernel_rfl) p1 (fun hHeld => ?_)
      simp only [List.pop_toArray, List.dropLast, List.back!_toArray, List.getLast!]
      refine take_lit (i := 0) (v := ?_) rfl (by kernel_rfl) (by kernel_rfl) (by kernel_rfl) (fun _ _ _ h => h) (Or.inl ⟨by rfl, ?hy0⟩) (by assumption) ?_
      case hy0 => (intro w hSw; (try dsimp only at hSw); go_simp; try with_reducible rfl)
      try simp only [Act.put, List.setIfInBounds_toArray, List.set_cons_zero, List.set_cons_succ]
      refine take_lit (i := 1) (v := ?_) rfl (by kernel_rfl) (by kernel_rfl) (by kernel_rfl) (fun _ _ _ h => h) (Or.inl ⟨by rfl, ?hy1⟩) (by assumption) ?_
      case hy1 => (intro w hSw; (try dsimp only at hSw); go_simp; try with_reducible rfl)
      try simp only [Act.put, List.setIfInBounds_toArray, List.set_cons_zero, List.set_cons_succ]
      refine take_lit (i := 2) (v := ?_) rfl (by kernel_rfl) (by kernel_rfl) (by kernel_rfl) (fun _ _ _ h => h) (Or.inl ⟨by rfl, ?hy2⟩) (by assumption) ?_
      case hy2 => (intro w hSw; (try dsimp only at hSw); go_simp; try with_reducible rfl)
      try simp only [Act.put, List.setIfInBounds_toArray, List.set_cons_zero, List.set_cons_succ]
      refine take_lit (i := 4) (v := ?_) rfl (by kernel_rfl) (by kernel_rfl) (by kernel_rfl) (fun _ _ _ h => h) (Or.inl ⟨by rfl, ?hy4⟩) (by assumption) ?_
      case hy4 => (intro w hSw; (try dsimp only at hSw); go_simp; try with_reducible rfl)
      try simp only [Act.put, List.setIfInBounds_toArray, List.set_cons_zero, List.set_cons_succ]
      refine next_lit (i := 3) rfl (by kernel_rfl) (fun KK hK => ?_)
      go_simp
      have bd : Below wr.heap.size wr wr.drew := (Below.refl _ _).drew
      have hOd := HO.out.below bd
      have hGd := HG.out.below bd (by omega) hb hRB
      refine (HN1.out _ hGd.rs).mono ?_
      rintro r v1 ⟨rfl, hE1, hq1⟩
      have hO1 := hOd.kn hq1 (by omega) (by omega)
      have hG1 := hGd.kn hq1 hE1 hRB
      have m1 : v1.cell? ⟨B, 1, none⟩ = some (.slice vo k vc) := by rw [Lib.cell_of_heap hO1.box, hll]; rfl
      refine hK.out _ _ m1 (fun hHeld => ?_)
      clear hK KK
      try simp only [Act.put, List.setIfInBounds_toArray, List.set_cons_zero, List.set_cons_succ]
      refine next_lit (i := 5) rfl (by kernel_rfl) (fun KK hK => ?_)
      go_simp
      refine (HN2.out _ hE1).mono ?_
      rintro r v2 ⟨rfl, hE2, hq2⟩
      have hO2 := hO1.kn hq2 (by omega) (by omega)
      have hG2 := hG1.kn hq2 hE2 hRB
      have m2 : v2.cell? ⟨B, 1, none⟩ = some (.slice vo k vc) := by rw [Lib.cell_of_heap hO2.box, hll]; rfl
      refine hK.out _ _ m2 (fun hHeld => ?_)
      clear hK KK
      try simp only [Act.put, List.setIfInBounds_toArray, List.set_cons_zero, List.set_cons_succ]
      refine take_lit (i := 6) (v := ?_) rfl (by kernel_rfl) (by kernel_rfl) (by kernel_rfl) (fun _ _ _ h => h) (Or.inl ⟨by rfl, ?hy6⟩) (by assumption) ?_
      case hy6 => (intro w hSw; (try dsimp only at hSw); go_simp; try with_reducible rfl)
      try simp only [Act.put, List.setIfInBounds_toArray, List.set_cons_zero, List.set_cons_succ]
      clear hHeld
      refine next_lit (i := 7) rfl (by kernel_rfl) (fun KK hK => ?_)
      go_simp
      have hB2 : B < v2.heap.size := heap_ltg hO2.box
      have hwa : Below v2.heap.size v2 (v2.alloc (.cells #[.int .i64 z1, .int .i64 z2] 34)) := gal v2 _
      have n1 := (hwa.cell (p := ⟨B, 1, none⟩) hB2).trans m2
      refine hK.out _ _ n1 (fun hHeld => ?_)
      clear hK KK hHeld
      try simp only [Act.put, List.setIfInBounds_toArray, List.set_cons_zero, List.set_cons_succ]
      refine next_lit (i := 8) rfl (by kernel_rfl) (fun KK hK => ?_)
      have hlv0 := ownsRow_below hO2.lv hwa
      rw [hll] at hlv0
      refine step_append_lies _ (by rfl) _ _ _ (by rfl) B 34 ii _ 2 16 Try.underlying22 hii hi0 hi1 hi2 rfl (by omega) (.slice vo k vc) k (encs (rdLv s.data.toList st0 k).2) (by rfl) hlv0 ⟨v2.heap.size, 0, none⟩ 1 1 [.int .i64 z1, .int .i64 z2] (by rfl) (by rfl) (World.news_of_block (cs := #[.int .i64 z1, .int .i64 z2]) (t := 34) (fr := (0, 0)) (heap_alloc_new v2 _)) (by simp [Value.oneCell']) (by omega) (by unfold maxLen; omega) (by omega) (by simp; omega) (v2.heap.size + 1) (by simp) ?_
      intro gg cap1 w5 hown1 hgrow hat hltg
      have hown2 : w5.ownsRow B 34 2 (.slice (some ⟨gg, 0, none⟩) (k + 1) cap1) ((rdLv s.data.toList st0 k).2.length + 1) (encs (rdLv s.data.toList st0 k).2 ++ [.int .i64 z1, .int .i64 z2]) := by rw [hll]; exact hown1
      have hgr2 := hgrow
      rw [← hll] at hgr2
      obtain ⟨hbox5, hO5⟩ := hO2.life hwa hgr2 hown2
      rw [hll] at hbox5
      have x1 : w5.cell? ⟨B, 1, none⟩ = some (.slice vo k vc) := by rw [Lib.cell_of_heap hbox5]; rfl
      have fz5 : w5.frozen? ⟨B, 1, none⟩ = false := Lib.frozen_of_heap hbox5 1
      have HG5 : Hid (Rg s base RB w (w5.setCell ⟨B, 1, none⟩ (.slice (some ⟨gg, 0, none⟩) (k + 1) cap1)) (rdLv s.data.toList st0 (k + 1)).1) := by
        rw [HS.out]
        exact hG2.below (((hwa.mono (Nat.le_of_lt hB2)).grown hgrow (Nat.le_trans (Nat.le_of_lt hB2) hwa.size) (fun j hj => (hlv0.lt j hj).1)).setCell (p := ⟨B, 1, none⟩) (Nat.le_refl _) (.slice (some ⟨gg, 0, none⟩) (k + 1) cap1)) hwB hb hRB
      have HO5 : Hid (GOwn B B (w5.setCell ⟨B, 1, none⟩ (.slice (some ⟨gg, 0, none⟩) (k + 1) cap1)) hh (.slice (some ⟨gg, 0, none⟩) (k + 1) cap1) (.slice none 0 0) (rdLv s.data.toList st0 (k + 1)).2 []) := by rw [HS.out]; exact hO5
      refine hK.out _ _ x1 (fun hHeld => ?_)
      clear hK KK hwa n1 m1 m2 hgrow hgr2 hown1 hown2 hbox5 hO5 hat hltg hlv0 hO1 hO2 hG1 hG2 hOd hGd hE1 hE2 hq1 hq2 bd HN1 HN2
      try simp only [Act.put, List.setIfInBounds_toArray, List.set_cons_zero, List.set_cons_succ]
      refine take_lit (i := 9) (v := ?_) rfl (by kernel_rfl) (by kernel_rfl) (by kernel_rfl) (fun _ _ _ h => h) (Or.inl ⟨by rfl, ?hy9⟩) (by assumption) ?_
      case hy9 => (intro w hSw; (try dsimp only at hSw); go_simp; try with_reducible rfl)
      try simp only [Act.put, List.setIfInBounds_toArray, List.set_cons_zero, List.set_cons_succ]
      refine wpAnyH_done (by kernel_rfl) ?_ _
      refine back_last (fun KK hK => ?_)
      clear hHeld
      go_simp
      refine hK.out _ _ ?_
      clear hK KK x1 fz5 p1
      go_wp2
      go_roundw
      case rel => exact ⟨k + 1, _, by omega, by go_num, HO5.out, HG5.out⟩
      case measure => simp [intOf]; omega
    · have hkn : ¬ ((k : Int) < (nv : Int)) := by omega
      obtain rfl : k = nv := by omega
      rw [← HLs.out] at hO hG
      have HO := hideg hO
      have HG := hideg hG
      have hatL : (rdLs s.data.toList).1.1 ≤ s.data.toList.length := by rw [HLs.out]; exact rdLv_at HLl.out _
      have HLL := hideg hatL
      generalize rdLs s.data.toList = RL at *
      obtain ⟨st1, lvs⟩ := RL
      simp only at HO HG HLL HRG
      clear hO hG hatL hlt HLs HLl
      obtain ⟨wo, hwo⟩ : ∃ x, x = wr := ⟨_, rfl⟩
      subst hwo
      go_wp2_with fail
      go_loopw [28] (fun i wr => ∃ (k : Nat) (vE : Value) (L : List (Ed × Value)), k ≤ nk ∧ i = .int .i64 (k : Int) ∧ GOwn B B wr hh vL vE lvs L ∧ L.map (·.1) = (rdEs s.data.toList st1 k).2 ∧ Rg s base RB w wr (rdEs s.data.toList st1 k).1) (fun i _ => nk - (intOf i).toNat)
      case atStart => exact ⟨0, _, [], Nat.zero_le _, rfl, HO.out, rfl, HG.out⟩
      case round =>
        clear HO HG
        obtain ⟨i, vE, L, hi, rfl, hO, hLm, hG⟩ := hrel
        have hLi : L.length = i := by rw [← rdEs_len s.data.toList st1 i, ← hLm]; simp
        have hL30 : L.length ≤ 30 := by omega
        by_cases hlt2 : i < nk
        · have hii2 : (i : Int) < (nk : Int) := by omega
          have hiw : IntKind.i64.wrap ((i : Int) + 1) = (i : Int) + 1 := wrap_q _ (by omega) (by omega)
          have hati : (rdEs s.data.toList st1 i).1.1 ≤ s.size := rdEs_at HLL.out i
          have HSe : Hid (rdEs s.data.toList st1 (i + 1) = ((rdE s.data.toList (rdEs s.data.toList st1 i).1).1, (rdEs s.data.toList st1 i).2 ++ [(rdE s.data.toList (rdEs s.data.toList st1 i).1).2])) := rfl
          have HN1 := hideg (fun W (h : RS s RB (rdEs s.data.toList st1 i).1 W) => pEdge_any s W base RB (rdEs s.data.toList st1 i).1 hs hati hb h)
          generalize rdE s.data.toList (rdEs s.data.toList st1 i).1 = E1 at *
          obtain ⟨tE, x, y, legs⟩ := E1
          simp only at HSe HN1
          have p1 : wr.cell? ⟨B, 2, none⟩ = some vE := by rw [Lib.cell_of_heap hO.box]; rfl
          obtain ⟨vo, vc, rfl, _, _⟩ := row_form hO.ed
          have HO := hideg hO
          have HG := hideg hG
          have HLm := hideg hLm
          have hBl : B < wr.heap.size := heap_ltg hO.box
          clear hO hG hLm hati hLi
          go_wp2_with fail
          refine wp_region_back (S := fun w' => w'.cell? ⟨B, 2, none⟩ = some (.slice vo L.length vc)) (by kernel_rfl) (by simp) (by kernel_rfl) (by kernel_rfl) p1 (fun hHeld => ?_)
          simp only [List.pop_toArray, List.dropLast, List.back!_toArray, List.getLast!]
          refine take_lit (i := 0) (v := ?_) rfl (by kernel_rfl) (by kernel_rfl) (by kernel_rfl) (fun _ _ _ h => h) (Or.inl ⟨by rfl, ?hy0⟩) (by assumption) ?_
          case hy0 => (intro w hSw; (try dsimp only at hSw); go_simp; try with_reducible rfl)
          try simp only [Act.put, List.setIfInBounds_toArray, List.set_cons_zero, List.set_cons_succ]
          refine take_lit (i := 1) (v := ?_) rfl (by kernel_rfl) (by kernel_rfl) (by kernel_rfl) (fun _ _ _ h => h) (Or.inl ⟨by rfl, ?hy1⟩) (by assumption) ?_
          case hy1 => (intro w hSw; (try dsimp only at hSw); go_simp; try with_reducible rfl)
          try simp only [Act.put, List.setIfInBounds_toArray, List.set_cons_zero, List.set_cons_succ]
          refine take_lit (i := 2) (v := ?_) rfl (by kernel_rfl) (by kernel_rfl) (by kernel_rfl) (fun _ _ _ h => h) (Or.inl ⟨by rfl, ?hy2⟩) (by assumption) ?_
          case hy2 => (intro w hSw; (try dsimp only at hSw); go_simp; try with_reducible rfl)
          try simp only [Act.put, List.setIfInBounds_toArray, List.set_cons_zero, List.set_cons_succ]
          refine next_lit (i := 3) rfl (by kernel_rfl) (fun KK hK => ?_)
          go_simp
          have bd : Below wr.heap.size wr wr.drew := (Below.refl _ _).drew
          have hOd := HO.out.below bd
          have hGd := HG.out.below bd (by omega) hb hRB
          refine (HN1.out _ hGd.rs).mono ?_
          rintro r v1 ⟨go, gc, rfl, hlg1, hE1, hq1⟩
          have hdz : wr.drew.heap.size = wr.heap.size := rfl
          rw [hdz] at hlg1
          have hO1 : GOwn B B v1 hh vL (.slice vo L.length vc) lvs L := hOd.moved fun b h1 h2 => hq1.blk b h2 (by omega)
          have hG1 := hGd.kE hq1 hE1 hRB
          have m1 : v1.cell? ⟨B, 2, none⟩ = some (.slice vo L.length vc) := by rw [Lib.cell_of_heap hO1.box]; rfl
          have hff : ∀ q ∈ L, ∀ k, q.2.ownBlock = some k → (Value.slice go legs.length gc).ownBlock ≠ some k := fun q hq k e1 e2 => by
            have h1 := (hOd.lg q hq).lt k e1
            have h2 := hlg1.lt k e2
            rw [hdz] at h1
            omega
          refine hK.out _ _ m1 (fun hHeld => ?_)
          clear hK KK hHeld
          try simp only [Act.put, List.setIfInBounds_toArray, List.set_cons_zero, List.set_cons_succ]
          refine next_lit (i := 4) rfl (by kernel_rfl) (fun KK hK => ?_)
          go_simp
          have hB1 : B < v1.heap.size := heap_ltg hO1.box
          have hwa : Below v1.heap.size v1 (v1.alloc (.cells #[.int .i64 x, .int .i64 y, .slice go legs.length gc] 68)) := gal v1 _
          have n1 := (hwa.cell (p := ⟨B, 2, none⟩) hB1).trans m1
          refine hK.out _ _ n1 (fun hHeld => ?_)
          clear hK KK hHeld
          try simp only [Act.put, List.setIfInBounds_toArray, List.set_cons_zero, List.set_cons_succ]
          refine next_lit (i := 5) rfl (by kernel_rfl) (fun KK hK => ?_)
          have hed0 := ownsRow_below hO1.ed hwa
          have hvg := owns_low (ownsRow_below hlg1 hwa) (show B ≤ wr.heap.size by omega)
          refine step_append_lies _ (by rfl) _ _ _ (by rfl) B 68 ie _ 3 40 Try.underlying23 hie he0 he1 he2 rfl (by omega) (.slice vo L.length vc) L.length (encE L) (by rfl) hed0 ⟨v1.heap.size, 0, none⟩ 1 1 [.int .i64 x, .int .i64 y, .slice go legs.length gc] (by rfl) (by rfl) (World.news_of_block (cs := #[.int .i64 x, .int .i64 y, .slice go legs.length gc]) (t := 68) (fr := (0, 0)) (heap_alloc_new v1 _)) (by simp [Value.oneCell']) (by omega) (by unfold maxLen; omega) (by omega) (by simp; omega) (v1.heap.size + 1) (by simp) ?_
          intro gg cap1 w5 hown1 hgrow hat hltg
          obtain ⟨hbox5, hO5⟩ := hO1.edgeW (legs := legs) hwa hgrow hvg hff hown1
          have x1 : w5.cell? ⟨B, 2, none⟩ = some (.slice vo L.length vc) := by rw [Lib.cell_of_heap hbox5]; rfl
          have fz5 : w5.frozen? ⟨B, 2, none⟩ = false := Lib.frozen_of_heap hbox5 2
          have HG5 : Hid (Rg s base RB w (w5.setCell ⟨B, 2, none⟩ (.slice (some ⟨gg, 0, none⟩) (L.length + 1) cap1)) (rdEs s.data.toList st1 (i + 1)).1) := by
            rw [HSe.out]
            exact hG1.below (((hwa.mono (Nat.le_of_lt hB1)).grown hgrow (Nat.le_trans (Nat.le_of_lt hB1) hwa.size) (fun j hj => (hed0.lt j hj).1)).setCell (p := ⟨B, 2, none⟩) (Nat.le_refl _) (.slice (some ⟨gg, 0, none⟩) (L.length + 1) cap1)) hwB hb hRB
          have HO5 : Hid (GOwn B B (w5.setCell ⟨B, 2, none⟩ (.slice (some ⟨gg, 0, none⟩) (L.length + 1) cap1)) hh vL (.slice (some ⟨gg, 0, none⟩) (L.length + 1) cap1) lvs (L ++ [((x, y, legs), .slice go legs.length gc)])) := hO5
          have HLm5 : Hid ((L ++ [((x, y, legs), Value.slice go legs.length gc)]).map (·.1) = (rdEs s.data.toList st1 (i + 1)).2) := by
            show _ = _
            rw [HSe.out, List.map_append, HLm.out]; rfl
          refine hK.out _ _ x1 (fun hHeld => ?_)
          clear hK KK hwa n1 m1 hgrow hown1 hbox5 hO5 hat hltg hed0 hvg hff hO1 hG1 hOd hGd hE1 hq1 hlg1 bd HN1
          try simp only [Act.put, List.setIfInBounds_toArray, List.set_cons_zero, List.set_cons_succ]
          refine take_lit (i := 6) (v := ?_) rfl (by kernel_rfl) (by kernel_rfl) (by kernel_rfl) (fun _ _ _ h => h) (Or.inl ⟨by rfl, ?hy6⟩) (by assumption) ?_
          case hy6 => (intro w hSw; (try dsimp only at hSw); go_simp; try with_reducible rfl)
          try simp only [Act.put, List.setIfInBounds_toArray, List.set_cons_zero, List.set_cons_succ]
          refine wpAnyH_done (by kernel_rfl) ?_ _
          refine back_last (fun KK hK => ?_)
          clear hHeld
          go_simp
          refine hK.out _ _ ?_
          clear hK KK x1 fz5 p1
          go_wp2
          go_roundw
          case rel => exact ⟨i + 1, _, _, by omega, by go_num, HO5.out, HLm5.out, HG5.out⟩
          case measure => simp [intOf]; omega
        · have hin2 : ¬ ((i : Int) < (nk : Int)) := by omega
          obtain rfl : i = nk := by omega
          have hRG := HRG.out
          generalize rdEs s.data.toList st1 i = RE at *
          obtain ⟨stE, eds⟩ := RE
          simp only at hLm hG hRG
          have HRG2 := hideg hRG
          have HLm := hideg hLm
          obtain ⟨la, lc, rfl, _, _⟩ := row_form hO.lv
          obtain ⟨ea, ec, rfl, _, _⟩ := row_form hO.ed
          have x0 : wr.cell? ⟨B, 0, none⟩ = some (.int .i64 hh) := by rw [Lib.cell_of_heap hO.box]; rfl
          have x1 : wr.cell? ⟨B, 1, none⟩ = some (.slice la lvs.length lc) := by rw [Lib.cell_of_heap hO.box]; rfl
          have x2 : wr.cell? ⟨B, 2, none⟩ = some (.slice ea L.length ec) := by rw [Lib.cell_of_heap hO.box]; rfl
          have r0 : wr.cell? ⟨w.heap.size, 0, none⟩ = some (.int .i64 0) := by rw [Lib.cell_of_heap hG.an]; rfl
          have r1 : wr.cell? ⟨w.heap.size, 1, none⟩ = some (.slice none 0 0) := by rw [Lib.cell_of_heap hG.an]; rfl
          have r2 : wr.cell? ⟨w.heap.size, 2, none⟩ = some (.slice none 0 0) := by rw [Lib.cell_of_heap hG.an]; rfl
          have f0 : wr.frozen? ⟨w.heap.size, 0, none⟩ = false := Lib.frozen_of_heap hG.an 0
          have f1 : wr.frozen? ⟨w.heap.size, 1, none⟩ = false := Lib.frozen_of_heap hG.an 1
          have f2 : wr.frozen? ⟨w.heap.size, 2, none⟩ = false := Lib.frozen_of_heap hG.an 2
          obtain ⟨wF, hwF⟩ : ∃ z, z = ((wr.setCell ⟨w.heap.size, 0, none⟩ (.int .i64 hh)).setCell ⟨w.heap.size, 1, none⟩ (.slice la lvs.length lc)).setCell ⟨w.heap.size, 2, none⟩ (.slice ea L.length ec) := ⟨_, rfl⟩
          have hBF : Below w.heap.size wr wF := by rw [hwF]; exact (((Below.refl _ _).setCell (p := ⟨w.heap.size, 0, none⟩) (Nat.le_refl _) _).setCell (p := ⟨w.heap.size, 1, none⟩) (Nat.le_refl _) _).setCell (p := ⟨w.heap.size, 2, none⟩) (Nat.le_refl _) _
          have hOF : GOwn B B wF hh (.slice la lvs.length lc) (.slice ea L.length ec) lvs L := hO.moved fun b h1 _ => by
            rw [hwF, Below.heap_setCell _ _ _ _ (by show b ≠ w.heap.size; omega), Below.heap_setCell _ _ _ _ (by show b ≠ w.heap.size; omega), Below.heap_setCell _ _ _ _ (by show b ≠ w.heap.size; omega)]
          have HF := hideg (⟨hOF, hG.rs.below hBF hRB, hG.ke.below hBF (Nat.le_refl _) (by omega)⟩ : _ ∧ _ ∧ _)
          have HWF := hideg hwF.symm
          clear hO hG hLm hRG HRG hBF hOF hwF hLi HLL
          go_wp2
          rw [HRG2.out]
          refine bodyPost_ret (v := .agg #[.int .i64 hh, .slice la lvs.length lc, .slice ea L.length ec]) (by simp [results, Try.results31, go_sem, r0, r1, r2]) rfl ?_
          rw [HWF.out]
          exact ⟨la, lc, ea, ec, L, rfl, HF.out.1, HLm.out, HF.out.2.1, HF.out.2.2⟩

end Go.Proofs.Yteibdmfcclkjpad
