/-
  What Decoded of the reference answers.
-/
import Derived.Test.YteibdmfcclkjpadPkDMath
import Derived.Test.YteibdmfcclkjpadPkCod
import Derived.Test.YteibdmfcclkjpadRGraph
namespace Go.Proofs.Yteibdmfcclkjpad
open Go.RowKit

theorem Try.infoIvlP : (Try.prog.info? 34).map (fun i => (i.zero, i.size, i.bytes)) = some (some (.agg #[.int .i64 0, .int .i64 0]), 2, 16) := by kernel_rfl
theorem Try.infoLegP : (Try.prog.info? 70).map (fun i => (i.zero, i.size, i.bytes)) = some (some (.agg #[.int .i64 0, .int .i64 0, .int .i64 0, .int .i64 0]), 4, 32) := by kernel_rfl
theorem Try.infoEdgeP : (Try.prog.info? 68).map (fun i => (i.zero, i.size, i.bytes)) = some (some (.agg #[.int .i64 0, .int .i64 0, .slice none 0 0]), 3, 40) := by kernel_rfl

set_option maxRecDepth 100000 in
set_option maxHeartbeats 2000000 in
theorem PDec_any (s : ByteArray) (w : World) (hs : s.size ≤ 4611686018427387904) :
    Calls Try.prog 9 #[.string s] w fun r w' => ∃ la' ea' lc' ec', r = .returned (.tuple #[.agg #[.int .i64 (decA s.data.toList).1.hor, .slice la' (decA s.data.toList).1.lives.length lc', .slice ea' (decA s.data.toList).1.edges.length ec'], .int .i64 (decA s.data.toList).2.1, .int .i64 (decA s.data.toList).2.2]) ∧ GAt w' la' ea' (decA s.data.toList).1 ∧ Below w.heap.size w w' := by
  obtain ⟨ii, hii, hi0, hi1, hi2⟩ := info_parts Try.infoIvlP
  obtain ⟨il, hil, hl0, hl1, hl2⟩ := info_parts Try.infoLegP
  obtain ⟨ie, hie, he0, he1, he2⟩ := info_parts Try.infoEdgeP
  have HL : Hid (s.data.toList.length = s.size) := rfl
  have HNx := hideg (fun W B st most h hat => next_ds s hs (w := w) (W := W) (B := B) (st := st) most h hat)
  obtain ⟨w2, hw2⟩ : ∃ x, x = ((((w.alloc (.cells #[.string s] 9)).alloc (.cells #[.int .i64 0, .slice none 0 0, .slice none 0 0] 25)).alloc (.cells #[.int .i64 0] 3)).alloc (.cells #[.int .i64 0] 26)).alloc (.cells #[.int .i64 0, .slice none 0 0, .slice none 0 0] 25) := ⟨_, rfl⟩
  obtain ⟨B, hB⟩ : ∃ B, B = w.heap.size + 1 + 1 + 1 + 1 := ⟨_, rfl⟩
  have hD2 : DS s w w2 B (0, 0) := by
    refine ⟨⟨?_, ?_⟩, ?_, ?_, ?_, hB⟩
    · rw [hw2, heap_alloc_old _ _ (by simp), heap_alloc_old _ _ (by simp)]
      have := heap_alloc_new ((w.alloc (.cells #[.string s] 9)).alloc (.cells #[.int .i64 0, .slice none 0 0, .slice none 0 0] 25)) (.cells #[.int .i64 0] 3)
      simpa using this
    · rw [hw2, heap_alloc_old _ _ (by simp)]
      have := heap_alloc_new (((w.alloc (.cells #[.string s] 9)).alloc (.cells #[.int .i64 0, .slice none 0 0, .slice none 0 0] 25)).alloc (.cells #[.int .i64 0] 3)) (.cells #[.int .i64 0] 26)
      simpa using this
    · rw [hw2, heap_alloc_old _ _ (by simp <;> omega), heap_alloc_old _ _ (by simp <;> omega), heap_alloc_old _ _ (by simp <;> omega), heap_alloc_old _ _ (by simp)]
      exact heap_alloc_new w _
    · rw [hw2, heap_alloc_old _ _ (by simp <;> omega), heap_alloc_old _ _ (by simp <;> omega), heap_alloc_old _ _ (by simp)]
      have := heap_alloc_new (w.alloc (.cells #[.string s] 9)) (.cells #[.int .i64 0, .slice none 0 0, .slice none 0 0] 25)
      simpa using this
    · rw [hw2]; exact ptg (ptg (ptg (ptg (gal w _) (gal _ _)) (gal _ _)) (gal _ _)) (gal _ _)
  have hG2 : GOwn B B w2 0 (.slice none 0 0) (.slice none 0 0) [] [] := by
    refine GOwn.first B B w2 ?_ (Nat.le_refl _)
    rw [hw2, hB]
    have := heap_alloc_new ((((w.alloc (.cells #[.string s] 9)).alloc (.cells #[.int .i64 0, .slice none 0 0, .slice none 0 0] 25)).alloc (.cells #[.int .i64 0] 3)).alloc (.cells #[.int .i64 0] 26)) (.cells #[.int .i64 0, .slice none 0 0, .slice none 0 0] 25)
    simpa using this
  have HG2 := hideg hG2
  have HD2 := hideg hD2
  have HW2 := hideg hw2.symm
  have HBB := hideg hB
  have hBw : w.heap.size + 1 + 1 + 1 < B := by omega
  clear hw2 hD2 hG2 hB
  have h1 := HNx.out w2 B (0, 0) 65535 HD2.out (Nat.zero_le _)
  go_enter Try.func9, Try.ntmps9
  go_wp2_with fail
  rw [HW2.out, ← HBB.out]
  refine h1.mono ?_
  rintro r w3 ⟨rfl, hD3, hk3⟩
  have hG3 := HG2.out.kn hk3 (by omega) (by omega)
  have hh0 : w3.cell? ⟨B, 0, none⟩ = some (.int .i64 0) := by rw [Lib.cell_of_heap hG3.box]; rfl
  have fh0 : w3.frozen? ⟨B, 0, none⟩ = false := Lib.frozen_of_heap hG3.box 0
  have hG4 := hG3.setHor (nx s.data.toList (0, 0) 65535).2
  have hD4 := hD3.below ((Below.refl B w3).setCell (p := ⟨B, 0, none⟩) (Nat.le_refl _) (.int .i64 (nx s.data.toList (0, 0) 65535).2))
  have HHd : Hid (hdH s.data.toList = nx s.data.toList (0, 0) 65535) := rfl
  have HVd : Hid (hdV s.data.toList = nx s.data.toList (hdH s.data.toList).1 12) := rfl
  have HKd : Hid (hdK s.data.toList = nx s.data.toList (hdV s.data.toList).1 30) := rfl
  rw [← HHd.out] at hG4 hD4 ⊢
  have hat4 : (hdH s.data.toList).1.1 ≤ s.size := by rw [HHd.out, ← HL.out]; exact nx_at (Nat.zero_le _)
  have hat5 : (hdV s.data.toList).1.1 ≤ s.size := by rw [HVd.out, ← HL.out]; exact nx_at hat4
  have hat6 : (hdK s.data.toList).1.1 ≤ s.size := by rw [HKd.out, ← HL.out]; exact nx_at hat5
  have hv12 := nx_range (s := s.data.toList) (st := (hdH s.data.toList).1) (most := 12) (by omega)
  have hk30 := nx_range (s := s.data.toList) (st := (hdV s.data.toList).1) (most := 30) (by omega)
  rw [← HVd.out] at hv12
  rw [← HKd.out] at hk30
  have h2 := HNx.out _ B _ 12 hD4 hat4
  rw [← HVd.out] at h2
  have HG4 := hideg hG4
  have HLs : Hid (rdLs s.data.toList = rdLv s.data.toList (hdK s.data.toList).1 (hdV s.data.toList).2.toNat) := rfl
  have HRG : Hid (rdG s.data.toList = ((rdEs s.data.toList (rdLs s.data.toList).1 (hdK s.data.toList).2.toNat).1, ⟨(hdH s.data.toList).2, (rdLs s.data.toList).2, (rdEs s.data.toList (rdLs s.data.toList).1 (hdK s.data.toList).2.toNat).2⟩)) := rfl
  generalize (hdH s.data.toList).2 = hh at *
  clear h1 hD3 hk3 hG3 HG2 HD2 HW2 hG4 hD4 HHd
  go_wp2_with fail
  refine h2.mono ?_
  rintro r w5 ⟨rfl, hD5, hk5⟩
  have hG5 := HG4.out.kn hk5 (by omega) (by omega)
  have HG5 := hideg hG5
  have h3 := HNx.out _ B _ 30 hD5 hat5
  rw [← HKd.out] at h3
  clear h2 hk5 hG5 HG4 hD5 hh0 fh0
  go_wp2_with fail
  refine h3.mono ?_
  rintro r w6 ⟨rfl, hD6, hk6⟩
  have HG6 := hideg (HG5.out.kn hk6 (by omega) (by omega))
  have HD6 := hideg hD6
  obtain ⟨nv, hnv⟩ : ∃ nv : Nat, (hdV s.data.toList).2 = (nv : Int) := ⟨(hdV s.data.toList).2.toNat, by omega⟩
  obtain ⟨nk, hnk⟩ : ∃ nk : Nat, (hdK s.data.toList).2 = (nk : Int) := ⟨(hdK s.data.toList).2.toNat, by omega⟩
  rw [hnv, Int.toNat_natCast] at HLs
  rw [hnk, Int.toNat_natCast] at HRG
  rw [hnv, hnk]
  have hnv12 : nv ≤ 12 := by omega
  have hnk30 : nk ≤ 30 := by omega
  obtain ⟨st0, hst0⟩ : ∃ x, x = (hdK s.data.toList).1 := ⟨_, rfl⟩
  rw [← hst0] at HD6 HLs hat6
  have HLl : Hid (st0.1 ≤ s.data.toList.length) := by show _ ≤ _; rw [HL.out]; exact hat6
  clear h3 hk6 HG5 hD6 hv12 hk30 hnv hnk hst0 hat4 hat5 hat6 HVd HKd
  go_wp2_with fail
  go_loopw [11] (fun i wr => ∃ (k : Nat) (vL : Value), k ≤ nv ∧ i = .int .i64 (k : Int) ∧ GOwn B B wr hh vL (.slice none 0 0) (rdLv s.data.toList st0 k).2 [] ∧ DS s w wr B (rdLv s.data.toList st0 k).1) (fun i _ => nv - (intOf i).toNat)
  case atStart => exact ⟨0, _, Nat.zero_le _, rfl, HG6.out, HD6.out⟩
  case round =>
    clear HG6 HD6
    obtain ⟨k, vL, hk, rfl, hO, hD⟩ := hrel
    by_cases hlt : k < nv
    · have hki : (k : Int) < (nv : Int) := by omega
      have hkw : IntKind.i64.wrap ((k : Int) + 1) = (k : Int) + 1 := wrap_q _ (by omega) (by omega)
      have hatk : (rdLv s.data.toList st0 k).1.1 ≤ s.size := rdLv_at HLl.out k
      have hll := rdLv_len s.data.toList st0 k
      have HS : Hid (rdLv s.data.toList st0 (k + 1) = ((nx s.data.toList (nx s.data.toList (rdLv s.data.toList st0 k).1 65535).1 65535).1, (rdLv s.data.toList st0 k).2 ++ [((nx s.data.toList (rdLv s.data.toList st0 k).1 65535).2, (nx s.data.toList (nx s.data.toList (rdLv s.data.toList st0 k).1 65535).1 65535).2)])) := rfl
      have h1 := HNx.out wr B _ 65535 hD hatk
      have hat1 : (nx s.data.toList (rdLv s.data.toList st0 k).1 65535).1.1 ≤ s.size := nx_at hatk
      generalize hn1 : nx s.data.toList (rdLv s.data.toList st0 k).1 65535 = N1 at *
      have HO := hideg hO
      clear hO hD hatk
      go_wp2_with fail
      refine h1.mono ?_
      rintro r w7 ⟨rfl, hD7, hk7⟩
      have hO7 := HO.out.kn hk7 (by omega) (by omega)
      have h2 := HNx.out
      generalize hn2 : nx s.data.toList N1.1 65535 = N2 at *
      obtain ⟨z1, ez1⟩ : ∃ z, z = N1.2 := ⟨_, rfl⟩
      obtain ⟨z2, ez2⟩ : ∃ z, z = N2.2 := ⟨_, rfl⟩
      rw [← ez1, ← ez2] at HS
      rw [← ez1]
      have p1 : w7.cell? ⟨B, 1, none⟩ = some vL := by rw [Lib.cell_of_heap hO7.box]; rfl
      obtain ⟨vo, vc, rfl, _, _⟩ := row_form hO7.lv
      have HO7 := hideg hO7
      have HD7 := hideg hD7
      rw [hll] at p1
      have hBl : B < w7.heap.size := heap_ltg hO7.box
      have HCn : Hid (∀ W, Below w7.heap.size w7 W → Calls Try.prog 34 #[.int .i64 65535, .pointer (some ⟨w.heap.size + 1 + 1 + 1, 0, none⟩), .pointer (some ⟨w.heap.size + 1 + 1, 0, none⟩), .pointer (some ⟨w.heap.size, 0, none⟩)] W fun r W' => r = .returned (.int .i64 z2) ∧ DS s w W' B N2.1 ∧ Kn w.heap.size (w.heap.size + 1 + 1) (w.heap.size + 1 + 1 + 1) W W') := by
        intro W hb
        have := HNx.out W B N1.1 65535 (HD7.out.below (hb.mono (Nat.le_of_lt hBl))) hat1
        rw [hn2, ← ez2] at this
        exact this
      clear h1 h2 hk7 HO hO7 hD7 ez1 ez2
      go_wp2_with fail
      refine wp_region_back (S := fun w' => w'.cell? ⟨B, 1, none⟩ = some (.slice vo k vc)) (by kernel_rfl) (by simp) (by kernel_rfl) (by kernel_rfl) p1 (fun hHeld => ?_)
      simp only [List.pop_toArray, List.dropLast, List.back!_toArray, List.getLast!]
      refine take_lit (i := 0) (v := ?_) rfl (by kernel_rfl) (by kernel_rfl) (by kernel_rfl) (fun _ _ _ h => h) (Or.inl ⟨by rfl, ?hy0⟩) (by assumption) ?_
      case hy0 => (intro w hSw; (try dsimp only at hSw); go_simp; try with_reducible rfl)
      try simp only [Act.put, List.setIfInBounds_toArray, List.set_cons_zero, List.set_cons_succ]
      refine take_lit (i := 1) (v := ?_) rfl (by kernel_rfl) (by kernel_rfl) (by kernel_rfl) (fun _ _ _ h => h) (Or.inl ⟨by rfl, ?hy1⟩) (by assumption) ?_
      case hy1 => (intro w hSw; (try dsimp only at hSw); go_simp; try with_reducible rfl)
      try simp only [Act.put, List.setIfInBounds_toArray, List.set_cons_zero, List.set_cons_succ]
      refine take_lit (i := 2) (v := ?_) rfl (by kernel_rfl) (by kernel_rfl) (by kernel_rfl) (fun _ _ _ h => h) (Or.inl ⟨by rfl, ?hy2⟩) (by assumption) ?_
      case hy2 => (intro w hSw; (try dsimp only at hSw); go_simp; try with_reducible rfl)
      try simp only [Act.put, List.setIfInBounds_toArray, List.set_cons_zero, List.set_cons_succ]
      refine take_lit (i := 3) (v := ?_) rfl (by kernel_rfl) (by kernel_rfl) (by kernel_rfl) (fun _ _ _ h => h) (Or.inl ⟨by rfl, ?hy3⟩) (by assumption) ?_
      case hy3 => (intro w hSw; (try dsimp only at hSw); go_simp; try with_reducible rfl)
      try simp only [Act.put, List.setIfInBounds_toArray, List.set_cons_zero, List.set_cons_succ]
      refine next_lit (i := 4) rfl (by kernel_rfl) (fun KK hK => ?_)
      go_simp
      have bd : Below w7.heap.size w7 w7.drew := (Below.refl _ _).drew
      refine (HCn.out _ bd).mono ?_
      rintro r w8 ⟨rfl, hD8, hk8⟩
      have hO8 := (HO7.out.below bd).kn hk8 (by omega) (by omega)
      have m1 : w8.cell? ⟨B, 1, none⟩ = some (.slice vo k vc) := by rw [Lib.cell_of_heap hO8.box, hll]; rfl
      refine hK.out _ _ m1 (fun hHeld => ?_)
      clear hK KK
      try simp only [Act.put, List.setIfInBounds_toArray, List.set_cons_zero, List.set_cons_succ]
      refine take_lit (i := 5) (v := ?_) rfl (by kernel_rfl) (by kernel_rfl) (by kernel_rfl) (fun _ _ _ h => h) (Or.inl ⟨by rfl, ?hy5⟩) (by assumption) ?_
      case hy5 => (intro w hSw; (try dsimp only at hSw); go_simp; try with_reducible rfl)
      try simp only [Act.put, List.setIfInBounds_toArray, List.set_cons_zero, List.set_cons_succ]
      clear hHeld
      refine next_lit (i := 6) rfl (by kernel_rfl) (fun KK hK => ?_)
      go_simp
      have hB8 : B < w8.heap.size := heap_ltg hO8.box
      have hwa : Below w8.heap.size w8 (w8.alloc (.cells #[.int .i64 z1, .int .i64 z2] 34)) := gal w8 _
      have n1 := (hwa.cell (p := ⟨B, 1, none⟩) hB8).trans m1
      refine hK.out _ _ n1 (fun hHeld => ?_)
      clear hK KK hHeld
      try simp only [Act.put, List.setIfInBounds_toArray, List.set_cons_zero, List.set_cons_succ]
      refine next_lit (i := 7) rfl (by kernel_rfl) (fun KK hK => ?_)
      have hlv0 := ownsRow_below hO8.lv hwa
      rw [hll] at hlv0
      refine step_append_lies _ (by rfl) _ _ _ (by rfl) B 34 ii _ 2 16 Try.underlying22 hii hi0 hi1 hi2 rfl (by omega) (.slice vo k vc) k (encs (rdLv s.data.toList st0 k).2) (by rfl) hlv0 ⟨w8.heap.size, 0, none⟩ 1 1 [.int .i64 z1, .int .i64 z2] (by rfl) (by rfl) (World.news_of_block (cs := #[.int .i64 z1, .int .i64 z2]) (t := 34) (fr := (0, 0)) (heap_alloc_new w8 _)) (by simp [Value.oneCell']) (by omega) (by unfold maxLen; omega) (by omega) (by simp; omega) (w8.heap.size + 1) (by simp) ?_
      intro gg cap1 w4 hown1 hgrow hat hltg
      have hown2 : w4.ownsRow B 34 2 (.slice (some ⟨gg, 0, none⟩) (k + 1) cap1) ((rdLv s.data.toList st0 k).2.length + 1) (encs (rdLv s.data.toList st0 k).2 ++ [.int .i64 z1, .int .i64 z2]) := by rw [hll]; exact hown1
      have hgr2 := hgrow
      rw [← hll] at hgr2
      obtain ⟨hbox4, hG4⟩ := hO8.life hwa hgr2 hown2
      rw [hll] at hbox4
      have x1 : w4.cell? ⟨B, 1, none⟩ = some (.slice vo k vc) := by rw [Lib.cell_of_heap hbox4]; rfl
      have fz4 : w4.frozen? ⟨B, 1, none⟩ = false := Lib.frozen_of_heap hbox4 1
      have HD4 : Hid (DS s w (w4.setCell ⟨B, 1, none⟩ (.slice (some ⟨gg, 0, none⟩) (k + 1) cap1)) B (rdLv s.data.toList st0 (k + 1)).1) := by
        rw [HS.out]
        exact hD8.below (((hwa.mono (Nat.le_of_lt hB8)).grown hgrow (Nat.le_trans (Nat.le_of_lt hB8) hwa.size) (fun j hj => (hlv0.lt j hj).1)).setCell (p := ⟨B, 1, none⟩) (Nat.le_refl _) (.slice (some ⟨gg, 0, none⟩) (k + 1) cap1))
      have HG4 : Hid (GOwn B B (w4.setCell ⟨B, 1, none⟩ (.slice (some ⟨gg, 0, none⟩) (k + 1) cap1)) hh (.slice (some ⟨gg, 0, none⟩) (k + 1) cap1) (.slice none 0 0) (rdLv s.data.toList st0 (k + 1)).2 []) := by rw [HS.out]; exact hG4
      refine hK.out _ _ x1 (fun hHeld => ?_)
      clear hK KK hwa n1 m1 hgrow hgr2 hown1 hown2 hbox4 hG4 hat hltg hlv0 hk8 hO8 hD8 bd
      try simp only [Act.put, List.setIfInBounds_toArray, List.set_cons_zero, List.set_cons_succ]
      refine take_lit (i := 8) (v := ?_) rfl (by kernel_rfl) (by kernel_rfl) (by kernel_rfl) (fun _ _ _ h => h) (Or.inl ⟨by rfl, ?hy8⟩) (by assumption) ?_
      case hy8 => (intro w hSw; (try dsimp only at hSw); go_simp; try with_reducible rfl)
      try simp only [Act.put, List.setIfInBounds_toArray, List.set_cons_zero, List.set_cons_succ]
      refine wpAnyH_done (by kernel_rfl) ?_ _
      refine back_last (fun KK hK => ?_)
      clear hHeld
      go_simp
      refine hK.out _ _ ?_
      clear hK KK x1 fz4 p1
      go_wp2
      go_roundw
      case rel => exact ⟨k + 1, _, by omega, by go_num, HG4.out, HD4.out⟩
      case measure => simp [intOf]; omega
    · have hkn : ¬ ((k : Int) < (nv : Int)) := by omega
      obtain rfl : k = nv := by omega
      rw [← HLs.out] at hO hD
      have HO := hideg hO
      have HD := hideg hD
      have hatL : (rdLs s.data.toList).1.1 ≤ s.data.toList.length := by rw [HLs.out]; exact rdLv_at HLl.out _
      have HLL := hideg hatL
      generalize rdLs s.data.toList = RL at *
      obtain ⟨st1, lvs⟩ := RL
      simp only at HO HD HLL HRG
      clear hO hD hatL hlt HLs HLl
      obtain ⟨wo, hwo⟩ : ∃ x, x = wr := ⟨_, rfl⟩
      subst hwo
      go_wp2_with fail
      go_loopw [13] (fun i wr => ∃ (k : Nat) (vE : Value) (L : List (Ed × Value)), k ≤ nk ∧ i = .int .i64 (k : Int) ∧ GOwn B B wr hh vL vE lvs L ∧ L.map (·.1) = (rdEs s.data.toList st1 k).2 ∧ DS s w wr B (rdEs s.data.toList st1 k).1) (fun i _ => nk - (intOf i).toNat)
      case atStart => exact ⟨0, _, [], Nat.zero_le _, rfl, HO.out, rfl, HD.out⟩
      case round =>
        clear HO HD
        obtain ⟨i, vE, L, hi, rfl, hO, hLm, hD⟩ := hrel
        by_cases hlt2 : i < nk
        · have hii2 : (i : Int) < (nk : Int) := by omega
          have hiw : IntKind.i64.wrap ((i : Int) + 1) = (i : Int) + 1 := wrap_q _ (by omega) (by omega)
          have hati : (rdEs s.data.toList st1 i).1.1 ≤ s.size := rdEs_at HLL.out i
          have HSe : Hid (rdEs s.data.toList st1 (i + 1) = ((rdE s.data.toList (rdEs s.data.toList st1 i).1).1, (rdEs s.data.toList st1 i).2 ++ [(rdE s.data.toList (rdEs s.data.toList st1 i).1).2])) := rfl
          have hLL : L.length ≤ 30 := by
            have : L.length = i := by rw [← rdEs_len s.data.toList st1 i, ← hLm]; simp
            omega
          obtain ⟨sti, hsti⟩ : ∃ x, x = (rdEs s.data.toList st1 i).1 := ⟨_, rfl⟩
          rw [← hsti] at HSe hati hD
          have HEe : Hid (rdE s.data.toList sti = ((rdLg s.data.toList (rdM s.data.toList sti).1 (rdM s.data.toList sti).2.toNat).1, ((rdA s.data.toList sti).2, (rdB s.data.toList sti).2, (rdLg s.data.toList (rdM s.data.toList sti).1 (rdM s.data.toList sti).2.toNat).2))) := rfl
          have hatA : (rdA s.data.toList sti).1.1 ≤ s.size := nx_at hati
          have hatB : (rdB s.data.toList sti).1.1 ≤ s.size := nx_at hatA
          have hatM : (rdM s.data.toList sti).1.1 ≤ s.size := nx_at hatB
          have hm6 := nx_range (s := s.data.toList) (st := (rdB s.data.toList sti).1) (most := 6) (by omega)
          have h1 : Calls Try.prog 34 _ wr _ := HNx.out wr B sti 65535 hD hati
          have HA2 : Hid (∀ W, DS s w W B (rdA s.data.toList sti).1 → Calls Try.prog 34 #[.int .i64 65535, .pointer (some ⟨w.heap.size + 1 + 1 + 1, 0, none⟩), .pointer (some ⟨w.heap.size + 1 + 1, 0, none⟩), .pointer (some ⟨w.heap.size, 0, none⟩)] W fun r W' => r = .returned (.int .i64 (rdB s.data.toList sti).2) ∧ DS s w W' B (rdB s.data.toList sti).1 ∧ Kn w.heap.size (w.heap.size + 1 + 1) (w.heap.size + 1 + 1 + 1) W W') := fun W h => HNx.out W B _ 65535 h hatA
          have HA3 : Hid (∀ W, DS s w W B (rdB s.data.toList sti).1 → Calls Try.prog 34 #[.int .i64 6, .pointer (some ⟨w.heap.size + 1 + 1 + 1, 0, none⟩), .pointer (some ⟨w.heap.size + 1 + 1, 0, none⟩), .pointer (some ⟨w.heap.size, 0, none⟩)] W fun r W' => r = .returned (.int .i64 (rdM s.data.toList sti).2) ∧ DS s w W' B (rdM s.data.toList sti).1 ∧ Kn w.heap.size (w.heap.size + 1 + 1) (w.heap.size + 1 + 1 + 1) W W') := fun W h => HNx.out W B _ 6 h hatB
          have h1' : Calls Try.prog 34 #[.int .i64 65535, .pointer (some ⟨w.heap.size + 1 + 1 + 1, 0, none⟩), .pointer (some ⟨w.heap.size + 1 + 1, 0, none⟩), .pointer (some ⟨w.heap.size, 0, none⟩)] wr fun r W' => r = .returned (.int .i64 (rdA s.data.toList sti).2) ∧ DS s w W' B (rdA s.data.toList sti).1 ∧ Kn w.heap.size (w.heap.size + 1 + 1) (w.heap.size + 1 + 1 + 1) wr W' := h1
          have hm6' : 0 ≤ (rdM s.data.toList sti).2 ∧ (rdM s.data.toList sti).2 ≤ 6 := hm6
          obtain ⟨nm, hnm⟩ : ∃ nm : Nat, (rdM s.data.toList sti).2 = (nm : Int) := ⟨(rdM s.data.toList sti).2.toNat, by omega⟩
          rw [hnm] at HA3
          rw [hnm, Int.toNat_natCast] at HEe
          have hnm6 : nm ≤ 6 := by omega
          generalize (rdA s.data.toList sti).2 = eA at *
          generalize (rdB s.data.toList sti).2 = eB at *
          have HO := hideg hO
          have HLm := hideg hLm
          clear h1 hO hD hLm hsti hm6 hm6' hnm hati hatA hatB
          go_wp2_with fail
          refine h1'.mono ?_
          rintro r w7 ⟨rfl, hD7, hk7⟩
          have HO7 := hideg (HO.out.kn hk7 (by omega) (by omega))
          have h2 := HA2.out w7 hD7
          clear h1' HO hk7 hD7 HA2
          go_wp2_with fail
          refine h2.mono ?_
          rintro r w8 ⟨rfl, hD8, hk8⟩
          have hO8 := HO7.out.kn hk8 (by omega) (by omega)
          obtain ⟨wx, hwx⟩ : ∃ x, x = w8.alloc (.cells #[.int .i64 eA, .int .i64 eB, .slice none 0 0] 68) := ⟨_, rfl⟩
          have bx : Below w8.heap.size w8 wx := by rw [hwx]; exact gal w8 _
          have hB8 : B < w8.heap.size := heap_ltg hO8.box
          have hDx := hD8.below (bx.mono (Nat.le_of_lt hB8))
          have hkx : wx.heap[w8.heap.size]? = some (.cells #[.int .i64 eA, .int .i64 eB, .slice none 0 0] 68 (0, 0)) := by rw [hwx]; exact heap_alloc_new w8 _
          have h3 := HA3.out wx hDx
          have HWX := hideg hwx.symm
          have HO8 := hideg hO8
          have HKX := hideg hkx
          have HBX := hideg bx
          clear h2 HO7 hk8 hD8 HA3 hwx hO8 hkx hDx bx
          go_wp2_with fail
          rw [HWX.out]
          refine h3.mono ?_
          rintro r w9 ⟨rfl, hD9, hk9⟩
          obtain ⟨XB, hXB⟩ : ∃ x, x = w8.heap.size := ⟨_, rfl⟩
          have hBX : B < XB := by omega
          have hLS9 : LS w8 w9 B XB eA eB (.slice none 0 0) [] := by
            have h0 : LS w8 wx B XB eA eB (.slice none 0 0) [] := ⟨fun b _ h2 => HBX.out.block b (by omega), by rw [hXB]; exact HKX.out, World.ownsRow_nil _ _ _ _⟩
            exact h0.kn hk9 (by omega) (by omega) (by omega)
          have HLS9 := hideg hLS9
          have HD9 := hideg hD9
          obtain ⟨stM, hstM⟩ : ∃ x, x = (rdM s.data.toList sti).1 := ⟨_, rfl⟩
          rw [← hstM] at HD9 HEe hatM
          have HLM : Hid (stM.1 ≤ s.data.toList.length) := by show _ ≤ _; rw [HL.out]; exact hatM
          have HXB := hideg hXB
          rw [← hXB]
          clear h3 hk9 hD9 hLS9 HWX HKX HBX hstM hatM hXB
          go_wp2_with fail
          go_loopw [17] (fun j wq => ∃ (m : Nat) (vG : Value), m ≤ nm ∧ j = .int .i64 (m : Int) ∧ LS w8 wq B XB eA eB vG (rdLg s.data.toList stM m).2 ∧ DS s w wq B (rdLg s.data.toList stM m).1) (fun j _ => nm - (intOf j).toNat)
          case atStart => exact ⟨0, _, Nat.zero_le _, rfl, HLS9.out, HD9.out⟩
          case round =>
            clear HLS9 HD9
            obtain ⟨m, vG, hm, rfl, hS, hD⟩ := hrel
            by_cases hml : m < nm
            · have hmi : (m : Int) < (nm : Int) := by omega
              have hmw : IntKind.i64.wrap ((m : Int) + 1) = (m : Int) + 1 := wrap_q _ (by omega) (by omega)
              have HSg : Hid (rdLg s.data.toList stM (m + 1) = ((rd1 s.data.toList (rdLg s.data.toList stM m).1).1, (rdLg s.data.toList stM m).2 ++ [(rd1 s.data.toList (rdLg s.data.toList stM m).1).2])) := rfl
              have hllg := rdLg_len s.data.toList stM m
              have hatg : (rdLg s.data.toList stM m).1.1 ≤ s.size := rdLg_at HLM.out m
              obtain ⟨tm, htm⟩ : ∃ x, x = (rdLg s.data.toList stM m).1 := ⟨_, rfl⟩
              rw [← htm] at HSg hatg hD
              have H1d : Hid (rd1 s.data.toList tm = ((nx s.data.toList (nx s.data.toList (nx s.data.toList (nx s.data.toList tm 65535).1 65535).1 65535).1 65535).1, ((nx s.data.toList tm 65535).2, (nx s.data.toList (nx s.data.toList tm 65535).1 65535).2, (nx s.data.toList (nx s.data.toList (nx s.data.toList tm 65535).1 65535).1 65535).2, (nx s.data.toList (nx s.data.toList (nx s.data.toList (nx s.data.toList tm 65535).1 65535).1 65535).1 65535).2))) := rfl
              have HC0 : Hid (∀ W, DS s w W B tm → Calls Try.prog 34 #[.int .i64 65535, .pointer (some ⟨w.heap.size + 1 + 1 + 1, 0, none⟩), .pointer (some ⟨w.heap.size + 1 + 1, 0, none⟩), .pointer (some ⟨w.heap.size, 0, none⟩)] W fun r W' => r = .returned (.int .i64 (nx s.data.toList tm 65535).2) ∧ DS s w W' B (nx s.data.toList tm 65535).1 ∧ Kn w.heap.size (w.heap.size + 1 + 1) (w.heap.size + 1 + 1 + 1) W W') := fun W h => HNx.out W B tm 65535 h hatg
              have hat1 : (nx s.data.toList tm 65535).1.1 ≤ s.size := nx_at hatg
              generalize nx s.data.toList tm 65535 = N1 at *
              have HC1 : Hid (∀ W, DS s w W B N1.1 → Calls Try.prog 34 #[.int .i64 65535, .pointer (some ⟨w.heap.size + 1 + 1 + 1, 0, none⟩), .pointer (some ⟨w.heap.size + 1 + 1, 0, none⟩), .pointer (some ⟨w.heap.size, 0, none⟩)] W fun r W' => r = .returned (.int .i64 (nx s.data.toList N1.1 65535).2) ∧ DS s w W' B (nx s.data.toList N1.1 65535).1 ∧ Kn w.heap.size (w.heap.size + 1 + 1) (w.heap.size + 1 + 1 + 1) W W') := fun W h => HNx.out W B N1.1 65535 h hat1
              have hat2 : (nx s.data.toList N1.1 65535).1.1 ≤ s.size := nx_at hat1
              generalize nx s.data.toList N1.1 65535 = N2 at *
              have HC2 : Hid (∀ W, DS s w W B N2.1 → Calls Try.prog 34 #[.int .i64 65535, .pointer (some ⟨w.heap.size + 1 + 1 + 1, 0, none⟩), .pointer (some ⟨w.heap.size + 1 + 1, 0, none⟩), .pointer (some ⟨w.heap.size, 0, none⟩)] W fun r W' => r = .returned (.int .i64 (nx s.data.toList N2.1 65535).2) ∧ DS s w W' B (nx s.data.toList N2.1 65535).1 ∧ Kn w.heap.size (w.heap.size + 1 + 1) (w.heap.size + 1 + 1 + 1) W W') := fun W h => HNx.out W B N2.1 65535 h hat2
              have hat3 : (nx s.data.toList N2.1 65535).1.1 ≤ s.size := nx_at hat2
              generalize nx s.data.toList N2.1 65535 = N3 at *
              have HC3 : Hid (∀ W, DS s w W B N3.1 → Calls Try.prog 34 #[.int .i64 65535, .pointer (some ⟨w.heap.size + 1 + 1 + 1, 0, none⟩), .pointer (some ⟨w.heap.size + 1 + 1, 0, none⟩), .pointer (some ⟨w.heap.size, 0, none⟩)] W fun r W' => r = .returned (.int .i64 (nx s.data.toList N3.1 65535).2) ∧ DS s w W' B (nx s.data.toList N3.1 65535).1 ∧ Kn w.heap.size (w.heap.size + 1 + 1) (w.heap.size + 1 + 1 + 1) W W') := fun W h => HNx.out W B N3.1 65535 h hat3
              generalize nx s.data.toList N3.1 65535 = N4 at *
              rw [H1d.out] at HSg
              obtain ⟨t1, l1⟩ := N1
              obtain ⟨t2, l2⟩ := N2
              obtain ⟨t3, l3⟩ := N3
              obtain ⟨t4, l4⟩ := N4
              simp only at HC0 HC1 HC2 HC3 HSg
              obtain ⟨YB, hYB⟩ : ∃ x, x = wr.heap.size := ⟨_, rfl⟩
              have hXl : XB < wr.heap.size := heap_ltg hS.bx
              have hXY : XB < YB := by omega
              have hGY : vG.ownBlock ≠ some YB := fun e => by have := (hS.lg.lt YB e).2; omega
              obtain ⟨wa, hwa⟩ : ∃ x, x = wr.alloc (.cells #[.int .i64 0, .int .i64 0, .int .i64 0, .int .i64 0] 70) := ⟨_, rfl⟩
              have ba : Below wr.heap.size wr wa := by rw [hwa]; exact gal wr _
              have hya : wa.heap[YB]? = some (.cells #[.int .i64 0, .int .i64 0, .int .i64 0, .int .i64 0] 70 (0, 0)) := by rw [hwa, hYB]; exact heap_alloc_new wr _
              have hSa := hS.below ba
              have hDa := hD.below (ba.mono (by omega))
              have h0 := HC0.out wa hDa
              have HYa := hideg hya
              have HSa := hideg hSa
              have HWA := hideg hwa.symm
              have HYB := hideg hYB
              have hBY : B ≤ YB := by omega
              clear hS hD hwa ba hya hSa hDa hatg hat1 hat2 hat3 htm H1d HC0 hYB
              go_wp2_with fail
              rw [HWA.out]
              refine h0.mono ?_
              rintro r v1 ⟨rfl, hE1, hq1⟩
              have hS1 := (HSa.out.kn hq1 (by omega) (by omega) (by omega)).setY hXY hGY 0 (.int .i64 l1)
              have hy1 : v1.heap[YB]? = some (.cells #[.int .i64 0, .int .i64 0, .int .i64 0, .int .i64 0] 70 (0, 0)) := (hq1.blk YB (by omega) (by omega)).trans HYa.out
              have c1 : v1.cell? ⟨YB, 0, none⟩ = some (.int .i64 0) := by rw [Lib.cell_of_heap hy1]; rfl
              have f1 : v1.frozen? ⟨YB, 0, none⟩ = false := Lib.frozen_of_heap hy1 0
              have hz1 : (v1.setCell ⟨YB, 0, none⟩ (.int .i64 l1)).heap[YB]? = some (.cells #[.int .i64 l1, .int .i64 0, .int .i64 0, .int .i64 0] 70 (0, 0)) := box_set hy1 0 _
              have hF1 := hE1.below ((Below.refl B v1).setCell (p := ⟨YB, 0, none⟩) hBY (.int .i64 l1))
              have h1 := HC1.out _ hF1
              have HS1 := hideg hS1
              have HZ1 := hideg hz1
              rw [← HYB.out]
              clear h0 hE1 hq1 hS1 hy1 hz1 hF1 HSa HYa HWA HC1
              go_wp2_with fail
              refine h1.mono ?_
              rintro r v2 ⟨rfl, hE2, hq2⟩
              have hS2 := (HS1.out.kn hq2 (by omega) (by omega) (by omega)).setY hXY hGY 1 (.int .i64 l2)
              have hy2 := (hq2.blk YB (by omega) (by omega)).trans HZ1.out
              clear c1 f1
              have c2 : v2.cell? ⟨YB, 1, none⟩ = some (.int .i64 0) := by rw [Lib.cell_of_heap hy2]; rfl
              have f2 : v2.frozen? ⟨YB, 1, none⟩ = false := Lib.frozen_of_heap hy2 1
              have hz2 : (v2.setCell ⟨YB, 1, none⟩ (.int .i64 l2)).heap[YB]? = some (.cells #[.int .i64 l1, .int .i64 l2, .int .i64 0, .int .i64 0] 70 (0, 0)) := box_set hy2 1 _
              have hF2 := hE2.below ((Below.refl B v2).setCell (p := ⟨YB, 1, none⟩) hBY (.int .i64 l2))
              have h2 := HC2.out _ hF2
              have HS2 := hideg hS2
              have HZ2 := hideg hz2
              clear h1 hE2 hq2 hS2 hy2 hz2 hF2 HS1 HZ1 HC2
              go_wp2_with fail
              refine h2.mono ?_
              rintro r v3 ⟨rfl, hE3, hq3⟩
              have hS3 := (HS2.out.kn hq3 (by omega) (by omega) (by omega)).setY hXY hGY 2 (.int .i64 l3)
              have hy3 := (hq3.blk YB (by omega) (by omega)).trans HZ2.out
              clear c2 f2
              have c3 : v3.cell? ⟨YB, 2, none⟩ = some (.int .i64 0) := by rw [Lib.cell_of_heap hy3]; rfl
              have f3 : v3.frozen? ⟨YB, 2, none⟩ = false := Lib.frozen_of_heap hy3 2
              have hz3 : (v3.setCell ⟨YB, 2, none⟩ (.int .i64 l3)).heap[YB]? = some (.cells #[.int .i64 l1, .int .i64 l2, .int .i64 l3, .int .i64 0] 70 (0, 0)) := box_set hy3 2 _
              have hF3 := hE3.below ((Below.refl B v3).setCell (p := ⟨YB, 2, none⟩) hBY (.int .i64 l3))
              have h3 := HC3.out _ hF3
              have HS3 := hideg hS3
              have HZ3 := hideg hz3
              clear h2 hE3 hq3 hS3 hy3 hz3 hF3 HS2 HZ2 HC3
              go_wp2_with fail
              refine h3.mono ?_
              rintro r v4 ⟨rfl, hE4, hq4⟩
              have hS4 := (HS3.out.kn hq4 (by omega) (by omega) (by omega)).setY hXY hGY 3 (.int .i64 l4)
              have hy4 := (hq4.blk YB (by omega) (by omega)).trans HZ3.out
              clear c3 f3
              have c4 : v4.cell? ⟨YB, 3, none⟩ = some (.int .i64 0) := by rw [Lib.cell_of_heap hy4]; rfl
              have f4 : v4.frozen? ⟨YB, 3, none⟩ = false := Lib.frozen_of_heap hy4 3
              have hz4 : (v4.setCell ⟨YB, 3, none⟩ (.int .i64 l4)).heap[YB]? = some (.cells #[.int .i64 l1, .int .i64 l2, .int .i64 l3, .int .i64 l4] 70 (0, 0)) := box_set hy4 3 _
              have hF4 := hE4.below ((Below.refl B v4).setCell (p := ⟨YB, 3, none⟩) hBY (.int .i64 l4))
              clear h3 hE4 hq4 hy4 HS3 HZ3
              obtain ⟨v5, hv5⟩ : ∃ x, x = v4.setCell ⟨YB, 3, none⟩ (.int .i64 l4) := ⟨_, rfl⟩
              rw [← hv5] at hS4 hz4 hF4
              have g2 : v5.cell? ⟨XB, 2, none⟩ = some vG := by rw [Lib.cell_of_heap hS4.bx]; rfl
              have y0 : v5.cell? ⟨YB, 0, none⟩ = some (.int .i64 l1) := by rw [Lib.cell_of_heap hz4]; rfl
              have y1 : v5.cell? ⟨YB, 1, none⟩ = some (.int .i64 l2) := by rw [Lib.cell_of_heap hz4]; rfl
              have y2 : v5.cell? ⟨YB, 2, none⟩ = some (.int .i64 l3) := by rw [Lib.cell_of_heap hz4]; rfl
              have y3 : v5.cell? ⟨YB, 3, none⟩ = some (.int .i64 l4) := by rw [Lib.cell_of_heap hz4]; rfl
              obtain ⟨vo, vc, rfl, _, _⟩ := row_form hS4.lg
              rw [hllg] at g2
              have hGn := hS4
              rw [hllg] at hGn
              have hXv := heap_ltg hGn.bx
              obtain ⟨wb, hwb⟩ : ∃ x, x = v5.alloc (.cells #[.int .i64 l1, .int .i64 l2, .int .i64 l3, .int .i64 l4] 70) := ⟨_, rfl⟩
              have bb : Below v5.heap.size v5 wb := by rw [hwb]; exact gal v5 _
              have hLb := ownsRow_below hGn.lg bb
              rw [hllg] at hLb
              have HLb := hideg hLb
              have hNew := World.news_of_block (w := wb) (B := v5.heap.size) (cs := #[.int .i64 l1, .int .i64 l2, .int .i64 l3, .int .i64 l4]) (t := 70) (fr := (0, 0)) (by rw [hwb]; exact heap_alloc_new v5 _)
              have hsv : v5.heap.size = v4.heap.size := by rw [hv5]; simp [World.setCell]
              rw [hsv] at hNew
              have HNew := hideg hNew
              have hbsz : XB + 1 ≤ wb.heap.size := by have := bb.size; omega
              have HBB2 := hideg bb
              have HGn := hideg hGn
              have HF4 := hideg hF4
              have HWB := hideg hwb.symm
              have HV5 := hideg hv5.symm
              have hm6 : m ≤ 6 := by omega
              rw [hv5] at g2 y0 y1 y2 y3
              have hBv : B ≤ v5.heap.size := by omega
              clear hS4 hz4 hF4 hGn bb hLb hNew hwb hv5 hsv hGY
              go_wp2_with (at_builtin; rw [HV5.out]; rw [HWB.out]; refine wpList_append_own_at _ rfl _ _ 66 rfl (XB + 1) 70 il _ 4 32 Try.underlying66 hil hl0 hl1 hl2 rfl (by decide) _ _ _ rfl HLb.out ⟨v4.heap.size, 0, none⟩ 1 1 [.int .i64 l1, .int .i64 l2, .int .i64 l3, .int .i64 l4] rfl rfl HNew.out (by intro u hu; simp at hu; rcases hu with rfl | rfl | rfl | rfl <;> rfl) (by unfold maxLen; omega) (by omega) hbsz ?_; intro v' w5 hown5 hgrow _ _; obtain ⟨vo5, cp5, rfl, _, _⟩ := row_form hown5; have hown6 : w5.ownsRow (XB + 1) 70 4 (.slice vo5 (m + 1) cp5) ((rdLg s.data.toList stM m).2.length + 1) (enc4 (rdLg s.data.toList stM m).2 ++ [.int .i64 l1, .int .i64 l2, .int .i64 l3, .int .i64 l4]) := by { rw [hllg]; exact hown5 }; obtain ⟨hbx5, hS5⟩ := HGn.out.push (l := (l1, l2, l3, l4)) HBB2.out hgrow hown6; have e2 : w5.cell? ⟨XB, 2, none⟩ = some (.slice vo m vc) := by { rw [Lib.cell_of_heap hbx5]; rfl }; have fz5 : w5.frozen? ⟨XB, 2, none⟩ = false := Lib.frozen_of_heap hbx5 2; have HS5 := hideg hS5; have HD5 := hideg (HF4.out.below ((((HBB2.out.mono hBv).grown hgrow (Nat.le_trans hBv HBB2.out.size) (fun q hq => by have := (HLb.out.lt q hq).1; omega)).setCell (p := ⟨XB, 2, none⟩) (by show B ≤ XB; omega) (.slice vo5 (m + 1) cp5)))); clear hown5 hown6 hgrow hbx5 hS5)
              have HS6 : Hid (LS w8 (w5.setCell ⟨XB, 2, none⟩ (.slice vo5 (m + 1) cp5)) B XB eA eB (.slice vo5 (m + 1) cp5) (rdLg s.data.toList stM (m + 1)).2) := by rw [HSg.out]; exact HS5.out
              have HD6 : Hid (DS s w (w5.setCell ⟨XB, 2, none⟩ (.slice vo5 (m + 1) cp5)) B (rdLg s.data.toList stM (m + 1)).1) := by rw [HSg.out]; exact HD5.out
              clear g2 y0 y1 y2 y3 c4 f4
              go_wp2
              go_roundw
              case rel => exact ⟨m + 1, _, by omega, by go_num, HS6.out, HD6.out⟩
              case measure => simp [intOf]; omega
            · have hmn : ¬ ((m : Int) < (nm : Int)) := by omega
              obtain rfl : m = nm := by omega
              have hEe := HEe.out
              have hlgl := rdLg_len s.data.toList stM m
              generalize rdLg s.data.toList stM m = RG at *
              obtain ⟨stE, legs⟩ := RG
              simp only at hS hD hEe hlgl
              rw [hEe] at HSe
              have HSe2 := HSe.out
              simp only at HSe2
              have HSe3 := hideg HSe2
              have hXl : XB < wr.heap.size := heap_ltg hS.bx
              have hX8 := HXB.out
              have hOr : GOwn B B wr hh vL vE lvs L := HO8.out.moved fun b h1 h2 => hS.ag b h1 (by omega)
              have p2 : wr.cell? ⟨B, 2, none⟩ = some vE := by rw [Lib.cell_of_heap hOr.box]; rfl
              have x0 : wr.cell? ⟨XB, 0, none⟩ = some (.int .i64 eA) := by rw [Lib.cell_of_heap hS.bx]; rfl
              have x1 : wr.cell? ⟨XB, 1, none⟩ = some (.int .i64 eB) := by rw [Lib.cell_of_heap hS.bx]; rfl
              have x2 : wr.cell? ⟨XB, 2, none⟩ = some vG := by rw [Lib.cell_of_heap hS.bx]; rfl
              obtain ⟨vo, vc, rfl, _, _⟩ := row_form hOr.ed
              obtain ⟨go, gc, rfl, _, _⟩ := row_form hS.lg
              rw [hlgl] at x2
              obtain ⟨wb, hwb⟩ : ∃ x, x = wr.alloc (.cells #[.int .i64 eA, .int .i64 eB, .slice go m gc] 68) := ⟨_, rfl⟩
              have bb : Below wr.heap.size wr wb := by rw [hwb]; exact gal wr _
              have HEb := hideg (ownsRow_below hOr.ed bb)
              have HVg := hideg (owns_low (ownsRow_below hS.lg bb) (show B ≤ XB + 1 by omega))
              have hff : ∀ q ∈ L, ∀ k, q.2.ownBlock = some k → (Value.slice go legs.length gc).ownBlock ≠ some k := fun q hq k e1 e2 => by
                have h1 := (HO8.out.lg q hq).lt k e1
                have h2 := hS.lg.lt k e2
                omega
              have HFF := hideg hff
              have HNew := hideg (World.news_of_block (w := wb) (B := wr.heap.size) (cs := #[.int .i64 eA, .int .i64 eB, .slice go m gc]) (t := 68) (fr := (0, 0)) (by rw [hwb]; exact heap_alloc_new wr _))
              have hBr : B ≤ wr.heap.size := by omega
              have hbsz : B ≤ wb.heap.size := Nat.le_trans hBr bb.size
              have HBb := hideg bb
              have HOr := hideg hOr
              have HD := hideg hD
              have HWB := hideg hwb.symm
              rw [hlgl] at HVg HFF
              have HLg := hideg hlgl
              clear hS hD hOr bb hwb hff hEe HSe HEe HSe2 hX8 hlgl
              go_wp2_with (at_builtin; rw [HWB.out]; refine wpList_append_own_at _ rfl _ _ 23 rfl B 68 ie _ 3 40 Try.underlying23 hie he0 he1 he2 rfl (by decide) _ _ _ rfl HEb.out ⟨wr.heap.size, 0, none⟩ 1 1 [.int .i64 eA, .int .i64 eB, .slice go m gc] rfl rfl HNew.out (by intro u hu; simp at hu; rcases hu with rfl | rfl | rfl <;> rfl) (by unfold maxLen; omega) (by omega) hbsz ?_; intro v' w5 hown5 hgrow _ _; obtain ⟨vo5, cp5, rfl, _, _⟩ := row_form hown5; obtain ⟨hbx5, hG5⟩ := HOr.out.edgeW (legs := legs) HBb.out hgrow (by rw [HLg.out]; exact HVg.out) HFF.out hown5; have e2 : w5.cell? ⟨B, 2, none⟩ = some (.slice vo L.length vc) := by { rw [Lib.cell_of_heap hbx5]; rfl }; have fz5 : w5.frozen? ⟨B, 2, none⟩ = false := Lib.frozen_of_heap hbx5 2; have HG5 := hideg hG5; have HD5 := hideg (HD.out.below (((HBb.out.mono hBr).grown hgrow hbsz (fun q hq => (HEb.out.lt q hq).1)).setCell (p := ⟨B, 2, none⟩) (Nat.le_refl _) (.slice vo5 (L.length + 1) cp5))); clear hown5 hgrow hbx5 hG5)
              have HLm5 : Hid ((L ++ [((eA, eB, legs), Value.slice go m gc)]).map (·.1) = (rdEs s.data.toList st1 (i + 1)).2) := by
                show _ = _
                rw [HSe3.out, List.map_append, HLm.out]; rfl
              have HD6 : Hid (DS s w (w5.setCell ⟨B, 2, none⟩ (.slice vo5 (L.length + 1) cp5)) B (rdEs s.data.toList st1 (i + 1)).1) := by rw [HSe3.out]; exact HD5.out
              clear p2 x0 x1 x2
              go_wp2
              go_roundw
              case rel => exact ⟨i + 1, _, _, by omega, by go_num, HG5.out, HLm5.out, HD6.out⟩
              case measure => simp [intOf]; omega
        · have hin2 : ¬ ((i : Int) < (nk : Int)) := by omega
          obtain rfl : i = nk := by omega
          have hatE : (rdEs s.data.toList st1 i).1.1 ≤ s.size := rdEs_at HLL.out i
          have hRG := HRG.out
          generalize rdEs s.data.toList st1 i = RE at *
          obtain ⟨⟨kk, e⟩, eds⟩ := RE
          simp only at hLm hD hatE hRG
          rw [← hLm] at hRG
          have HDc : Hid (decA s.data.toList = if e = 0 then if kk + 4 ≤ s.data.toList.length then if (s.data.toList.drop kk).take 4 = sum4 (sumL (s.data.toList.take kk)) 4 then if gChk ⟨hh, lvs, L.map (·.1)⟩ = 0 then (⟨hh, lvs, L.map (·.1)⟩, ((kk + 4 : Nat) : Int), 0) else (⟨0, [], []⟩, 0, gChk ⟨hh, lvs, L.map (·.1)⟩) else (⟨0, [], []⟩, 0, 5) else (⟨0, [], []⟩, 0, 5) else (⟨0, [], []⟩, 0, e)) := by
            show _ = _
            unfold decA
            rw [hRG]
          have HO := hideg hO
          have HD := hideg hD
          clear hO hLm hlt2 HRG hRG HLL
          obtain ⟨wo, hwo⟩ : ∃ x, x = wr := ⟨_, rfl⟩
          subst hwo
          have ce : wo.cell? ⟨w.heap.size + 1 + 1 + 1, 0, none⟩ = some (.int .i64 e) := by rw [Lib.cell_of_heap HD.out.b2.e]; rfl
          have ca : wo.cell? ⟨w.heap.size + 1 + 1, 0, none⟩ = some (.int .i64 (kk : Int)) := by rw [Lib.cell_of_heap HD.out.b2.a]; rfl
          have cs : wo.cell? ⟨w.heap.size, 0, none⟩ = some (.string s) := by rw [Lib.cell_of_heap HD.out.sc]; rfl
          have fe : wo.frozen? ⟨w.heap.size + 1 + 1 + 1, 0, none⟩ = false := Lib.frozen_of_heap HD.out.b2.e 0
          have r0 : wo.cell? ⟨w.heap.size + 1, 0, none⟩ = some (.int .i64 0) := by rw [Lib.cell_of_heap HD.out.rb]; rfl
          have r1 : wo.cell? ⟨w.heap.size + 1, 1, none⟩ = some (.slice none 0 0) := by rw [Lib.cell_of_heap HD.out.rb]; rfl
          have r2 : wo.cell? ⟨w.heap.size + 1, 2, none⟩ = some (.slice none 0 0) := by rw [Lib.cell_of_heap HD.out.rb]; rfl
          have q0 : wo.frozen? ⟨w.heap.size + 1, 0, none⟩ = false := Lib.frozen_of_heap HD.out.rb 0
          have q1 : wo.frozen? ⟨w.heap.size + 1, 1, none⟩ = false := Lib.frozen_of_heap HD.out.rb 1
          have q2 : wo.frozen? ⟨w.heap.size + 1, 2, none⟩ = false := Lib.frozen_of_heap HD.out.rb 2
          have HBF : Hid (∀ a b c, Below w.heap.size w (((wo.setCell ⟨w.heap.size + 1, 0, none⟩ a).setCell ⟨w.heap.size + 1, 1, none⟩ b).setCell ⟨w.heap.size + 1, 2, none⟩ c)) := fun a b c => ((HD.out.bel.setCell (p := ⟨w.heap.size + 1, 0, none⟩) (by simp) a).setCell (p := ⟨w.heap.size + 1, 1, none⟩) (by simp) b).setCell (p := ⟨w.heap.size + 1, 2, none⟩) (by simp) c
          have hw4 : IntKind.i64.wrap ((kk : Int) + 4) = (kk : Int) + 4 := wrap_q _ (by omega) (by omega)
          by_cases he : e = 0
          · subst he
            rw [if_pos rfl] at HDc
            by_cases h4 : kk + 4 ≤ s.size
            · rw [if_pos (by rw [HL.out]; exact h4)] at HDc
              have h4i : ¬ ((kk : Int) + 4 > (s.size : Int)) := by omega
              have hks : kk ≤ s.size := by omega
              have hksi : (kk : Int) ≤ (s.size : Int) := by omega
              go_wp2_with fail
              have hSm := RSum32_any (s.extract 0 kk) wo (by simp; omega)
              rw [ext_take] at hSm
              have HSS := hideg (sum_same (l := s.data.toList) (kk := kk) (n := sumL (s.data.toList.take kk)) (by rw [HL.out]; exact h4))
              have hsl := sumL_lt (s.data.toList.take kk)
              generalize sumL (s.data.toList.take kk) = sm at *
              refine hSm.mono ?_
              rintro r wz ⟨rfl, rfl⟩
              clear hSm
              go_wp2_with fail
              go_loopw [19, 20] (fun d j wq => ∃ m : Nat, m ≤ 4 ∧ j = .int .i64 (m : Int) ∧ d = .int .u32 ((sm / 256 ^ m : Nat) : Int) ∧ (∀ j, j < m → s.data.toList.getD (kk + j) 0 = UInt8.ofNat (sm / 256 ^ j % 256)) ∧ wq = wz) (fun _ j _ => 4 - (intOf j).toNat)
              case atStart => exact ⟨0, Nat.zero_le _, rfl, by simp, fun j hj => by omega, rfl⟩
              case round =>
                obtain ⟨m, hm, rfl, rfl, hall, rfl⟩ := hrel
                have HAll := hideg hall
                clear hall
                by_cases hm4 : m < 4
                · have hmi : (m : Int) < 4 := by omega
                  have hmw : IntKind.i64.wrap ((m : Int) + 1) = (m : Int) + 1 := wrap_q _ (by omega) (by omega)
                  obtain ⟨p, hp⟩ : ∃ p : Nat, p = kk + m := ⟨_, rfl⟩
                  have hpw : IntKind.i64.wrap ((kk : Int) + (m : Int)) = (p : Int) := by rw [wrap_q _ (by omega) (by omega)]; omega
                  have hps : p < s.size := by omega
                  have hpi : (p : Int) < (s.size : Int) := by omega
                  have HD2 : Hid (((sm / 256 ^ m : Nat) : Int) / 256 = ((sm / 256 ^ (m + 1) : Nat) : Int)) := by
                    show _ = _
                    rw [Nat.pow_succ, ← Nat.div_div_eq_div_mul]
                    generalize sm / 256 ^ m = d
                    omega
                  have HPs : Hid (s.data.toList.getD (kk + m) 0 = s[p]) := by
                    subst hp
                    show _ = _
                    rw [List.getD_eq_getElem?_getD, List.getElem?_eq_getElem (by rw [HL.out]; exact hps)]; rfl
                  have hdl : sm / 256 ^ m < 4294967296 := Nat.lt_of_le_of_lt (Nat.div_le_self _ _) hsl
                  have HNo : Hid (¬ s[p] = UInt8.ofNat (sm / 256 ^ m % 256) → ¬ (s.data.toList.drop kk).take 4 = sum4 sm 4) := fun h e => h (by rw [← HPs.out]; exact HSS.out.1 e m hm4)
                  have HYes : Hid (s[p] = UInt8.ofNat (sm / 256 ^ m % 256) → ∀ j, j < m + 1 → s.data.toList.getD (kk + j) 0 = UInt8.ofNat (sm / 256 ^ j % 256)) := fun h j hj => by
                    by_cases e : j = m
                    · subst e; rw [HPs.out]; exact h
                    · exact HAll.out j (by omega)
                  have e1 : IntKind.u8.wrap (((sm / 256 ^ m : Nat) : Int) % 256) = ((UInt8.ofNat (sm / 256 ^ m % 256)).toNat : Int) := by
                    rw [wrap_u8 _ (by omega) (by omega), UInt8.toNat_ofNat']; omega
                  generalize sm / 256 ^ m = d at *
                  have HP := hideg hp
                  clear hp HAll HPs
                  by_cases hq : s[p] = UInt8.ofNat (d % 256)
                  · have d1 : (((UInt8.ofNat (d % 256)).toNat : Int) != (s[p].toNat : Int)) = false := by rw [hq]; simp
                    have HA2 := hideg (HYes.out hq)
                    generalize ((UInt8.ofNat (d % 256)).toNat : Int) = bb at *
                    clear hq HYes HNo
                    go_wp2
                    go_roundw
                    case rel => exact ⟨m + 1, by omega, by go_num, by rw [HD2.out], HA2.out, by first | rfl | trivial⟩
                    case measure => simp [intOf]; omega
                  · have d1 : (((UInt8.ofNat (d % 256)).toNat : Int) != (s[p].toNat : Int)) = true := bne_iff_ne.2 fun e => hq (UInt8.toNat_inj.1 (by omega))
                    rw [if_neg (HNo.out hq)] at HDc
                    generalize ((UInt8.ofNat (d % 256)).toNat : Int) = bb at *
                    clear hq HYes HNo
                    go_wp2
                    rw [HDc.out]
                    exact bodyPost_ret (v := .tuple #[.agg #[.int .i64 0, .slice none 0 0, .slice none 0 0], .int .i64 0, .int .i64 5]) (by simp [results, Try.results9, go_sem, r0, r1, r2]) rfl ⟨none, none, 0, 0, rfl, ⟨.inl rfl, .inl rfl, by simp, by simp⟩, HBF.out _ _ _⟩
                · have hmn : ¬ ((m : Int) < 4) := by omega
                  obtain rfl : m = 4 := by omega
                  rw [if_pos (HSS.out.2 HAll.out)] at HDc
                  obtain ⟨la, lc, ea, ec, eL, eE, hGat, _⟩ := HO.out.gat
                  subst eL eE
                  have s0 : wr.cell? ⟨B, 0, none⟩ = some (.int .i64 hh) := by rw [Lib.cell_of_heap HO.out.box]; rfl
                  have s1 : wr.cell? ⟨B, 1, none⟩ = some (.slice la lvs.length lc) := by rw [Lib.cell_of_heap HO.out.box]; rfl
                  have s2 : wr.cell? ⟨B, 2, none⟩ = some (.slice ea L.length ec) := by rw [Lib.cell_of_heap HO.out.box]; rfl
                  have hCh := RGraph_any ⟨hh, lvs, L.map (·.1)⟩ la ea lc ec wr hGat
                  simp only [List.length_map] at hCh
                  clear HSS HAll
                  go_wp2_with fail
                  refine hCh.mono ?_
                  rintro r wc ⟨rfl, hbc⟩
                  have hBr : B ≤ wr.heap.size := Nat.le_of_lt (heap_ltg HO.out.box)
                  have hOc := HO.out.below hbc
                  have hDc := HD.out.below (hbc.mono hBr)
                  clear hCh ce ca cs fe r0 r1 r2 q0 q1 q2 s0 s1 s2 HBF hGat HO HD
                  have ca : wc.cell? ⟨w.heap.size + 1 + 1, 0, none⟩ = some (.int .i64 (kk : Int)) := by rw [Lib.cell_of_heap hDc.b2.a]; rfl
                  have r0 : wc.cell? ⟨w.heap.size + 1, 0, none⟩ = some (.int .i64 0) := by rw [Lib.cell_of_heap hDc.rb]; rfl
                  have r1 : wc.cell? ⟨w.heap.size + 1, 1, none⟩ = some (.slice none 0 0) := by rw [Lib.cell_of_heap hDc.rb]; rfl
                  have r2 : wc.cell? ⟨w.heap.size + 1, 2, none⟩ = some (.slice none 0 0) := by rw [Lib.cell_of_heap hDc.rb]; rfl
                  have q0 : wc.frozen? ⟨w.heap.size + 1, 0, none⟩ = false := Lib.frozen_of_heap hDc.rb 0
                  have q1 : wc.frozen? ⟨w.heap.size + 1, 1, none⟩ = false := Lib.frozen_of_heap hDc.rb 1
                  have q2 : wc.frozen? ⟨w.heap.size + 1, 2, none⟩ = false := Lib.frozen_of_heap hDc.rb 2
                  have s0 : wc.cell? ⟨B, 0, none⟩ = some (.int .i64 hh) := by rw [Lib.cell_of_heap hOc.box]; rfl
                  have s1 : wc.cell? ⟨B, 1, none⟩ = some (.slice la lvs.length lc) := by rw [Lib.cell_of_heap hOc.box]; rfl
                  have s2 : wc.cell? ⟨B, 2, none⟩ = some (.slice ea L.length ec) := by rw [Lib.cell_of_heap hOc.box]; rfl
                  have HBc : Hid (∀ a b c, Below w.heap.size w (((wc.setCell ⟨w.heap.size + 1, 0, none⟩ a).setCell ⟨w.heap.size + 1, 1, none⟩ b).setCell ⟨w.heap.size + 1, 2, none⟩ c)) := fun a b c => ((hDc.bel.setCell (p := ⟨w.heap.size + 1, 0, none⟩) (by simp) a).setCell (p := ⟨w.heap.size + 1, 1, none⟩) (by simp) b).setCell (p := ⟨w.heap.size + 1, 2, none⟩) (by simp) c
                  have HGc : Hid (∀ a b c, GAt (((wc.setCell ⟨w.heap.size + 1, 0, none⟩ a).setCell ⟨w.heap.size + 1, 1, none⟩ b).setCell ⟨w.heap.size + 1, 2, none⟩ c).drew la ea ⟨hh, lvs, L.map (·.1)⟩) := by
                    intro a b c
                    have hM : GOwn B B (((wc.setCell ⟨w.heap.size + 1, 0, none⟩ a).setCell ⟨w.heap.size + 1, 1, none⟩ b).setCell ⟨w.heap.size + 1, 2, none⟩ c).drew hh (.slice la lvs.length lc) (.slice ea L.length ec) lvs L := hOc.moved fun x h1 _ => by
                      show (((wc.setCell ⟨w.heap.size + 1, 0, none⟩ a).setCell ⟨w.heap.size + 1, 1, none⟩ b).setCell ⟨w.heap.size + 1, 2, none⟩ c).heap[x]? = _
                      rw [Below.heap_setCell _ _ _ _ (by show x ≠ w.heap.size + 1; omega), Below.heap_setCell _ _ _ _ (by show x ≠ w.heap.size + 1; omega), Below.heap_setCell _ _ _ _ (by show x ≠ w.heap.size + 1; omega)]
                    obtain ⟨la', lc', ea', ec', e1, e2, h, _⟩ := hM.gat
                    simp only [Value.slice.injEq] at e1 e2
                    obtain ⟨rfl, _, rfl⟩ := e1
                    obtain ⟨rfl, _, rfl⟩ := e2
                    exact h
                  have HLm : Hid ((L.map (·.1)).length = L.length) := by show _ = _; simp
                  generalize gChk ⟨hh, lvs, L.map (·.1)⟩ = n at *
                  clear hOc hDc hbc
                  by_cases hn : n = 0
                  · subst hn
                    rw [if_pos rfl] at HDc
                    have hk4 : (((kk + 4 : Nat)) : Int) = (kk : Int) + 4 := by omega
                    rw [hk4] at HDc
                    clear hk4
                    go_wp2_with fail
                    go_region
                    go_wp2
                    rw [HDc.out]
                    exact bodyPost_ret (v := .tuple #[.agg #[.int .i64 hh, .slice la lvs.length lc, .slice ea L.length ec], .int .i64 ((kk : Int) + 4), .int .i64 0]) (by simp [results, Try.results9, go_sem, r0, r1, r2]) rfl ⟨la, ea, lc, ec, by rw [HLm.out], HGc.out _ _ _, (HBc.out _ _ _).drew⟩
                  · rw [if_neg hn] at HDc
                    have hn1 : (n != 0) = true := by simpa using hn
                    clear hn
                    go_wp2
                    rw [HDc.out]
                    exact bodyPost_ret (v := .tuple #[.agg #[.int .i64 0, .slice none 0 0, .slice none 0 0], .int .i64 0, .int .i64 n]) (by simp [results, Try.results9, go_sem, r0, r1, r2]) rfl ⟨none, none, 0, 0, rfl, ⟨.inl rfl, .inl rfl, by simp, by simp⟩, HBc.out _ _ _⟩
            · rw [if_neg (by rw [HL.out]; exact h4)] at HDc
              have h4i : (kk : Int) + 4 > (s.size : Int) := by omega
              have HBF5 : Hid (∀ a b c, Below w.heap.size w ((((wo.setCell ⟨w.heap.size + 1 + 1 + 1, 0, none⟩ (.int .i64 5)).setCell ⟨w.heap.size + 1, 0, none⟩ a).setCell ⟨w.heap.size + 1, 1, none⟩ b).setCell ⟨w.heap.size + 1, 2, none⟩ c).drew) := fun a b c => ((((HD.out.bel.setCell (p := ⟨w.heap.size + 1 + 1 + 1, 0, none⟩) (by simp only; omega) (.int .i64 5)).setCell (p := ⟨w.heap.size + 1, 0, none⟩) (by simp) a).setCell (p := ⟨w.heap.size + 1, 1, none⟩) (by simp) b).setCell (p := ⟨w.heap.size + 1, 2, none⟩) (by simp) c).drew
              go_wp2_with fail
              go_region
              go_wp2
              rw [HDc.out]
              exact bodyPost_ret (v := .tuple #[.agg #[.int .i64 0, .slice none 0 0, .slice none 0 0], .int .i64 0, .int .i64 5]) (by simp [results, Try.results9, go_sem, r0, r1, r2]) rfl ⟨none, none, 0, 0, rfl, ⟨.inl rfl, .inl rfl, by simp, by simp⟩, HBF5.out _ _ _⟩
          · rw [if_neg he] at HDc
            have he1 : (e == 0) = false := by simpa using he
            have he2 : (e != 0) = true := by simpa using he
            have HBF6 : Hid (∀ a b c, Below w.heap.size w (((wo.setCell ⟨w.heap.size + 1, 0, none⟩ a).setCell ⟨w.heap.size + 1, 1, none⟩ b).setCell ⟨w.heap.size + 1, 2, none⟩ c).drew) := fun a b c => (HBF.out a b c).drew
            go_wp2_with fail
            go_region
            go_wp2
            rw [HDc.out]
            exact bodyPost_ret (v := .tuple #[.agg #[.int .i64 0, .slice none 0 0, .slice none 0 0], .int .i64 0, .int .i64 e]) (by simp [results, Try.results9, go_sem, r0, r1, r2]) rfl ⟨none, none, 0, 0, rfl, ⟨.inl rfl, .inl rfl, by simp, by simp⟩, HBF6.out _ _ _⟩

end Go.Proofs.Yteibdmfcclkjpad
