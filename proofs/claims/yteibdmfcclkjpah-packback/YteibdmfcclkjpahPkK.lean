/-
  What Decode of the program answers.
-/
import Derived.Test.YteibdmfcclkjpahPkJ
import Derived.Test.YteibdmfcclkjpahPkCon
import Derived.Test.YteibdmfcclkjpahGCheck
namespace Go.Proofs.Yteibdmfcclkjpah
open Go.RowKit

theorem decA_sm (s : List UInt8) : decA s = if (smS s (rdG s).1).2 = 0 then if gChk (rdG s).2 = 0 then ((rdG s).2, ((smS s (rdG s).1).1 : Int), 0) else (⟨0, [], []⟩, 0, gChk (rdG s).2) else (⟨0, [], []⟩, 0, (smS s (rdG s).1).2) := by
  unfold decA smS
  by_cases h1 : (rdG s).1.2 = 0
  · rw [if_pos h1, if_pos h1]
    by_cases h2 : (rdG s).1.1 + 4 ≤ s.length
    · rw [if_pos h2, if_pos h2]
      by_cases h3 : (s.drop (rdG s).1.1).take 4 = sum4 (sumL (s.take (rdG s).1.1)) 4
      · rw [if_pos h3, if_pos h3]; simp only [if_true]
      · rw [if_neg h3, if_neg h3]; simp only [if_neg (show ¬ (5 : Int) = 0 by decide)]
    · rw [if_neg h2, if_neg h2]; simp only [if_neg (show ¬ (5 : Int) = 0 by decide)]
  · rw [if_neg h1, if_neg h1, if_neg h1]
theorem rdG_at (s : List UInt8) : (rdG s).1.1 ≤ s.length := rdEs_at (rdLv_at (nx_at (nx_at (nx_at (Nat.zero_le _)))) _) _

set_option maxRecDepth 100000 in
set_option maxHeartbeats 2000000 in
theorem pDec_any : DecOk := fun s w hs => by
  have hat : (rdG s.data.toList).1.1 ≤ s.size := rdG_at s.data.toList
  obtain ⟨w1, hw1⟩ : ∃ x, x = (w.alloc (.cells #[.int .i64 0, .slice none 0 0, .slice none 0 0] 25)).alloc (.cells #[.string s, .int .i64 0, .int .i64 0] 74) := ⟨_, rfl⟩
  obtain ⟨RB, hRB⟩ : ∃ x, x = w.heap.size + 1 := ⟨_, rfl⟩
  have hwR : w.heap.size < RB := by omega
  have b1 : Below w.heap.size w w1 := by rw [hw1]; exact ptg (gal w _) (gal _ _)
  have hs1 : w1.heap.size = RB + 1 := by rw [hw1, hRB]; simp
  have hR1 : RS s RB (0, 0) w1 := by
    show w1.heap[RB]? = _
    rw [hw1, hRB]
    have := heap_alloc_new (w.alloc (.cells #[.int .i64 0, .slice none 0 0, .slice none 0 0] 25)) (.cells #[.string s, .int .i64 0, .int .i64 0] 74)
    simpa using this
  have hA1 : w1.heap[w.heap.size]? = some (.cells #[.int .i64 0, .slice none 0 0, .slice none 0 0] 25 (0, 0)) := by
    rw [hw1, heap_alloc_old _ _ (by simp)]
    exact heap_alloc_new w _
  have h1 := pGraph_any s w1 w.heap.size RB hs (by omega) hR1
  have HSm : Hid (∀ W, RS s RB (rdG s.data.toList).1 W → Calls Try.prog 37 #[.pointer (some ⟨RB, 0, none⟩)] W fun r w' => r = .returned (.tuple #[]) ∧ RS s RB (smS s.data.toList (rdG s.data.toList).1) w' ∧ Kn w.heap.size RB RB W w') := fun W h => pSm_any s W w.heap.size RB _ hs hat (by omega) h
  have HDc := hideg (decA_sm s.data.toList)
  generalize smS s.data.toList (rdG s.data.toList).1 = st2 at *
  generalize rdG s.data.toList = R at *
  obtain ⟨st, hor, lives, edges⟩ := R
  obtain ⟨a2, e2⟩ := st2
  simp only at h1 HSm HDc
  have HW1 := hideg hw1.symm
  have HB1 := hideg b1
  have HS1 := hideg hs1
  have HA1 := hideg hA1
  have HRB := hideg hRB
  have e0 : w.heap.size + 1 = RB := hRB.symm
  clear hw1 b1 hs1 hA1 hR1 hat hRB
  go_enter Try.func8, Try.ntmps8
  go_wp2_with fail
  rw [HW1.out]
  refine h1.mono ?_
  rintro r w2 ⟨la, lc, ea, ec, L, rfl, hO2, hLm, hR2, hK2⟩
  rw [HS1.out] at hO2
  obtain ⟨w3, hw3⟩ : ∃ x, x = w2.alloc (.cells #[.int .i64 hor, .slice la lives.length lc, .slice ea L.length ec] 25) := ⟨_, rfl⟩
  obtain ⟨GB, hGB⟩ : ∃ x, x = w2.heap.size := ⟨_, rfl⟩
  have hz2 := hK2.bel.size
  rw [HS1.out] at hz2
  have hRG : RB < GB := by omega
  have b3 : Below w2.heap.size w2 w3 := by rw [hw3]; exact gal w2 _
  have hO3 := hO2.below b3
  have hX3 : w3.heap[GB]? = some (.cells #[.int .i64 hor, .slice la lives.length lc, .slice ea L.length ec] 25 (0, 0)) := by rw [hw3, hGB]; exact heap_alloc_new w2 _
  have hR3 := hR2.below b3 (by omega)
  have hK3 : Ke w.heap.size RB w1 w3 := hK2.below b3 (by have := HS1.out; omega) (by omega)
  have h2 := HSm.out w3 hR3
  have HW3 := hideg hw3.symm
  have HO3 := hideg hO3
  have HX3 := hideg hX3
  have HK3 := hideg hK3
  have HGB := hideg hGB.symm
  have HLm := hideg hLm
  clear h1 hO2 hLm hR2 hK2 hw3 hGB hz2 b3 hO3 hX3 hR3 hK3 HSm HW1
  go_wp2_with fail
  rw [HW3.out, HGB.out]
  refine h2.mono ?_
  rintro r w4 ⟨rfl, hR4, hk4⟩
  have hO4 := HO3.out.kn hk4 (by omega) (by omega)
  have hX4 := (hk4.blk GB (by omega) (by omega)).trans HX3.out
  have hA4 := (hk4.blk w.heap.size (by omega) (by omega)).trans ((HK3.out.blk w.heap.size (by have := HS1.out; omega) (by omega)).trans HA1.out)
  have hB4 : Below w.heap.size w w4 := HB1.out.trans (HK3.out.bel.trans hk4.bel)
  obtain ⟨la2, lc2, ea2, ec2, e3, e4, hGat, _⟩ := hO4.gat
  simp only [Value.slice.injEq] at e3 e4
  obtain ⟨rfl, _, rfl⟩ := e3
  obtain ⟨rfl, _, rfl⟩ := e4
  rw [HLm.out] at hGat
  have HLl : Hid (L.length = edges.length) := by show _ = _; rw [← HLm.out]; simp
  rw [HLl.out] at hX4
  have c2 := hR4.c2
  have g0 : w4.cell? ⟨GB, 0, none⟩ = some (.int .i64 hor) := by rw [Lib.cell_of_heap hX4]; rfl
  have g1 : w4.cell? ⟨GB, 1, none⟩ = some (.slice la lives.length lc) := by rw [Lib.cell_of_heap hX4]; rfl
  have g2 : w4.cell? ⟨GB, 2, none⟩ = some (.slice ea edges.length ec) := by rw [Lib.cell_of_heap hX4]; rfl
  have r0 : w4.cell? ⟨w.heap.size, 0, none⟩ = some (.int .i64 0) := by rw [Lib.cell_of_heap hA4]; rfl
  have r1 : w4.cell? ⟨w.heap.size, 1, none⟩ = some (.slice none 0 0) := by rw [Lib.cell_of_heap hA4]; rfl
  have r2 : w4.cell? ⟨w.heap.size, 2, none⟩ = some (.slice none 0 0) := by rw [Lib.cell_of_heap hA4]; rfl
  have q0 : w4.frozen? ⟨w.heap.size, 0, none⟩ = false := Lib.frozen_of_heap hA4 0
  have q1 : w4.frozen? ⟨w.heap.size, 1, none⟩ = false := Lib.frozen_of_heap hA4 1
  have q2 : w4.frozen? ⟨w.heap.size, 2, none⟩ = false := Lib.frozen_of_heap hA4 2
  simp only at c2
  have HO4 := hideg hO4
  have HX4 := hideg hX4
  have HA4 := hideg hA4
  have HR4 := hideg hR4
  have HB4 := hideg hB4
  clear h2 hk4 HO3 HX3 HK3 hO4 hX4 hA4 hR4 hB4 HW3 HGB HA1 HB1
  have hR4l : RB < w4.heap.size := heap_ltg HR4.out
  have hG4l : GB < w4.heap.size := heap_ltg HX4.out
  by_cases he : e2 = 0
  · subst he
    rw [if_pos rfl] at HDc
    have h3 := gCheck_any ⟨hor, lives, edges⟩ la ea lc ec w4 hGat
    simp only at h3
    generalize gChk ⟨hor, lives, edges⟩ = n at *
    clear hGat
    go_wp2_with fail
    refine h3.mono ?_
    rintro r w5 ⟨rfl, hb5⟩
    have hR5 := HR4.out.below hb5 hR4l
    obtain ⟨w6, hw6⟩ : ∃ x, x = w5.setCell ⟨RB, 2, none⟩ (.int .i64 n) := ⟨_, rfl⟩
    have hR6 : RS s RB (a2, n) w6 := by rw [hw6]; exact hR5.set2 n
    have hbk : ∀ b, b ≠ RB → w6.heap[b]? = w5.heap[b]? := fun b hb => by rw [hw6, Below.heap_setCell _ _ _ _ (by show b ≠ RB; exact hb)]
    have hX6 := ((hbk GB (by omega)).trans (hb5.block GB hG4l)).trans HX4.out
    have hA6 := ((hbk w.heap.size (by omega)).trans (hb5.block w.heap.size (by omega))).trans HA4.out
    have hO6 : GOwn (RB + 1 + 1) (RB + 1 + 1) w6 hor (.slice la lives.length lc) (.slice ea L.length ec) lives L := (HO4.out.below hb5).moved fun b h1 _ => hbk b (by omega)
    have hB6 : Below w.heap.size w w6 := by rw [hw6]; exact (HB4.out.trans (hb5.mono (by omega))).setCell (p := ⟨RB, 2, none⟩) (Nat.le_of_lt hwR) _
    clear c2 g0 g1 g2 r0 r1 r2 q0 q1 q2
    have c2 := hR5.c2
    have f2 := hR5.f 2
    simp only at c2
    have HW6 := hideg hw6.symm
    have HR6 := hideg hR6
    have HX6 := hideg hX6
    have HA6 := hideg hA6
    have HO6 := hideg hO6
    have HB6 := hideg hB6
    clear h3 hb5 hR5 hw6 hR6 hbk hX6 hA6 hO6 hB6 HR4 HX4 HA4 HO4 HB4
    by_cases hn : n = 0
    · subst hn
      rw [if_pos rfl] at HDc
      go_wp2_with fail
      rw [HW6.out]
      clear c2 f2 HW6
      have c1 := HR6.out.c1
      have g0 : w6.cell? ⟨GB, 0, none⟩ = some (.int .i64 hor) := by rw [Lib.cell_of_heap HX6.out]; rfl
      have g1 : w6.cell? ⟨GB, 1, none⟩ = some (.slice la lives.length lc) := by rw [Lib.cell_of_heap HX6.out]; rfl
      have g2 : w6.cell? ⟨GB, 2, none⟩ = some (.slice ea edges.length ec) := by rw [Lib.cell_of_heap HX6.out]; rfl
      have r0 : w6.cell? ⟨w.heap.size, 0, none⟩ = some (.int .i64 0) := by rw [Lib.cell_of_heap HA6.out]; rfl
      have r1 : w6.cell? ⟨w.heap.size, 1, none⟩ = some (.slice none 0 0) := by rw [Lib.cell_of_heap HA6.out]; rfl
      have r2 : w6.cell? ⟨w.heap.size, 2, none⟩ = some (.slice none 0 0) := by rw [Lib.cell_of_heap HA6.out]; rfl
      have q0 : w6.frozen? ⟨w.heap.size, 0, none⟩ = false := Lib.frozen_of_heap HA6.out 0
      have q1 : w6.frozen? ⟨w.heap.size, 1, none⟩ = false := Lib.frozen_of_heap HA6.out 1
      have q2 : w6.frozen? ⟨w.heap.size, 2, none⟩ = false := Lib.frozen_of_heap HA6.out 2
      simp only at c1
      have HBc : Hid (∀ a b c, Below w.heap.size w (((w6.setCell ⟨w.heap.size, 0, none⟩ a).setCell ⟨w.heap.size, 1, none⟩ b).setCell ⟨w.heap.size, 2, none⟩ c)) := fun a b c => ((HB6.out.setCell (p := ⟨w.heap.size, 0, none⟩) (Nat.le_refl _) a).setCell (p := ⟨w.heap.size, 1, none⟩) (Nat.le_refl _) b).setCell (p := ⟨w.heap.size, 2, none⟩) (Nat.le_refl _) c
      have HGc : Hid (∀ a b c, GAt (((w6.setCell ⟨w.heap.size, 0, none⟩ a).setCell ⟨w.heap.size, 1, none⟩ b).setCell ⟨w.heap.size, 2, none⟩ c).drew la ea ⟨hor, lives, edges⟩) := by
        intro a b c
        have hM : GOwn (RB + 1 + 1) (RB + 1 + 1) (((w6.setCell ⟨w.heap.size, 0, none⟩ a).setCell ⟨w.heap.size, 1, none⟩ b).setCell ⟨w.heap.size, 2, none⟩ c).drew hor (.slice la lives.length lc) (.slice ea L.length ec) lives L := HO6.out.moved fun x h1 _ => by
          show (((w6.setCell ⟨w.heap.size, 0, none⟩ a).setCell ⟨w.heap.size, 1, none⟩ b).setCell ⟨w.heap.size, 2, none⟩ c).heap[x]? = _
          rw [Below.heap_setCell _ _ _ _ (by show x ≠ w.heap.size; omega), Below.heap_setCell _ _ _ _ (by show x ≠ w.heap.size; omega), Below.heap_setCell _ _ _ _ (by show x ≠ w.heap.size; omega)]
        obtain ⟨la', lc', ea', ec', e1, e2, h, _⟩ := hM.gat
        simp only [Value.slice.injEq] at e1 e2
        obtain ⟨rfl, _, rfl⟩ := e1
        obtain ⟨rfl, _, rfl⟩ := e2
        rw [← HLm.out]
        exact h
      clear HR6 HX6 HA6 HO6 HB6
      go_wp2_with fail
      go_region
      go_wp2
      rw [HDc.out]
      exact bodyPost_ret (v := .tuple #[.agg #[.int .i64 hor, .slice la lives.length lc, .slice ea edges.length ec], .int .i64 (a2 : Int), .int .i64 0]) (by simp [results, Try.results8, go_sem, r0, r1, r2]) rfl ⟨la, ea, lc, ec, rfl, HGc.out _ _ _, (HBc.out _ _ _).drew⟩
    · rw [if_neg hn] at HDc
      have hn1 : (n != 0) = true := by simpa using hn
      clear hn
      go_wp2_with fail
      rw [HW6.out]
      clear c2 f2 HW6
      have c2 := HR6.out.c2
      have r0 : w6.cell? ⟨w.heap.size, 0, none⟩ = some (.int .i64 0) := by rw [Lib.cell_of_heap HA6.out]; rfl
      have r1 : w6.cell? ⟨w.heap.size, 1, none⟩ = some (.slice none 0 0) := by rw [Lib.cell_of_heap HA6.out]; rfl
      have r2 : w6.cell? ⟨w.heap.size, 2, none⟩ = some (.slice none 0 0) := by rw [Lib.cell_of_heap HA6.out]; rfl
      have q0 : w6.frozen? ⟨w.heap.size, 0, none⟩ = false := Lib.frozen_of_heap HA6.out 0
      have q1 : w6.frozen? ⟨w.heap.size, 1, none⟩ = false := Lib.frozen_of_heap HA6.out 1
      have q2 : w6.frozen? ⟨w.heap.size, 2, none⟩ = false := Lib.frozen_of_heap HA6.out 2
      simp only at c2
      have HBc : Hid (∀ a b c, Below w.heap.size w (((w6.setCell ⟨w.heap.size, 0, none⟩ a).setCell ⟨w.heap.size, 1, none⟩ b).setCell ⟨w.heap.size, 2, none⟩ c)) := fun a b c => ((HB6.out.setCell (p := ⟨w.heap.size, 0, none⟩) (Nat.le_refl _) a).setCell (p := ⟨w.heap.size, 1, none⟩) (Nat.le_refl _) b).setCell (p := ⟨w.heap.size, 2, none⟩) (Nat.le_refl _) c
      clear HR6 HX6 HA6 HO6 HB6
      go_wp2_with fail
      go_region
      go_wp2
      rw [HDc.out]
      exact bodyPost_ret (v := .tuple #[.agg #[.int .i64 0, .slice none 0 0, .slice none 0 0], .int .i64 0, .int .i64 n]) (by simp [results, Try.results8, go_sem, r0, r1, r2]) rfl ⟨none, none, 0, 0, rfl, ⟨.inl rfl, .inl rfl, by simp, by simp⟩, (HBc.out _ _ _).drew⟩
  · rw [if_neg he] at HDc
    have he1 : (e2 == 0) = false := by simpa using he
    have he2 : (e2 != 0) = true := by simpa using he
    have HBc : Hid (∀ a b c, Below w.heap.size w (((w4.setCell ⟨w.heap.size, 0, none⟩ a).setCell ⟨w.heap.size, 1, none⟩ b).setCell ⟨w.heap.size, 2, none⟩ c)) := fun a b c => ((HB4.out.setCell (p := ⟨w.heap.size, 0, none⟩) (Nat.le_refl _) a).setCell (p := ⟨w.heap.size, 1, none⟩) (Nat.le_refl _) b).setCell (p := ⟨w.heap.size, 2, none⟩) (Nat.le_refl _) c
    clear he hGat HR4 HX4 HA4 HO4 HB4 g0 g1 g2
    go_wp2_with fail
    go_region
    go_wp2
    rw [HDc.out]
    exact bodyPost_ret (v := .tuple #[.agg #[.int .i64 0, .slice none 0 0, .slice none 0 0], .int .i64 0, .int .i64 e2]) (by simp [results, Try.results8, go_sem, r0, r1, r2]) rfl ⟨none, none, 0, 0, rfl, ⟨.inl rfl, .inl rfl, by simp, by simp⟩, (HBc.out _ _ _).drew⟩

end Go.Proofs.Yteibdmfcclkjpah
