/-
  How the program asks for the sum.
-/
import Derived.Test.YteibdmfcclkjpahPkG
namespace Go.Proofs.Yteibdmfcclkjpah
open Go.RowKit

set_option maxHeartbeats 1000000 in
theorem pSm_any (s : ByteArray) (w : World) (base RB : Nat) (st : Nat × Int) (hs : s.size ≤ 4611686018427387904) (hat : st.1 ≤ s.size) (hb : base ≤ RB) (hR : RS s RB st w) :
    Calls Try.prog 37 #[.pointer (some ⟨RB, 0, none⟩)] w fun r w' => r = .returned (.tuple #[]) ∧ RS s RB (smS s.data.toList st) w' ∧ Kn base RB RB w w' := by
  have HL : Hid (s.data.toList.length = s.size) := rfl
  have HNx := hideg (fun W (h : RS s RB st W) => pNext_any s W base RB st 4 hs hat (by omega) hb h)
  obtain ⟨a, e⟩ := st
  simp only at hat
  have c0 := hR.c0
  have c1 := hR.c1
  simp only at c1
  have hai : (a : Int) ≤ (s.size : Int) := by omega
  have HS := hideg hR
  clear hR
  by_cases hc : e = 0 ∧ a + 4 ≤ s.size
  · obtain ⟨rfl, hlt⟩ := hc
    have hn : nxB s (a, 0) 4 = ((a + 4, 0), s.extract a (a + 4)) := by unfold nxB; rw [if_pos rfl, if_pos hlt]
    rw [hn] at HNx
    obtain ⟨q, hq⟩ : ∃ q, q = s.extract a (a + 4) := ⟨_, rfl⟩
    have hqs : q.size = 4 := by rw [hq, ByteArray.size_extract]; omega
    have hqj : ∀ (j : Nat) (hj : j < q.size), q[j] = s.data.toList.getD (a + j) 0 := by
      intro j hj
      have hj4 : j < 4 := by omega
      subst hq
      rw [ext_get hlt hj4, List.getD_eq_getElem?_getD, List.getElem?_eq_getElem (by rw [HL.out]; omega)]; rfl
    have HSm := hideg (fun W => pSumE_any (s.extract 0 a) W (by simp; omega))
    rw [ext_take] at HSm
    have hsl := sumL_lt (s.data.toList.take a)
    have h4 := four_same (l := s.data.toList) (a := a) (sm := sumL (s.data.toList.take a)) (by rw [HL.out]; exact hlt) hsl
    have HSS : Hid (smS s.data.toList (a, 0) = (a + 4, if (s.data.toList.drop a).take 4 = sum4 (sumL (s.data.toList.take a)) 4 then 0 else 5)) := by
      show _ = _
      unfold smS
      show (if (0 : Int) = 0 then if a + 4 ≤ s.data.toList.length then _ else _ else _) = _
      rw [if_pos rfl, if_pos (by rw [HL.out]; exact hlt)]
    generalize sumL (s.data.toList.take a) = sm at *
    rw [← hqj 1 (by omega), ← hqj 2 (by omega), ← hqj 3 (by omega), show a = a + 0 by rfl, ← hqj 0 (by omega)] at h4
    simp only [Nat.add_zero] at h4
    rw [← hq] at HNx
    simp only at HNx
    have b0 := q[0].toNat_lt
    have b1 := q[1].toNat_lt
    have b2 := q[2].toNat_lt
    have b3 := q[3].toNat_lt
    have hqE : q.toList.isEmpty = false := by rw [bdlF, List.isEmpty_eq_false_iff]; intro h; have h2 : q.data.toList.length = 4 := hqs; rw [h] at h2; cases h2
    obtain ⟨tl, htl⟩ : ∃ tl, tl = q[0].toNat + q[1].toNat * 256 + q[2].toNat * 65536 + q[3].toNat * 16777216 := ⟨_, rfl⟩
    have H5 : Hid (bits .or .u32 (bits .or .u32 (bits .or .u32 (q[0].toNat : Int) ((q[1].toNat : Int) * 256)) ((q[2].toNat : Int) * 65536)) ((q[3].toNat : Int) * 16777216) = (tl : Int)) := by
      show _ = _
      have o1 := or_at q[0].toNat q[1].toNat 8 b0
      have o2 := or_at (q[0].toNat + q[1].toNat * 256) q[2].toNat 16 (by omega)
      have o3 := or_at (q[0].toNat + q[1].toNat * 256 + q[2].toNat * 65536) q[3].toNat 24 (by omega)
      simp only [Nat.reducePow] at o1 o2 o3
      have m1 : (q[1].toNat : Int) * (256 : Int) = ((q[1].toNat * 256 : Nat) : Int) := by omega
      have m2 : (q[2].toNat : Int) * (65536 : Int) = ((q[2].toNat * 65536 : Nat) : Int) := by omega
      have m3 : (q[3].toNat : Int) * (16777216 : Int) = ((q[3].toNat * 16777216 : Nat) : Int) := by omega
      rw [m1, m2, m3, or_u32 _ _ (by omega) (by omega), o1, or_u32 _ _ (by omega) (by omega), o2, or_u32 _ _ (by omega) (by omega), o3, htl]
    rw [← htl] at h4
    have H4 := hideg h4
    clear hq hqj hn h4 htl
    go_enter Try.func37, Try.ntmps37
    go_wp2_with fail
    go_quiet (fail)
    have hRq : RS s RB (a, 0) (w.drewN nq) := HS.out
    have hKq : Kn base RB RB w (w.drewN nq) := (Kn.refl w).drewN nq
    clear HS c0 c1
    generalize w.drewN nq = wq at *
    have h1 := HNx.out wq hRq
    go_wp2_with fail
    refine h1.mono ?_
    rintro r w1 ⟨rfl, hR1, hK1⟩
    have hK1 := hKq.trans hK1
    clear h1 hRq hKq HNx
    go_wp2_with fail
    go_quiet (fail)
    rw [H5.out]
    have hRz : RS s RB (a + 4, 0) (w1.drewN nq) := hR1
    have hKz : Kn base RB RB w (w1.drewN nq) := hK1.drewN nq
    clear hR1 hK1
    generalize w1.drewN nq = wz at *
    have h2 := HSm.out wz
    have c2 := hRz.c2
    have f2 := hRz.f 2
    have HZ := hideg (⟨hRz, hKz⟩ : _ ∧ _)
    have HZ2 := hideg (⟨hRz.set2 5, hKz.set hb⟩ : _ ∧ Kn base RB RB w (wz.setCell ⟨RB, 2, none⟩ (.int .i64 5)))
    simp only at c2
    clear hRz hKz HSm
    go_wp2_with fail
    refine h2.mono ?_
    rintro r w2 ⟨rfl, rfl⟩
    clear h2
    by_cases hq : tl = sm
    · have d1 : ((tl : Int) != (sm : Int)) = false := by rw [hq]; simp
      rw [if_pos (H4.out.2 hq)] at HSS
      clear hq
      go_wp2
      go_end0
      rw [HSS.out]
      exact ⟨rfl, HZ.out⟩
    · have d1 : ((tl : Int) != (sm : Int)) = true := bne_iff_ne.2 fun e => hq (by omega)
      rw [if_neg (fun h => hq (H4.out.1 h))] at HSS
      clear hq
      go_wp2
      go_end0
      rw [HSS.out]
      exact ⟨rfl, HZ2.out⟩
  · have hn : (nxB s (a, e) 4).2 = ⟨#[]⟩ ∧ (nxB s (a, e) 4).1 = smS s.data.toList (a, e) := by
      unfold nxB smS
      by_cases he : e = 0
      · have hlt : ¬ (a + 4 ≤ s.size) := fun h => hc ⟨he, h⟩
        show (if e = 0 then if a + 4 ≤ s.size then _ else _ else _ : (Nat × Int) × ByteArray).2 = _ ∧ (if e = 0 then if a + 4 ≤ s.size then _ else _ else _ : (Nat × Int) × ByteArray).1 = (if e = 0 then if a + 4 ≤ s.data.toList.length then _ else _ else _)
        rw [if_pos he, if_neg hlt, if_pos he, if_neg (by rw [HL.out]; exact hlt)]
        exact ⟨rfl, rfl⟩
      · show (if e = 0 then _ else _ : (Nat × Int) × ByteArray).2 = _ ∧ (if e = 0 then _ else _ : (Nat × Int) × ByteArray).1 = (if e = 0 then _ else _)
        rw [if_neg he, if_neg he]
        exact ⟨rfl, rfl⟩
    obtain ⟨n1, n2⟩ := hn
    rw [n1, n2] at HNx
    generalize smS s.data.toList (a, e) = st' at *
    clear n1 n2 hc
    go_enter Try.func37, Try.ntmps37
    go_wp2_with fail
    go_quiet (fail)
    have hRq : RS s RB (a, e) (w.drewN nq) := HS.out
    have hKq : Kn base RB RB w (w.drewN nq) := (Kn.refl w).drewN nq
    clear HS c0 c1
    generalize w.drewN nq = wq at *
    have h1 := HNx.out wq hRq
    go_wp2_with fail
    refine h1.mono ?_
    rintro r w1 ⟨rfl, hR1, hK1⟩
    have hK1 := hKq.trans hK1
    clear h1 hRq hKq HNx
    go_wp2
    first | exact bodyPost_ret (results_none rfl _ _ _) rfl ⟨rfl, hR1, hK1⟩ | (go_end0; exact ⟨rfl, hR1, hK1⟩)

end Go.Proofs.Yteibdmfcclkjpah
