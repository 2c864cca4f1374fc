/-
  What checkEdge and Check of the program's graphs answer.
-/
import Derived.Test.YtjjhhmlogddnkaaDoorGChk
namespace Go.Proofs.YtjjhhmlogddnkaaDoor
open Go.RowKit

theorem edChk_none {h n : Int} {e : Ed} (k : (inR e.1 0 (n - 1) && inR e.2.1 0 (n - 1)) = false) : edChk h n e = 4 := by unfold edChk; rw [if_pos k]
theorem edChk_large {h n : Int} {e : Ed} (k : (inR e.1 0 (n - 1) && inR e.2.1 0 (n - 1)) = true) (l : 6 < e.2.2.length) : edChk h n e = 2 := by unfold edChk; rw [if_neg (by simp [k]), if_pos l]
theorem edChk_legs {h n : Int} {e : Ed} (k : (inR e.1 0 (n - 1) && inR e.2.1 0 (n - 1)) = true) (l : ¬ 6 < e.2.2.length) : edChk h n e = lgChk h 0 e.2.2 := by unfold edChk; rw [if_neg (by simp [k]), if_neg l]

set_option maxRecDepth 100000 in
set_option maxHeartbeats 4000000 in
theorem checkEdge_any (h : Int) (la ea : Option Addr) (nl lc ne ec : Nat) (e : Ed) (lo : Option Addr) (lcap : Nat) (w : World) (hL : LgAt w lo e.2.2) (hnl : nl ≤ 12) :
    Calls Tryd.prog 27 #[.agg #[.int .i64 h, .slice la nl lc, .slice ea ne ec], .agg #[.int .i64 e.1, .int .i64 e.2.1, .slice lo e.2.2.length lcap]] w fun r w' => r = .returned (.int .i64 (edChk h nl e)) ∧ Below w.heap.size w w' := by
  obtain ⟨A, B, legs⟩ := e
  simp only at hL ⊢
  have HB : Hid (∀ o o', Below w.heap.size w ((w.alloc o).alloc o')) := fun o o' => ptg (gal w o) (gal _ o')
  obtain ⟨W2, hW2⟩ : ∃ x, x = (w.alloc (.cells #[.int .i64 h, .slice la nl lc, .slice ea ne ec] 25)).alloc (.cells #[.int .i64 A, .int .i64 B, .slice lo legs.length lcap] 52) := ⟨_, rfl⟩
  have HQ2 : Hid (∀ W, Below (w.heap.size + 2) W2 W → W.cell? ⟨w.heap.size, 0, none⟩ = some (.int .i64 h) ∧ W.cell? ⟨w.heap.size, 1, none⟩ = some (.slice la nl lc) ∧ W.cell? ⟨w.heap.size, 2, none⟩ = some (.slice ea ne ec) ∧ W.cell? ⟨w.heap.size + 1, 0, none⟩ = some (.int .i64 A) ∧ W.cell? ⟨w.heap.size + 1, 1, none⟩ = some (.int .i64 B) ∧ W.cell? ⟨w.heap.size + 1, 2, none⟩ = some (.slice lo legs.length lcap)) := by
    intro W hb
    refine ⟨?_, ?_, ?_, ?_, ?_, ?_⟩
    · rw [hb.cell (p := ⟨w.heap.size, 0, none⟩) (by simp), hW2]; simp
    · rw [hb.cell (p := ⟨w.heap.size, 1, none⟩) (by simp), hW2]; simp
    · rw [hb.cell (p := ⟨w.heap.size, 2, none⟩) (by simp), hW2]; simp
    · rw [hb.cell (p := ⟨w.heap.size + 1, 0, none⟩) (by simp), hW2]; simp
    · rw [hb.cell (p := ⟨w.heap.size + 1, 1, none⟩) (by simp), hW2]; simp
    · rw [hb.cell (p := ⟨w.heap.size + 1, 2, none⟩) (by simp), hW2]; simp
  have hs2 : W2.heap.size = w.heap.size + 2 := by rw [hW2]; simp
  have HW : Hid (∀ W, Below (w.heap.size + 2) W2 W → Below w.heap.size w W) := fun W hb => by rw [hW2] at hb; exact (HB.out _ _).trans (hb.mono (by omega))
  have hvA := fun W => gHasV_any h la ea nl lc ne ec A W hnl
  have hvB := fun W => gHasV_any h la ea nl lc ne ec B W hnl
  have HS2 := hideg hs2
  have hW2s := hW2.symm
  clear hs2 hW2
  cases e1 : inR A 0 ((nl : Int) - 1)
  · have HC := hideg (edChk_none (h := h) (n := nl) (e := (A, B, legs)) (by simp [e1]))
    rw [e1] at hvA
    have Q := HQ2.out W2 (Below.refl _ _)
    obtain ⟨q0, q1, q2, q3, q4, q5⟩ := Q
    clear hL hvB e1
    go_enter Tryd.func27, Tryd.ntmps27
    go_wp2_with fail
    refine (hvA _).mono ?_
    rintro e w3 ⟨rfl, hb3⟩
    have hbF := HW.out w3 (by rw [HS2.out] at hb3; exact hb3)
    clear hvA hb3 hW2s q0 q1 q2 q3 q4 q5
    go_wp2
    go_ret
    exact ⟨ret_int HC.out.symm, hbF⟩
  cases e2 : inR B 0 ((nl : Int) - 1)
  · have HC := hideg (edChk_none (h := h) (n := nl) (e := (A, B, legs)) (by simp [e2]))
    rw [e1] at hvA
    rw [e2] at hvB
    obtain ⟨q0, q1, q2, q3, q4, q5⟩ := HQ2.out W2 (Below.refl _ _)
    clear hL e1 e2
    go_enter Tryd.func27, Tryd.ntmps27
    go_wp2_with fail
    refine (hvA _).mono ?_
    rintro e w3 ⟨rfl, hb3⟩
    rw [HS2.out] at hb3
    have HB3 := hideg hb3
    clear hvA hb3 hW2s q0 q1 q2 q3 q4 q5
    obtain ⟨q0, q1, q2, q3, q4, q5⟩ := HQ2.out w3 HB3.out
    go_wp2_with fail
    refine (hvB _).mono ?_
    rintro e w4 ⟨rfl, hb4⟩
    have hbF := HW.out w4 (HB3.out.trans (hb4.mono (by have := HB3.out.size; have := HS2.out; omega)))
    clear hvB hb4 q0 q1 q2 q3 q4 q5
    go_wp2
    go_ret
    exact ⟨ret_int HC.out.symm, hbF⟩
  rw [e1] at hvA
  rw [e2] at hvB
  by_cases h6 : 6 < legs.length
  · have HC := hideg (edChk_large (h := h) (n := nl) (e := (A, B, legs)) (by simp [e1, e2]) h6)
    obtain ⟨q0, q1, q2, q3, q4, q5⟩ := HQ2.out W2 (Below.refl _ _)
    clear hL e1 e2
    go_enter Tryd.func27, Tryd.ntmps27
    go_wp2_with fail
    refine (hvA _).mono ?_
    rintro e w3 ⟨rfl, hb3⟩
    rw [HS2.out] at hb3
    have HB3 := hideg hb3
    clear hvA hb3 hW2s q0 q1 q2 q3 q4 q5
    obtain ⟨q0, q1, q2, q3, q4, q5⟩ := HQ2.out w3 HB3.out
    go_wp2_with fail
    refine (hvB _).mono ?_
    rintro e w4 ⟨rfl, hb4⟩
    have HB4 := hideg (HB3.out.trans (hb4.mono (by have := HB3.out.size; have := HS2.out; omega)))
    have hbF := HW.out w4 HB4.out
    clear hvB hb4 q0 q1 q2 q3 q4 q5
    obtain ⟨q0, q1, q2, q3, q4, q5⟩ := HQ2.out w4 HB4.out
    go_wp2
    go_ret
    exact ⟨ret_int HC.out.symm, hbF⟩
  have HC := hideg (edChk_legs (h := h) (n := nl) (e := (A, B, legs)) (by simp [e1, e2]) h6)
  have h6' : legs.length ≤ 6 := by omega
  obtain ⟨q0, q1, q2, q3, q4, q5⟩ := HQ2.out W2 (Below.refl _ _)
  clear e1 e2
  go_enter Tryd.func27, Tryd.ntmps27
  go_wp2_with fail
  refine (hvA _).mono ?_
  rintro e w3 ⟨rfl, hb3⟩
  rw [HS2.out] at hb3
  have HB3 := hideg hb3
  clear hvA hb3 hW2s q0 q1 q2 q3 q4 q5
  obtain ⟨q0, q1, q2, q3, q4, q5⟩ := HQ2.out w3 HB3.out
  go_wp2_with fail
  refine (hvB _).mono ?_
  rintro e w4 ⟨rfl, hb4⟩
  have HB4 := hideg (HB3.out.trans (hb4.mono (by have := HB3.out.size; have := HS2.out; omega)))
  clear hvB hb4 q0 q1 q2 q3 q4 q5
  obtain ⟨q0, q1, q2, q3, q4, q5⟩ := HQ2.out w4 HB4.out
  go_wp2_with fail
  go_loopw [6, 26] (fun _ i wr => ∃ k : Nat, k ≤ legs.length ∧ i = .int .i64 k ∧ lgChk h 0 legs = lgChk h (prevTo legs k) (legs.drop k) ∧ Below (w.heap.size + 2) W2 wr) (fun _ i _ => legs.length - (intOf i).toNat)
  case atStart => exact ⟨0, Nat.zero_le _, rfl, rfl, HB4.out⟩
  case round =>
    obtain ⟨k, hk, rfl, hI, hb⟩ := hrel
    have HI := hideg hI
    clear hI
    have hbw : Below w.heap.size w wr := HW.out wr hb
    clear q0 q1 q2 q3 q4 q5
    by_cases hlt : k < legs.length
    · have hz := hb.size
      rw [HS2.out] at hz
      have hz0 : w.heap.size < wr.heap.size := by omega
      have hz1 : w.heap.size + 1 < wr.heap.size := by omega
      rcases hL.below hbw with h0 | ⟨b, off, rfl, hbr, hc⟩
      · subst h0; simp at hlt
      obtain ⟨c0, c1, c2, c3⟩ := LgAt.get hlt hc
      have q0 : wr.cell? ⟨w.heap.size, 0, none⟩ = some (.int .i64 h) := (HQ2.out wr hb).1
      have HN : Hid (∀ o w1, Below (wr.alloc o).heap.size (wr.alloc o) w1 → Below w.heap.size w w1 ∧ Below (w.heap.size + 2) W2 w1) := by
        intro o w1 h1
        have := ptg (gal wr o) h1
        exact ⟨hbw.trans (this.mono hbw.size), hb.trans (this.mono (by omega))⟩
      cases ef : fitB legs[k] h
      · have HR := hideg (lg_bad hlt HI.out ef)
        clear hc hL
        go_wp2_with (go_at_call 39; refine (fits_any legs[k] _ _).mono ?_; rintro e w1 ⟨rfl, hb1⟩)
        go_ret
        exact ⟨ret_int (by rw [HC.out, HR.out]), (HN.out _ _ hb1).1⟩
      · have hf := (fitB_iff legs[k] h).1 ef
        by_cases hk0 : k = 0
        · subst hk0
          simp only [Nat.zero_mul, Nat.add_zero] at c0 c1 c2 c3
          have HR := hideg (lg_next hlt HI.out ef (by simp only [prevTo]; omega))
          clear hc hL hf
          go_wp2_with (go_at_call 39; refine (fits_any legs[0] _ _).mono ?_; rintro e w1 ⟨rfl, hb1⟩)
          go_quiet (fail)
          go_wp2
          go_roundw
          case rel => exact ⟨0 + 1, by omega, by go_num, HR.out, below_drewN (HN.out _ _ hb1).2 _⟩
          case measure => simp [intOf]; omega
        · obtain ⟨m, rfl⟩ : ∃ m, k = m + 1 := ⟨k - 1, by omega⟩
          have hm : m < legs.length := by omega
          have cp := (LgAt.get hm hc).2.1
          have HP := hideg (prevTo_succ hm)
          have q2 : wr.cell? ⟨w.heap.size + 1, 2, none⟩ = some (.slice (some ⟨b, off, none⟩) legs.length lcap) := (HQ2.out wr hb).2.2.2.2.2
          have HQ : Hid (∀ o w1, Below (wr.alloc o).heap.size (wr.alloc o) w1 → w1.cell? ⟨w.heap.size + 1, 2, none⟩ = some (.slice (some ⟨b, off, none⟩) legs.length lcap) ∧ w1.cell? ⟨b, off + m * 4 + 1, none⟩ = some (.int .i64 legs[m].2.1)) := by
            intro o w1 h1
            have := ptg (gal wr o) h1
            exact ⟨by rw [this.cell (p := ⟨w.heap.size + 1, 2, none⟩) (by simp; omega), q2], by rw [this.cell (p := ⟨b, off + m * 4 + 1, none⟩) hbr, cp]⟩
          by_cases g : legs[m + 1].1 < legs[m].2.1
          · have HR := hideg (lg_form hlt HI.out ef (by rw [HP.out]; exact g))
            clear hc hL hf q2 cp
            go_wp2_with (go_at_call 39; refine (fits_any legs[m + 1] _ _).mono ?_; rintro e w1 ⟨rfl, hb1⟩)
            have hb2 := hideg hb1
            obtain ⟨d2, dp⟩ := HQ.out _ _ hb2.out
            have d0 : w1.cell? ⟨wr.heap.size, 0, none⟩ = some (.int .i64 legs[m + 1].1) := by rw [hb2.out.cell (p := ⟨wr.heap.size, 0, none⟩) (by simp)]; simp
            go_quiet (fail)
            go_wp2
            go_ret
            exact ⟨ret_int (by rw [HC.out, HR.out]), below_drewN (HN.out _ _ hb2.out).1 _⟩
          · have HR := hideg (lg_next hlt HI.out ef (by rw [HP.out]; exact g))
            have dg : decide (legs[m + 1].1 < legs[m].2.1) = false := by simpa using g
            clear hc hL hf q2 cp
            go_wp2_with (go_at_call 39; refine (fits_any legs[m + 1] _ _).mono ?_; rintro e w1 ⟨rfl, hb1⟩)
            have hb2 := hideg hb1
            obtain ⟨d2, dp⟩ := HQ.out _ _ hb2.out
            have d0 : w1.cell? ⟨wr.heap.size, 0, none⟩ = some (.int .i64 legs[m + 1].1) := by rw [hb2.out.cell (p := ⟨wr.heap.size, 0, none⟩) (by simp)]; simp
            go_quiet (fail)
            go_wp2
            go_roundw
            case rel => exact ⟨m + 1 + 1, by omega, by go_num, HR.out, below_drewN (HN.out _ _ hb2.out).2 _⟩
            case measure => simp [intOf]; omega
    · have hkl : k = legs.length := by omega
      subst hkl
      have HR := hideg (lg_end HI.out)
      go_wp2
      go_ret
      exact ⟨ret_int (by rw [HC.out, HR.out]), hbw⟩

end Go.Proofs.YtjjhhmlogddnkaaDoor
