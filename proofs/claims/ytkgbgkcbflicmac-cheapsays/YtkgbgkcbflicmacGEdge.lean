/-
  What checkEdge and Check of the program's graphs answer.
-/
import Derived.Test.YtkgbgkcbflicmacGChk
namespace Go.Proofs.Ytkgbgkcbflicmac
open Go.RowKit

theorem edChk_none {h n : Int} {e : Ed} (k : (inR e.1 0 (n - 1) && inR e.2.1 0 (n - 1)) = false) : edChk h n e = 4 := by unfold edChk; rw [if_pos k]
theorem edChk_large {h n : Int} {e : Ed} (k : (inR e.1 0 (n - 1) && inR e.2.1 0 (n - 1)) = true) (l : 6 < e.2.2.length) : edChk h n e = 2 := by unfold edChk; rw [if_neg (by simp [k]), if_pos l]
theorem edChk_legs {h n : Int} {e : Ed} (k : (inR e.1 0 (n - 1) && inR e.2.1 0 (n - 1)) = true) (l : ¬ 6 < e.2.2.length) : edChk h n e = lgChk h 0 e.2.2 := by unfold edChk; rw [if_neg (by simp [k]), if_neg l]

set_option maxRecDepth 100000 in
set_option maxHeartbeats 4000000 in
theorem checkEdge_any (h : Int) (la ea : Option Addr) (nl lc ne ec : Nat) (e : Ed) (lo : Option Addr) (lcap : Nat) (w : World) (hL : LgAt w lo e.2.2) (hnl : nl ≤ 12) :
    Calls Try.prog 41 #[.agg #[.int .i64 h, .slice la nl lc, .slice ea ne ec], .agg #[.int .i64 e.1, .int .i64 e.2.1, .slice lo e.2.2.length lcap]] w fun r w' => r = .returned (.int .i64 (edChk h nl e)) ∧ Below w.heap.size w w' := by
  obtain ⟨A, B, legs⟩ := e
  simp only at hL ⊢
  have HB : Hid (∀ o o', Below w.heap.size w ((w.alloc o).alloc o')) := fun o o' => ptg (gal w o) (gal _ o')
  cases e1 : inR A 0 ((nl : Int) - 1)
  · have HC := hideg (edChk_none (h := h) (n := nl) (e := (A, B, legs)) (by simp [e1]))
    clear hL
    go_enter Try.func41, Try.ntmps41
    go_wp2_with (go_at_call 39; refine (within_any _ _ _ _).mono ?_; rintro e w' ⟨rfl, rfl⟩)
    go_ret
    exact ⟨ret_int HC.out.symm, HB.out _ _⟩
  cases e2 : inR B 0 ((nl : Int) - 1)
  · have HC := hideg (edChk_none (h := h) (n := nl) (e := (A, B, legs)) (by simp [e2]))
    clear hL
    go_enter Try.func41, Try.ntmps41
    go_wp2_with (go_at_call 39; refine (within_any _ _ _ _).mono ?_; rintro e w' ⟨rfl, rfl⟩)
    go_ret
    exact ⟨ret_int HC.out.symm, HB.out _ _⟩
  by_cases h6 : 6 < legs.length
  · have HC := hideg (edChk_large (h := h) (n := nl) (e := (A, B, legs)) (by simp [e1, e2]) h6)
    clear hL
    go_enter Try.func41, Try.ntmps41
    go_wp2_with (go_at_call 39; refine (within_any _ _ _ _).mono ?_; rintro e w' ⟨rfl, rfl⟩)
    go_ret
    exact ⟨ret_int HC.out.symm, HB.out _ _⟩
  have HC := hideg (edChk_legs (h := h) (n := nl) (e := (A, B, legs)) (by simp [e1, e2]) h6)
  have h6' : legs.length ≤ 6 := by omega
  go_enter Try.func41, Try.ntmps41
  go_wp2_with (go_at_call 39; refine (within_any _ _ _ _).mono ?_; rintro e w' ⟨rfl, rfl⟩)
  go_loopw [6, 31] (fun _ i wr => ∃ k : Nat, k ≤ legs.length ∧ i = .int .i64 k ∧ lgChk h 0 legs = lgChk h (prevTo legs k) (legs.drop k) ∧ Below (w.heap.size + 2) ((w.alloc (.cells #[.int .i64 h, .slice la nl lc, .slice ea ne ec] 25)).alloc (.cells #[.int .i64 A, .int .i64 B, .slice lo legs.length lcap] 51)) wr) (fun _ i _ => legs.length - (intOf i).toNat)
  case atStart => exact ⟨0, Nat.zero_le _, rfl, rfl, Below.refl _ _⟩
  case round =>
    obtain ⟨k, hk, rfl, hI, hb⟩ := hrel
    have HI := hideg hI
    clear hI
    have hbw : Below w.heap.size w wr := (HB.out _ _).trans (hb.mono (by omega))
    by_cases hlt : k < legs.length
    · have hz := hb.size
      simp only [World.size_alloc] at hz
      have hz0 : w.heap.size < wr.heap.size := by omega
      have hz1 : w.heap.size + 1 < wr.heap.size := by omega
      rcases hL.below hbw with h0 | ⟨b, off, rfl, hbr, hc⟩
      · subst h0; simp at hlt
      obtain ⟨c0, c1, c2, c3⟩ := LgAt.get hlt hc
      have q0 : wr.cell? ⟨w.heap.size, 0, none⟩ = some (.int .i64 h) := by rw [hb.cell (p := ⟨w.heap.size, 0, none⟩) (by simp)]; simp
      have HN : Hid (∀ o w1, Below (wr.alloc o).heap.size (wr.alloc o) w1 → Below w.heap.size w w1 ∧ Below (w.heap.size + 2) ((w.alloc (.cells #[.int .i64 h, .slice la nl lc, .slice (ea) ne ec] 25)).alloc (.cells #[.int .i64 A, .int .i64 B, .slice (some ⟨b, off, none⟩) legs.length lcap] 51)) w1) := by
        intro o w1 h1
        have := ptg (gal wr o) h1
        exact ⟨hbw.trans (this.mono hbw.size), hb.trans (this.mono (by omega))⟩
      cases ef : fitB legs[k] h
      · have HR := hideg (lg_bad hlt HI.out ef)
        clear hc hL
        go_wp2_with (go_at_call 47; refine (fits_any legs[k] _ _).mono ?_; rintro e w1 ⟨rfl, hb1⟩)
        go_ret
        exact ⟨ret_int (by rw [HC.out, HR.out]), (HN.out _ _ hb1).1⟩
      · have hf := (fitB_iff legs[k] h).1 ef
        by_cases hk0 : k = 0
        · subst hk0
          simp only [Nat.zero_mul, Nat.add_zero] at c0 c1 c2 c3
          have HR := hideg (lg_next hlt HI.out ef (by simp only [prevTo]; omega))
          clear hc hL hf
          go_wp2_with (go_at_call 47; refine (fits_any legs[0] _ _).mono ?_; rintro e w1 ⟨rfl, hb1⟩)
          go_quiet (fail)
          go_wp2
          go_roundw
          case rel => exact ⟨0 + 1, by omega, by go_num, HR.out, below_drewN (HN.out _ _ hb1).2 _⟩
          case measure => simp [intOf]; omega
        · obtain ⟨m, rfl⟩ : ∃ m, k = m + 1 := ⟨k - 1, by omega⟩
          have hm : m < legs.length := by omega
          have cp := (LgAt.get hm hc).2.1
          have HP := hideg (prevTo_succ hm)
          have q2 : wr.cell? ⟨w.heap.size + 1, 2, none⟩ = some (.slice (some ⟨b, off, none⟩) legs.length lcap) := by rw [hb.cell (p := ⟨w.heap.size + 1, 2, none⟩) (by simp)]; simp
          have HQ : Hid (∀ o w1, Below (wr.alloc o).heap.size (wr.alloc o) w1 → w1.cell? ⟨w.heap.size + 1, 2, none⟩ = some (.slice (some ⟨b, off, none⟩) legs.length lcap) ∧ w1.cell? ⟨b, off + m * 4 + 1, none⟩ = some (.int .i64 legs[m].2.1)) := by
            intro o w1 h1
            have := ptg (gal wr o) h1
            exact ⟨by rw [this.cell (p := ⟨w.heap.size + 1, 2, none⟩) (by simp; omega), q2], by rw [this.cell (p := ⟨b, off + m * 4 + 1, none⟩) hbr, cp]⟩
          by_cases g : legs[m + 1].1 < legs[m].2.1
          · have HR := hideg (lg_form hlt HI.out ef (by rw [HP.out]; exact g))
            clear hc hL hf q2 cp
            go_wp2_with (go_at_call 47; refine (fits_any legs[m + 1] _ _).mono ?_; rintro e w1 ⟨rfl, hb1⟩)
            have hb2 := hideg hb1
            obtain ⟨d2, dp⟩ := HQ.out _ _ hb2.out
            have d0 : w1.cell? ⟨wr.heap.size, 0, none⟩ = some (.int .i64 legs[m + 1].1) := by rw [hb2.out.cell (p := ⟨wr.heap.size, 0, none⟩) (by simp)]; simp
            go_quiet (fail)
            go_wp2
            go_ret
            exact ⟨ret_int (by rw [HC.out, HR.out]), below_drewN (HN.out _ _ hb2.out).1 _⟩
          · have HR := hideg (lg_next hlt HI.out ef (by rw [HP.out]; exact g))
            have dg : decide (legs[m + 1].1 < legs[m].2.1) = false := by simpa using g
            clear hc hL hf q2 cp
            go_wp2_with (go_at_call 47; refine (fits_any legs[m + 1] _ _).mono ?_; rintro e w1 ⟨rfl, hb1⟩)
            have hb2 := hideg hb1
            obtain ⟨d2, dp⟩ := HQ.out _ _ hb2.out
            have d0 : w1.cell? ⟨wr.heap.size, 0, none⟩ = some (.int .i64 legs[m + 1].1) := by rw [hb2.out.cell (p := ⟨wr.heap.size, 0, none⟩) (by simp)]; simp
            go_quiet (fail)
            go_wp2
            go_roundw
            case rel => exact ⟨m + 1 + 1, by omega, by go_num, HR.out, below_drewN (HN.out _ _ hb2.out).2 _⟩
            case measure => simp [intOf]; omega
    · have hkl : k = legs.length := by omega
      subst hkl
      have HR := hideg (lg_end HI.out)
      go_wp2
      go_ret
      exact ⟨ret_int (by rw [HC.out, HR.out]), hbw⟩

end Go.Proofs.Ytkgbgkcbflicmac
