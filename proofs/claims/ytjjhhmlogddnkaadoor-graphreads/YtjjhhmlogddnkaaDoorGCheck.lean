/-
  What Check of the program's graphs answers.
-/
import Derived.Test.YtjjhhmlogddnkaaDoorGEdge
namespace Go.Proofs.YtjjhhmlogddnkaaDoor
open Go.RowKit

set_option maxRecDepth 100000 in
set_option maxHeartbeats 4000000 in
theorem gCheck_any (g : Gr) (la ea : Option Addr) (lc ec : Nat) (w : World) (hG : GAt w la ea g) :
    Calls Tryd.prog 11 #[.agg #[.int .i64 g.hor, .slice la g.lives.length lc, .slice ea g.edges.length ec]] w fun r w' => r = .returned (.int .i64 (gChk g)) ∧ Below w.heap.size w w' := by
  obtain ⟨h, lives, edges⟩ := g
  have HB := hideg (gal w)
  cases e1 : inR h 1 100
  · have HC := hideg (gChk_hor (g := ⟨h, lives, edges⟩) e1)
    clear hG
    go_enter Tryd.func11, Tryd.ntmps11
    go_wp2_with (go_at_call 25; refine (within_any _ _ _ _).mono ?_; rintro e w' ⟨rfl, rfl⟩)
    go_ret
    exact ⟨ret_int HC.out.symm, HB.out _⟩
  by_cases n1 : 12 < lives.length
  · have HC := hideg (gChk_large (g := ⟨h, lives, edges⟩) e1 (.inl n1))
    clear hG
    go_enter Tryd.func11, Tryd.ntmps11
    go_wp2_with (go_at_call 25; refine (within_any _ _ _ _).mono ?_; rintro e w' ⟨rfl, rfl⟩)
    go_ret
    exact ⟨ret_int HC.out.symm, HB.out _⟩
  by_cases n2 : 30 < edges.length
  · have HC := hideg (gChk_large (g := ⟨h, lives, edges⟩) e1 (.inr n2))
    clear hG
    go_enter Tryd.func11, Tryd.ntmps11
    go_wp2_with (go_at_call 25; refine (within_any _ _ _ _).mono ?_; rintro e w' ⟨rfl, rfl⟩)
    go_ret
    exact ⟨ret_int HC.out.symm, HB.out _⟩
  have HL := hideg (fun k => gChk_life (g := ⟨h, lives, edges⟩) e1 (by simp only; omega) k)
  have HR := hideg (fun k => gChk_rest (g := ⟨h, lives, edges⟩) e1 (by simp only; omega) k)
  have hlv : IvAt w la lives := hG.lv
  have hed : EdAt w ea edges := hG.ed
  clear hG
  go_enter Tryd.func11, Tryd.ntmps11
  go_wp2_with (go_at_call 25; refine (within_any _ _ _ _).mono ?_; rintro e w' ⟨rfl, rfl⟩)
  go_loopw [25] (fun i wr => ∃ k : Nat, k ≤ lives.length ∧ i = .int .i64 k ∧ lvChk h lives = lvChk h (lives.drop k) ∧ Below (w.heap.size + 1) (w.alloc (.cells #[.int .i64 h, .slice la lives.length lc, .slice ea edges.length ec] 25)) wr) (fun i _ => lives.length - (intOf i).toNat)
  case atStart => exact ⟨0, Nat.zero_le _, rfl, rfl, Below.refl _ _⟩
  case round =>
    obtain ⟨k, hk, rfl, hI, hb⟩ := hrel
    have HI := hideg hI
    clear hI
    have hbw : Below w.heap.size w wr := (HB.out _).trans (hb.mono (by omega))
    have hz := hb.size
    simp only [World.size_alloc] at hz
    have hz0 : w.heap.size < wr.heap.size := by omega
    have q0 : wr.cell? ⟨w.heap.size, 0, none⟩ = some (.int .i64 h) := by rw [hb.cell (p := ⟨w.heap.size, 0, none⟩) (by simp)]; simp
    have q1 : wr.cell? ⟨w.heap.size, 1, none⟩ = some (.slice la lives.length lc) := by rw [hb.cell (p := ⟨w.heap.size, 1, none⟩) (by simp)]; simp
    have q2 : wr.cell? ⟨w.heap.size, 2, none⟩ = some (.slice ea edges.length ec) := by rw [hb.cell (p := ⟨w.heap.size, 2, none⟩) (by simp)]; simp
    by_cases hlt : k < lives.length
    · rcases hlv.below hbw with h0 | ⟨b, off, rfl, hbr, hc⟩
      · subst h0; simp at hlt
      obtain ⟨c0, c1⟩ := IvAt.get hlt hc
      have HN := hideg (fun o => (⟨hbw.alloc hbw.size o, hb.alloc (by omega) o⟩ : Below w.heap.size w (wr.alloc o) ∧ Below (w.heap.size + 1) (w.alloc (.cells #[.int .i64 h, .slice (some ⟨b, off, none⟩) lives.length lc, .slice ea edges.length ec] 25)) (wr.alloc o)))
      clear hc hlv hed
      cases ef : spanB lives[k].1 lives[k].2 h
      · have HC := hideg (lv_stop hlt HI.out ef)
        go_wp2_with (go_at_call 26; refine (span_any _ _ _ _).mono ?_; rintro e w1 ⟨rfl, rfl⟩)
        go_ret
        exact ⟨ret_int (HL.out HC.out).symm, (HN.out _).1⟩
      · have HC := hideg (lv_next hlt HI.out ef)
        go_wp2_with (go_at_call 26; refine (span_any _ _ _ _).mono ?_; rintro e w1 ⟨rfl, rfl⟩)
        go_roundw
        case rel => exact ⟨k + 1, by omega, by go_num, HC.out, (HN.out _).2⟩
        case measure => simp [intOf]; omega
    · have hkl : k = lives.length := by omega
      subst hkl
      have HC := hideg (HR.out (lv_end HI.out))
      have hlv2 := hlv.below hbw
      have hed2 := hed.below hbw
      have HBW := hideg hbw
      clear hlv hed hbw hb HL HR
      obtain ⟨wo, hwo⟩ : ∃ wo, wo = wr := ⟨_, rfl⟩
      subst hwo
      go_wp2
      go_loopw [7, 41] (fun _ i wr => ∃ k : Nat, k ≤ edges.length ∧ i = .int .i64 k ∧ edsChk h lives.length edges = edsChk h lives.length (edges.drop k) ∧ Below wo.heap.size wo wr) (fun _ i _ => edges.length - (intOf i).toNat)
      case atStart => exact ⟨0, Nat.zero_le _, rfl, rfl, Below.refl _ _⟩
      case round =>
        obtain ⟨k, hk, rfl, hI, hb⟩ := hrel
        have HI := hideg hI
        clear hI
        have hz := hb.size
        have hz1 : w.heap.size < wr.heap.size := by omega
        by_cases hlt : k < edges.length
        · rcases hed2.below hb with h0 | ⟨b, off, rfl, hbr, hc⟩
          · subst h0; simp at hlt
          obtain ⟨c0, c1, lo, lcap, c2, hL, _, _⟩ := hc k hlt
          have p0 : wr.cell? ⟨w.heap.size, 0, none⟩ = some (.int .i64 h) := by rw [hb.cell (p := ⟨w.heap.size, 0, none⟩) hz0, q0]
          have p2 : wr.cell? ⟨w.heap.size, 2, none⟩ = some (.slice (some ⟨b, off, none⟩) edges.length ec) := by rw [hb.cell (p := ⟨w.heap.size, 2, none⟩) hz0, q2]
          have p1 : wr.cell? ⟨w.heap.size, 1, none⟩ = some (.slice la lives.length lc) := by rw [hb.cell (p := ⟨w.heap.size, 1, none⟩) hz0, q1]
          have HN : Hid (∀ o w1, Below (wr.alloc o).heap.size (wr.alloc o) w1 → Below wo.heap.size wo w1) := by
            intro o w1 h1
            exact ptg hb (ptg (gal wr o) h1)
          have hcl := fun o => checkEdge_any h la (some ⟨b, off, none⟩) lives.length lc edges.length ec edges[k] lo lcap (wr.alloc o) (hL.below (gal wr o)) (by omega)
          clear hc hed2 hlv2 hL q0 q1 q2
          by_cases he : edChk h lives.length edges[k] = 0
          · have HC2 := hideg (eds_next hlt HI.out he)
            rw [he] at hcl
            clear he
            go_wp2_with (go_at_call 27; refine (hcl _).mono ?_; rintro e w1 ⟨rfl, hb1⟩)
            go_roundw
            case rel => exact ⟨k + 1, by omega, by go_num, HC2.out, HN.out _ _ hb1⟩
            case measure => simp [intOf]; omega
          · have HC2 := hideg (eds_stop hlt HI.out he)
            have hne : (edChk h lives.length edges[k] != 0) = true := by simpa using he
            generalize edChk h lives.length edges[k] = ev at *
            go_wp2_with (go_at_call 27; refine (hcl _).mono ?_; rintro e w1 ⟨rfl, hb1⟩)
            go_ret
            exact ⟨ret_int (by rw [HC.out]; exact HC2.out.symm), ptg HBW.out (HN.out _ _ hb1)⟩
        · have hkl : k = edges.length := by omega
          subst hkl
          have HC2 := hideg (eds_end HI.out)
          go_wp2
          go_ret
          exact ⟨ret_int (by rw [HC.out]; exact HC2.out.symm), ptg HBW.out hb⟩

end Go.Proofs.YtjjhhmlogddnkaaDoor
