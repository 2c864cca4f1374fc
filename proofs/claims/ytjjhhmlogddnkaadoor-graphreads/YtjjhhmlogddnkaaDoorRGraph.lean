/-
  What Graph of the reference answers: what Check of the program's graphs answers.
-/
import Derived.Test.YtjjhhmlogddnkaaDoorGEdge
namespace Go.Proofs.YtjjhhmlogddnkaaDoor
open Go.RowKit

theorem fitB_no {l : Lg} {h : Int} (k : l.1 < 0 ∨ l.2.1 ≤ l.1 ∨ h < l.2.1 ∨ inR l.2.2.1 1 50 = false ∨ inR l.2.2.2 0 1000 = false) : fitB l h = false := by
  rw [← Bool.not_eq_true, fitB_iff]
  rintro ⟨h1, h2, h3⟩
  rcases k with k | k | k | k | k
  · omega
  · omega
  · omega
  · rw [(inR_iff _ _ _).2 h2] at k; simp at k
  · rw [(inR_iff _ _ _).2 h3] at k; simp at k
theorem fitB_yes {l : Lg} {h : Int} (k1 : ¬ l.1 < 0) (k2 : ¬ l.2.1 ≤ l.1) (k3 : ¬ h < l.2.1) (k4 : inR l.2.2.1 1 50 = true) (k5 : inR l.2.2.2 0 1000 = true) : fitB l h = true :=
  (fitB_iff l h).2 ⟨⟨by omega, by omega, by omega⟩, (inR_iff _ _ _).1 k4, (inR_iff _ _ _).1 k5⟩

set_option maxRecDepth 100000 in
set_option maxHeartbeats 8000000 in
theorem RGraph_any (g : Gr) (la ea : Option Addr) (lc ec : Nat) (w : World) (hG : GAt w la ea g) :
    Calls Tryd.prog 5 #[.agg #[.int .i64 g.hor, .slice la g.lives.length lc, .slice ea g.edges.length ec]] w fun r w' => r = .returned (.int .i64 (gChk g)) ∧ Below w.heap.size w w' := by
  obtain ⟨h, lives, edges⟩ := g
  have HB := hideg (gal w)
  cases e1 : inR h 1 100
  · have HC := hideg (gChk_hor (g := ⟨h, lives, edges⟩) e1)
    clear hG
    go_enter Tryd.func5, Tryd.ntmps5
    go_wp2_with (go_at_call 9; refine (In_any _ _ _ _).mono ?_; rintro e w' ⟨rfl, rfl⟩)
    go_ret
    exact ⟨ret_int HC.out.symm, HB.out _⟩
  by_cases n1 : 12 < lives.length
  · have HC := hideg (gChk_large (g := ⟨h, lives, edges⟩) e1 (.inl n1))
    clear hG
    go_enter Tryd.func5, Tryd.ntmps5
    go_wp2_with (go_at_call 9; refine (In_any _ _ _ _).mono ?_; rintro e w' ⟨rfl, rfl⟩)
    go_ret
    exact ⟨ret_int HC.out.symm, HB.out _⟩
  by_cases n2 : 30 < edges.length
  · have HC := hideg (gChk_large (g := ⟨h, lives, edges⟩) e1 (.inr n2))
    clear hG
    go_enter Tryd.func5, Tryd.ntmps5
    go_wp2_with (go_at_call 9; refine (In_any _ _ _ _).mono ?_; rintro e w' ⟨rfl, rfl⟩)
    go_ret
    exact ⟨ret_int HC.out.symm, HB.out _⟩
  have HL := hideg (fun k => gChk_life (g := ⟨h, lives, edges⟩) e1 (by simp only; omega) k)
  have HR := hideg (fun k => gChk_rest (g := ⟨h, lives, edges⟩) e1 (by simp only; omega) k)
  have hlv : IvAt w la lives := hG.lv
  have hed : EdAt w ea edges := hG.ed
  clear hG
  go_enter Tryd.func5, Tryd.ntmps5
  go_wp2_with (go_at_call 9; refine (In_any _ _ _ _).mono ?_; rintro e w' ⟨rfl, rfl⟩)
  go_loopw [3] (fun i wr => ∃ k : Nat, k ≤ lives.length ∧ i = .int .i64 k ∧ lvChk h lives = lvChk h (lives.drop k) ∧ Below (w.heap.size + 1) (w.alloc (.cells #[.int .i64 h, .slice la lives.length lc, .slice ea edges.length ec] 25)) wr) (fun i _ => lives.length - (intOf i).toNat)
  case atStart => exact ⟨0, Nat.zero_le _, rfl, rfl, Below.refl _ _⟩
  case round =>
    obtain ⟨k, hk, rfl, hI, hb⟩ := hrel
    have HI := hideg hI
    clear hI
    have hbw : Below w.heap.size w wr := (HB.out _).trans (hb.mono (by omega))
    have hz := hb.size
    simp only [World.size_alloc] at hz
    have hz0 : w.heap.size < wr.heap.size := by omega
    have q0 : wr.cell? ⟨w.heap.size, 0, none⟩ = some (.int .i64 h) := by rw [hb.cell (p := ⟨w.heap.size, 0, none⟩) (by simp)]; simp
    have q1 : wr.cell? ⟨w.heap.size, 1, none⟩ = some (.slice la lives.length lc) := by rw [hb.cell (p := ⟨w.heap.size, 1, none⟩) (by simp)]; simp
    have q2 : wr.cell? ⟨w.heap.size, 2, none⟩ = some (.slice ea edges.length ec) := by rw [hb.cell (p := ⟨w.heap.size, 2, none⟩) (by simp)]; simp
    by_cases hlt : k < lives.length
    · rcases hlv.below hbw with h0 | ⟨b, off, rfl, hbr, hc⟩
      · subst h0; simp at hlt
      obtain ⟨c0, c1⟩ := IvAt.get hlt hc
      have HN := hideg (fun o => (⟨hbw.alloc hbw.size o, hb.alloc (by omega) o⟩ : Below w.heap.size w (wr.alloc o) ∧ Below (w.heap.size + 1) (w.alloc (.cells #[.int .i64 h, .slice (some ⟨b, off, none⟩) lives.length lc, .slice ea edges.length ec] 25)) (wr.alloc o)))
      clear hc hlv hed q2
      by_cases g1 : lives[k].1 < 0
      · have HC := hideg (lv_stop hlt HI.out (spanB_no (by omega)))
        go_wp2
        go_ret
        exact ⟨ret_int (HL.out HC.out).symm, (HN.out _).1⟩
      by_cases g2 : lives[k].2 ≤ lives[k].1
      · have HC := hideg (lv_stop hlt HI.out (spanB_no (by omega)))
        go_wp2
        go_ret
        exact ⟨ret_int (HL.out HC.out).symm, (HN.out _).1⟩
      by_cases g3 : h < lives[k].2
      · have HC := hideg (lv_stop hlt HI.out (spanB_no (by omega)))
        go_wp2
        go_ret
        exact ⟨ret_int (HL.out HC.out).symm, (HN.out _).1⟩
      have HC := hideg (lv_next hlt HI.out ((spanB_iff _ _ _).2 (by omega)))
      go_wp2
      go_roundw
      case rel => exact ⟨k + 1, by omega, by go_num, HC.out, (HN.out _).2⟩
      case measure => simp [intOf]; omega
    · have hkl : k = lives.length := by omega
      subst hkl
      have HC := hideg (HR.out (lv_end HI.out))
      have hed2 := hed.below hbw
      have HBW := hideg hbw
      clear hlv hed hbw hb HL HR
      obtain ⟨wo, hwo⟩ : ∃ wo, wo = wr := ⟨_, rfl⟩
      subst hwo
      go_wp2
      go_loopw [5] (fun i wr => ∃ k : Nat, k ≤ edges.length ∧ i = .int .i64 k ∧ edsChk h lives.length edges = edsChk h lives.length (edges.drop k) ∧ Below wo.heap.size wo wr) (fun i _ => edges.length - (intOf i).toNat)
      case atStart => exact ⟨0, Nat.zero_le _, rfl, rfl, Below.refl _ _⟩
      case round =>
        obtain ⟨k, hk, rfl, hI, hb⟩ := hrel
        have HI := hideg hI
        clear hI
        have hz := hb.size
        have hz1 : w.heap.size < wr.heap.size := by omega
        have p0 : wr.cell? ⟨w.heap.size, 0, none⟩ = some (.int .i64 h) := by rw [hb.cell (p := ⟨w.heap.size, 0, none⟩) hz0, q0]
        have p1 : wr.cell? ⟨w.heap.size, 1, none⟩ = some (.slice la lives.length lc) := by rw [hb.cell (p := ⟨w.heap.size, 1, none⟩) hz0, q1]
        have p2 : wr.cell? ⟨w.heap.size, 2, none⟩ = some (.slice ea edges.length ec) := by rw [hb.cell (p := ⟨w.heap.size, 2, none⟩) hz0, q2]
        clear q1 q2
        by_cases hlt : k < edges.length
        · rcases hed2.below hb with h0 | ⟨b, off, rfl, hbr, hc⟩
          · subst h0; simp at hlt
          obtain ⟨c0, c1, lo, lcap, c2, hL, _, _⟩ := hc k hlt
          have HN : Hid (∀ o w1, Below (wr.heap.size + 1) (wr.alloc o) w1 → Below wo.heap.size wo w1) := by
            intro o w1 h1
            exact ptg hb ((gal wr o).trans (h1.mono (by omega)))
          have hL2 := hideg (fun o => hL.below (gal wr o))
          clear hc hed2 hL
          have HE0 := hideg (fun (e0 : edChk h lives.length edges[k] = 0) => eds_next hlt HI.out e0)
          have HE1 := hideg (fun (x : Int) (hx : x ≠ 0) (e0 : edChk h lives.length edges[k] = x) => (eds_stop hlt HI.out (by rw [e0]; exact hx)).trans e0)
          generalize edges[k] = ed at *
          obtain ⟨A, B, legs⟩ := ed
          simp only at c0 c1 c2 hL2
          cases f1 : inR A 0 ((lives.length : Int) - 1)
          · have HX := hideg (HE1.out 4 (by decide) (edChk_none (by simp [f1])))
            go_wp2_with (go_at_call 9; refine (In_any _ _ _ _).mono ?_; rintro e w' ⟨rfl, rfl⟩)
            go_ret
            exact ⟨ret_int (by rw [HC.out]; exact HX.out.symm), ptg HBW.out (HN.out _ _ (Below.refl _ _))⟩
          cases f2 : inR B 0 ((lives.length : Int) - 1)
          · have HX := hideg (HE1.out 4 (by decide) (edChk_none (by simp [f2])))
            go_wp2_with (go_at_call 9; refine (In_any _ _ _ _).mono ?_; rintro e w' ⟨rfl, rfl⟩)
            go_ret
            exact ⟨ret_int (by rw [HC.out]; exact HX.out.symm), ptg HBW.out (HN.out _ _ (Below.refl _ _))⟩
          by_cases h6 : 6 < legs.length
          · have HX := hideg (HE1.out 2 (by decide) (edChk_large (by simp [f1, f2]) h6))
            go_wp2_with (go_at_call 9; refine (In_any _ _ _ _).mono ?_; rintro e w' ⟨rfl, rfl⟩)
            go_ret
            exact ⟨ret_int (by rw [HC.out]; exact HX.out.symm), ptg HBW.out (HN.out _ _ (Below.refl _ _))⟩
          have h6' : legs.length ≤ 6 := by omega
          have HG := hideg (edChk_legs (h := h) (n := lives.length) (e := (A, B, legs)) (by simp [f1, f2]) h6)
          obtain ⟨wv, hwv⟩ : ∃ wv, wv = wr := ⟨_, rfl⟩
          subst hwv
          go_wp2_with (go_at_call 9; refine (In_any _ _ _ _).mono ?_; rintro e w' ⟨rfl, rfl⟩)
          go_loopw [7] (fun i wr => ∃ j : Nat, j ≤ legs.length ∧ i = .int .i64 j ∧ lgChk h 0 legs = lgChk h (prevTo legs j) (legs.drop j) ∧ Below (wv.heap.size + 1) (wv.alloc (.cells #[.int .i64 A, .int .i64 B, .slice lo legs.length lcap] 52)) wr) (fun i _ => legs.length - (intOf i).toNat)
          case atStart => exact ⟨0, Nat.zero_le _, rfl, rfl, Below.refl _ _⟩
          case round =>
            obtain ⟨j, hj, rfl, hI2, hb2⟩ := hrel
            have HI2 := hideg hI2
            clear hI2
            have hy := hb2.size
            simp only [World.size_alloc] at hy
            have hy0 : wv.heap.size < wr.heap.size := by omega
            have hy1 : w.heap.size < wr.heap.size := by omega
            have r0 : wr.cell? ⟨w.heap.size, 0, none⟩ = some (.int .i64 h) := by
              rw [hb2.cell (p := ⟨w.heap.size, 0, none⟩) (by simp; omega), (gal wv _).cell (p := ⟨w.heap.size, 0, none⟩) hz1, p0]
            have r2 : wr.cell? ⟨wv.heap.size, 2, none⟩ = some (.slice lo legs.length lcap) := by rw [hb2.cell (p := ⟨wv.heap.size, 2, none⟩) (by simp)]; simp
            have hLw : LgAt wr lo legs := (hL2.out _).below (by simpa using hb2)
            by_cases hjl : j < legs.length
            · rcases hLw with h0 | ⟨b', off', rfl, hbr', hc'⟩
              · subst h0; simp at hjl
              obtain ⟨d0, d1, d2, d3⟩ := LgAt.get hjl hc'
              have HM : Hid (∀ o, Below wo.heap.size wo (wr.alloc o) ∧ Below (wv.heap.size + 1) (wv.alloc (.cells #[.int .i64 A, .int .i64 B, .slice (some ⟨b', off', none⟩) legs.length lcap] 52)) (wr.alloc o)) := fun o =>
                ⟨HN.out _ _ (hb2.alloc (by omega) o), hb2.alloc (by omega) o⟩
              have HBad := hideg (fun hf => HE1.out 1 (by decide) (HG.out.trans (lg_bad hjl HI2.out hf)))
              clear p0 p1 p2 q0 hb hb2
              by_cases k1 : legs[j].1 < 0
              · have HX := hideg (HBad.out (fitB_no (.inl k1)))
                clear hc'
                go_wp2
                go_ret
                exact ⟨ret_int (by rw [HC.out]; exact HX.out.symm), ptg HBW.out (HM.out _).1⟩
              by_cases k2 : legs[j].2.1 ≤ legs[j].1
              · have HX := hideg (HBad.out (fitB_no (.inr (.inl k2))))
                clear hc'
                go_wp2
                go_ret
                exact ⟨ret_int (by rw [HC.out]; exact HX.out.symm), ptg HBW.out (HM.out _).1⟩
              by_cases k3 : h < legs[j].2.1
              · have HX := hideg (HBad.out (fitB_no (.inr (.inr (.inl k3)))))
                clear hc'
                go_wp2
                go_ret
                exact ⟨ret_int (by rw [HC.out]; exact HX.out.symm), ptg HBW.out (HM.out _).1⟩
              cases k4 : inR legs[j].2.2.1 1 50
              · have HX := hideg (HBad.out (fitB_no (.inr (.inr (.inr (.inl k4))))))
                clear hc'
                go_wp2_with (go_at_call 9; refine (In_any _ _ _ _).mono ?_; rintro e w' ⟨rfl, rfl⟩)
                go_ret
                exact ⟨ret_int (by rw [HC.out]; exact HX.out.symm), ptg HBW.out (HM.out _).1⟩
              cases k5 : inR legs[j].2.2.2 0 1000
              · have HX := hideg (HBad.out (fitB_no (.inr (.inr (.inr (.inr k5))))))
                clear hc'
                go_wp2_with (go_at_call 9; refine (In_any _ _ _ _).mono ?_; rintro e w' ⟨rfl, rfl⟩)
                go_ret
                exact ⟨ret_int (by rw [HC.out]; exact HX.out.symm), ptg HBW.out (HM.out _).1⟩
              have hf := fitB_yes k1 k2 k3 k4 k5
              by_cases hj0 : j = 0
              · subst hj0
                simp only [Nat.zero_mul, Nat.add_zero] at d0 d1 d2 d3
                have HX := hideg (lg_next hjl HI2.out hf (by simp only [prevTo]; omega))
                clear hc' hf
                go_wp2_with (go_at_call 9; refine (In_any _ _ _ _).mono ?_; rintro e w' ⟨rfl, rfl⟩)
                go_quiet (fail)
                go_wp2
                go_roundw
                case rel => exact ⟨0 + 1, by omega, by go_num, HX.out, below_drewN (HM.out _).2 _⟩
                case measure => simp [intOf]; omega
              · obtain ⟨m, rfl⟩ : ∃ m, j = m + 1 := ⟨j - 1, by omega⟩
                have hm : m < legs.length := by omega
                have cp := (LgAt.get hm hc').2.1
                have HP := hideg (prevTo_succ hm)
                by_cases g : legs[m + 1].1 < legs[m].2.1
                · have HX := hideg (HE1.out 5 (by decide) (HG.out.trans (lg_form hjl HI2.out hf (by rw [HP.out]; exact g))))
                  clear hc' hf
                  go_wp2_with (go_at_call 9; refine (In_any _ _ _ _).mono ?_; rintro e w' ⟨rfl, rfl⟩)
                  go_quiet (fail)
                  go_wp2
                  go_ret
                  exact ⟨ret_int (by rw [HC.out]; exact HX.out.symm), ptg HBW.out (below_drewN (HM.out _).1 _)⟩
                · have HX := hideg (lg_next hjl HI2.out hf (by rw [HP.out]; exact g))
                  have dg : decide (legs[m + 1].1 < legs[m].2.1) = false := by simpa using g
                  clear hc' hf
                  go_wp2_with (go_at_call 9; refine (In_any _ _ _ _).mono ?_; rintro e w' ⟨rfl, rfl⟩)
                  go_quiet (fail)
                  go_wp2
                  go_roundw
                  case rel => exact ⟨m + 1 + 1, by omega, by go_num, HX.out, below_drewN (HM.out _).2 _⟩
                  case measure => simp [intOf]; omega
            · have hjj : j = legs.length := by omega
              subst hjj
              have HX := hideg (HE0.out (HG.out.trans (lg_end HI2.out)))
              have hfin := HN.out _ _ hb2
              go_wp2
              go_roundw
              case rel => exact ⟨k + 1, by omega, by go_num, HX.out, hfin⟩
              case measure => simp [intOf]; omega
        · have hkl : k = edges.length := by omega
          subst hkl
          have HC2 := hideg (eds_end HI.out)
          go_wp2
          go_ret
          exact ⟨ret_int (by rw [HC.out]; exact HC2.out.symm), ptg HBW.out hb⟩

end Go.Proofs.YtjjhhmlogddnkaaDoor
