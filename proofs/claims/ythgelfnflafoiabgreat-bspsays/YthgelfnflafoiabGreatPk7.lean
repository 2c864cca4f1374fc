/-
  Several texts in one.
-/
import Derived.OwnWalk
import Derived.OrdersHeld
import Derived.Deep.RegionHeld
import Derived.Test.YthgelfnflafoiabGreatPk6
namespace Go.Proofs.YthgelfnflafoiabGreat.Q
open Sim (Seq.prog)
open Go.RowKit
theorem edChk_none {h n : Int} {e : Ed} (k : (inR e.1 0 (n - 1) && inR e.2.1 0 (n - 1)) = false) : edChk h n e = 4 := by unfold edChk; rw [if_pos k]
theorem edChk_large {h n : Int} {e : Ed} (k : (inR e.1 0 (n - 1) && inR e.2.1 0 (n - 1)) = true) (l : 6 < e.2.2.length) : edChk h n e = 2 := by unfold edChk; rw [if_neg (by simp [k]), if_pos l]
theorem edChk_legs {h n : Int} {e : Ed} (k : (inR e.1 0 (n - 1) && inR e.2.1 0 (n - 1)) = true) (l : ¬ 6 < e.2.2.length) : edChk h n e = lgChk h 0 e.2.2 := by unfold edChk; rw [if_neg (by simp [k]), if_neg l]
set_option maxRecDepth 100000 in
set_option maxHeartbeats 4000000 in
theorem checkEdge_any (h : Int) (la ea : Option Addr) (nl lc ne ec : Nat) (e : Ed) (lo : Option Addr) (lcap : Nat) (w : World) (hL : LgAt w lo e.2.2) (hnl : nl <= 12) :
   Calls Seq.prog 45 #[.agg #[.int .i64 h, .slice la nl lc, .slice ea ne ec], .agg #[.int .i64 e.1, .int .i64 e.2.1, .slice lo e.2.2.length lcap]] w fun r w' => r = .returned (.int .i64 (edChk h nl e)) /\ Below w.heap.size w w' := by
 obtain ⟨A, B, legs⟩ := e
 simp only at hL ⊢
 have HB : Hid (∀ o o', Below w.heap.size w ((w.alloc o).alloc o')) := fun o o' => ptg (gal w o) (gal _ o')
 obtain ⟨W2, hW2⟩ : ∃ x, x = (w.alloc (.cells #[.int .i64 h, .slice la nl lc, .slice ea ne ec] 25)).alloc (.cells #[.int .i64 A, .int .i64 B, .slice lo legs.length lcap] 66) := ⟨_, rfl⟩
 have HQ2 : Hid (∀ W, Below (w.heap.size + 2) W2 W -> W.cell? ⟨w.heap.size, 0, none⟩ = some (.int .i64 h) /\ W.cell? ⟨w.heap.size, 1, none⟩ = some (.slice la nl lc) /\ W.cell? ⟨w.heap.size, 2, none⟩ = some (.slice ea ne ec) /\ W.cell? ⟨w.heap.size + 1, 0, none⟩ = some (.int .i64 A) /\ W.cell? ⟨w.heap.size + 1, 1, none⟩ = some (.int .i64 B) /\ W.cell? ⟨w.heap.size + 1, 2, none⟩ = some (.slice lo legs.length lcap)) := by
   intro W hb
   refine ⟨?_, ?_, ?_, ?_, ?_, ?_⟩
   · rw [hb.cell (p := ⟨w.heap.size, 0, none⟩) (by simp), hW2]; simp
   · rw [hb.cell (p := ⟨w.heap.size, 1, none⟩) (by simp), hW2]; simp
   · rw [hb.cell (p := ⟨w.heap.size, 2, none⟩) (by simp), hW2]; simp
   · rw [hb.cell (p := ⟨w.heap.size + 1, 0, none⟩) (by simp), hW2]; simp
   · rw [hb.cell (p := ⟨w.heap.size + 1, 1, none⟩) (by simp), hW2]; simp
   · rw [hb.cell (p := ⟨w.heap.size + 1, 2, none⟩) (by simp), hW2]; simp
 have hs2 : W2.heap.size = w.heap.size + 2 := by rw [hW2]; simp
 have HW : Hid (∀ W, Below (w.heap.size + 2) W2 W -> Below w.heap.size w W) := fun W hb => by rw [hW2] at hb; exact (HB.out _ _).trans (hb.mono (by omega))
 have hvA := fun W => gHasV_any h la ea nl lc ne ec A W hnl
 have hvB := fun W => gHasV_any h la ea nl lc ne ec B W hnl
 have HS2 := hideg hs2
 have hW2s := hW2.symm
 clear hs2 hW2
 cases e1 : inR A 0 ((nl : Int) - 1)
 · have HC := hideg (edChk_none (h := h) (n := nl) (e := (A, B, legs)) (by simp [e1]))
   rw [e1] at hvA
   have Q := HQ2.out W2 (Below.refl _ _)
   obtain ⟨q0, q1, q2, q3, q4, q5⟩ := Q
   clear hL hvB e1
   go_enter Seq.func45, Tryz.ntmps45
   go_wp2_with fail
   refine (hvA _).mono ?_
   rintro e w3 ⟨rfl, hb3⟩
   have hbF := HW.out w3 (by rw [HS2.out] at hb3; exact hb3)
   clear hvA hb3 hW2s q0 q1 q2 q3 q4 q5
   go_wp2
   go_ret
   exact ⟨ret_int HC.out.symm, hbF⟩
 cases e2 : inR B 0 ((nl : Int) - 1)
 · have HC := hideg (edChk_none (h := h) (n := nl) (e := (A, B, legs)) (by simp [e2]))
   rw [e1] at hvA
   rw [e2] at hvB
   obtain ⟨q0, q1, q2, q3, q4, q5⟩ := HQ2.out W2 (Below.refl _ _)
   clear hL e1 e2
   go_enter Seq.func45, Tryz.ntmps45
   go_wp2_with fail
   refine (hvA _).mono ?_
   rintro e w3 ⟨rfl, hb3⟩
   rw [HS2.out] at hb3
   have HB3 := hideg hb3
   clear hvA hb3 hW2s q0 q1 q2 q3 q4 q5
   obtain ⟨q0, q1, q2, q3, q4, q5⟩ := HQ2.out w3 HB3.out
   go_wp2_with fail
   refine (hvB _).mono ?_
   rintro e w4 ⟨rfl, hb4⟩
   have hbF := HW.out w4 (HB3.out.trans (hb4.mono (by have := HB3.out.size; have := HS2.out; omega)))
   clear hvB hb4 q0 q1 q2 q3 q4 q5
   go_wp2
   go_ret
   exact ⟨ret_int HC.out.symm, hbF⟩
 rw [e1] at hvA
 rw [e2] at hvB
 by_cases h6 : 6 < legs.length
 · have HC := hideg (edChk_large (h := h) (n := nl) (e := (A, B, legs)) (by simp [e1, e2]) h6)
   obtain ⟨q0, q1, q2, q3, q4, q5⟩ := HQ2.out W2 (Below.refl _ _)
   clear hL e1 e2
   go_enter Seq.func45, Tryz.ntmps45
   go_wp2_with fail
   refine (hvA _).mono ?_
   rintro e w3 ⟨rfl, hb3⟩
   rw [HS2.out] at hb3
   have HB3 := hideg hb3
   clear hvA hb3 hW2s q0 q1 q2 q3 q4 q5
   obtain ⟨q0, q1, q2, q3, q4, q5⟩ := HQ2.out w3 HB3.out
   go_wp2_with fail
   refine (hvB _).mono ?_
   rintro e w4 ⟨rfl, hb4⟩
   have HB4 := hideg (HB3.out.trans (hb4.mono (by have := HB3.out.size; have := HS2.out; omega)))
   have hbF := HW.out w4 HB4.out
   clear hvB hb4 q0 q1 q2 q3 q4 q5
   obtain ⟨q0, q1, q2, q3, q4, q5⟩ := HQ2.out w4 HB4.out
   go_wp2
   go_ret
   exact ⟨ret_int HC.out.symm, hbF⟩
 have HC := hideg (edChk_legs (h := h) (n := nl) (e := (A, B, legs)) (by simp [e1, e2]) h6)
 have h6' : legs.length <= 6 := by omega
 obtain ⟨q0, q1, q2, q3, q4, q5⟩ := HQ2.out W2 (Below.refl _ _)
 clear e1 e2
 go_enter Seq.func45, Tryz.ntmps45
 go_wp2_with fail
 refine (hvA _).mono ?_
 rintro e w3 ⟨rfl, hb3⟩
 rw [HS2.out] at hb3
 have HB3 := hideg hb3
 clear hvA hb3 hW2s q0 q1 q2 q3 q4 q5
 obtain ⟨q0, q1, q2, q3, q4, q5⟩ := HQ2.out w3 HB3.out
 go_wp2_with fail
 refine (hvB _).mono ?_
 rintro e w4 ⟨rfl, hb4⟩
 have HB4 := hideg (HB3.out.trans (hb4.mono (by have := HB3.out.size; have := HS2.out; omega)))
 clear hvB hb4 q0 q1 q2 q3 q4 q5
 obtain ⟨q0, q1, q2, q3, q4, q5⟩ := HQ2.out w4 HB4.out
 go_wp2_with fail
 go_loopw [6, 26] (fun _ i wr => ∃ k : Nat, k <= legs.length /\ i = .int .i64 k /\ lgChk h 0 legs = lgChk h (prevTo legs k) (legs.drop k) /\ Below (w.heap.size + 2) W2 wr) (fun _ i _ => legs.length - (intOf i).toNat)
 case atStart => exact ⟨0, Nat.zero_le _, rfl, rfl, HB4.out⟩
 case round =>
   obtain ⟨k, hk, rfl, hI, hb⟩ := hrel
   have HI := hideg hI
   clear hI
   have hbw : Below w.heap.size w wr := HW.out wr hb
   clear q0 q1 q2 q3 q4 q5
   by_cases hlt : k < legs.length
   · have hz := hb.size
     rw [HS2.out] at hz
     have hz0 : w.heap.size < wr.heap.size := by omega
     have hz1 : w.heap.size + 1 < wr.heap.size := by omega
     rcases hL.below hbw with h0 | ⟨b, off, rfl, hbr, hc⟩
     · subst h0; simp at hlt
     obtain ⟨c0, c1, c2, c3⟩ := LgAt.get hlt hc
     have q0 : wr.cell? ⟨w.heap.size, 0, none⟩ = some (.int .i64 h) := (HQ2.out wr hb).1
     have HN : Hid (∀ o w1, Below (wr.alloc o).heap.size (wr.alloc o) w1 -> Below w.heap.size w w1 /\ Below (w.heap.size + 2) W2 w1) := by
       intro o w1 h1
       have := ptg (gal wr o) h1
       exact ⟨hbw.trans (this.mono hbw.size), hb.trans (this.mono (by omega))⟩
     cases ef : fitB legs[k] h
     · have HR := hideg (lg_bad hlt HI.out ef)
       clear hc hL
       go_wp2_with (go_at_call 78; refine (fits_any legs[k] _ _).mono ?_; rintro e w1 ⟨rfl, hb1⟩)
       go_ret
       exact ⟨ret_int (by rw [HC.out, HR.out]), (HN.out _ _ hb1).1⟩
     · have hf := (fitB_iff legs[k] h).1 ef
       by_cases hk0 : k = 0
       · subst hk0
         simp only [Nat.zero_mul, Nat.add_zero] at c0 c1 c2 c3
         have HR := hideg (lg_next hlt HI.out ef (by simp only [prevTo]; omega))
         clear hc hL hf
         go_wp2_with (go_at_call 78; refine (fits_any legs[0] _ _).mono ?_; rintro e w1 ⟨rfl, hb1⟩)
         go_quiet (fail)
         go_wp2
         go_roundw
         case rel => exact ⟨0 + 1, by omega, by go_num, HR.out, below_drewN (HN.out _ _ hb1).2 _⟩
         case measure => simp [intOf]; omega
       · obtain ⟨m, rfl⟩ : ∃ m, k = m + 1 := ⟨k - 1, by omega⟩
         have hm : m < legs.length := by omega
         have cp := (LgAt.get hm hc).2.1
         have HP := hideg (prevTo_succ hm)
         have q2 : wr.cell? ⟨w.heap.size + 1, 2, none⟩ = some (.slice (some ⟨b, off, none⟩) legs.length lcap) := (HQ2.out wr hb).2.2.2.2.2
         have HQ : Hid (∀ o w1, Below (wr.alloc o).heap.size (wr.alloc o) w1 -> w1.cell? ⟨w.heap.size + 1, 2, none⟩ = some (.slice (some ⟨b, off, none⟩) legs.length lcap) /\ w1.cell? ⟨b, off + m * 4 + 1, none⟩ = some (.int .i64 legs[m].2.1)) := by
           intro o w1 h1
           have := ptg (gal wr o) h1
           exact ⟨by rw [this.cell (p := ⟨w.heap.size + 1, 2, none⟩) (by simp; omega), q2], by rw [this.cell (p := ⟨b, off + m * 4 + 1, none⟩) hbr, cp]⟩
         by_cases g : legs[m + 1].1 < legs[m].2.1
         · have HR := hideg (lg_form hlt HI.out ef (by rw [HP.out]; exact g))
           clear hc hL hf q2 cp
           go_wp2_with (go_at_call 78; refine (fits_any legs[m + 1] _ _).mono ?_; rintro e w1 ⟨rfl, hb1⟩)
           have hb2 := hideg hb1
           obtain ⟨d2, dp⟩ := HQ.out _ _ hb2.out
           have d0 : w1.cell? ⟨wr.heap.size, 0, none⟩ = some (.int .i64 legs[m + 1].1) := by rw [hb2.out.cell (p := ⟨wr.heap.size, 0, none⟩) (by simp)]; simp
           go_quiet (fail)
           go_wp2
           go_ret
           exact ⟨ret_int (by rw [HC.out, HR.out]), below_drewN (HN.out _ _ hb2.out).1 _⟩
         · have HR := hideg (lg_next hlt HI.out ef (by rw [HP.out]; exact g))
           have dg : decide (legs[m + 1].1 < legs[m].2.1) = false := by simpa using g
           clear hc hL hf q2 cp
           go_wp2_with (go_at_call 78; refine (fits_any legs[m + 1] _ _).mono ?_; rintro e w1 ⟨rfl, hb1⟩)
           have hb2 := hideg hb1
           obtain ⟨d2, dp⟩ := HQ.out _ _ hb2.out
           have d0 : w1.cell? ⟨wr.heap.size, 0, none⟩ = some (.int .i64 legs[m + 1].1) := by rw [hb2.out.cell (p := ⟨wr.heap.size, 0, none⟩) (by simp)]; simp
           go_quiet (fail)
           go_wp2
           go_roundw
           case rel => exact ⟨m + 1 + 1, by omega, by go_num, HR.out, below_drewN (HN.out _ _ hb2.out).2 _⟩
           case measure => simp [intOf]; omega
   · have hkl : k = legs.length := by omega
     subst hkl
     have HR := hideg (lg_end HI.out)
     go_wp2
     go_ret
     exact ⟨ret_int (by rw [HC.out, HR.out]), hbw⟩
theorem fitB_no {l : Lg} {h : Int} (k : l.1 < 0 \/ l.2.1 <= l.1 \/ h < l.2.1 \/ inR l.2.2.1 1 50 = false \/ inR l.2.2.2 0 1000 = false) : fitB l h = false := by
 rw [<- Bool.not_eq_true, fitB_iff]
 rintro ⟨h1, h2, h3⟩
 rcases k with k | k | k | k | k
 · omega
 · omega
 · omega
 · rw [(inR_iff _ _ _).2 h2] at k; simp at k
 · rw [(inR_iff _ _ _).2 h3] at k; simp at k
theorem fitB_yes {l : Lg} {h : Int} (k1 : ¬ l.1 < 0) (k2 : ¬ l.2.1 <= l.1) (k3 : ¬ h < l.2.1) (k4 : inR l.2.2.1 1 50 = true) (k5 : inR l.2.2.2 0 1000 = true) : fitB l h = true :=
 (fitB_iff l h).2 ⟨⟨by omega, by omega, by omega⟩, (inR_iff _ _ _).1 k4, (inR_iff _ _ _).1 k5⟩
set_option maxRecDepth 100000 in
set_option maxHeartbeats 8000000 in
theorem RGraph_any (g : Gr) (la ea : Option Addr) (lc ec : Nat) (w : World) (hG : GAt w la ea g) :
   Calls Seq.prog 13 #[.agg #[.int .i64 g.hor, .slice la g.lives.length lc, .slice ea g.edges.length ec]] w fun r w' => r = .returned (.int .i64 (gChk g)) /\ Below w.heap.size w w' := by
 obtain ⟨h, lives, edges⟩ := g
 have HB := hideg (gal w)
 cases e1 : inR h 1 100
 · have HC := hideg (gChk_hor (g := ⟨h, lives, edges⟩) e1)
   clear hG
   go_enter Seq.func13, Tryz.ntmps13
   go_wp2_with (go_at_call 12; refine (In_any _ _ _ _).mono ?_; rintro e w' ⟨rfl, rfl⟩)
   go_ret
   exact ⟨ret_int HC.out.symm, HB.out _⟩
 by_cases n1 : 12 < lives.length
 · have HC := hideg (gChk_large (g := ⟨h, lives, edges⟩) e1 (.inl n1))
   clear hG
   go_enter Seq.func13, Tryz.ntmps13
   go_wp2_with (go_at_call 12; refine (In_any _ _ _ _).mono ?_; rintro e w' ⟨rfl, rfl⟩)
   go_ret
   exact ⟨ret_int HC.out.symm, HB.out _⟩
 by_cases n2 : 30 < edges.length
 · have HC := hideg (gChk_large (g := ⟨h, lives, edges⟩) e1 (.inr n2))
   clear hG
   go_enter Seq.func13, Tryz.ntmps13
   go_wp2_with (go_at_call 12; refine (In_any _ _ _ _).mono ?_; rintro e w' ⟨rfl, rfl⟩)
   go_ret
   exact ⟨ret_int HC.out.symm, HB.out _⟩
 have HL := hideg (fun k => gChk_life (g := ⟨h, lives, edges⟩) e1 (by simp only; omega) k)
 have HR := hideg (fun k => gChk_rest (g := ⟨h, lives, edges⟩) e1 (by simp only; omega) k)
 have hlv : IvAt w la lives := hG.lv
 have hed : EdAt w ea edges := hG.ed
 clear hG
 go_enter Seq.func13, Tryz.ntmps13
 go_wp2_with (go_at_call 12; refine (In_any _ _ _ _).mono ?_; rintro e w' ⟨rfl, rfl⟩)
 go_loopw [3] (fun i wr => ∃ k : Nat, k <= lives.length /\ i = .int .i64 k /\ lvChk h lives = lvChk h (lives.drop k) /\ Below (w.heap.size + 1) (w.alloc (.cells #[.int .i64 h, .slice la lives.length lc, .slice ea edges.length ec] 25)) wr) (fun i _ => lives.length - (intOf i).toNat)
 case atStart => exact ⟨0, Nat.zero_le _, rfl, rfl, Below.refl _ _⟩
 case round =>
   obtain ⟨k, hk, rfl, hI, hb⟩ := hrel
   have HI := hideg hI
   clear hI
   have hbw : Below w.heap.size w wr := (HB.out _).trans (hb.mono (by omega))
   have hz := hb.size
   simp only [World.size_alloc] at hz
   have hz0 : w.heap.size < wr.heap.size := by omega
   have q0 : wr.cell? ⟨w.heap.size, 0, none⟩ = some (.int .i64 h) := by rw [hb.cell (p := ⟨w.heap.size, 0, none⟩) (by simp)]; simp
   have q1 : wr.cell? ⟨w.heap.size, 1, none⟩ = some (.slice la lives.length lc) := by rw [hb.cell (p := ⟨w.heap.size, 1, none⟩) (by simp)]; simp
   have q2 : wr.cell? ⟨w.heap.size, 2, none⟩ = some (.slice ea edges.length ec) := by rw [hb.cell (p := ⟨w.heap.size, 2, none⟩) (by simp)]; simp
   by_cases hlt : k < lives.length
   · rcases hlv.below hbw with h0 | ⟨b, off, rfl, hbr, hc⟩
     · subst h0; simp at hlt
     obtain ⟨c0, c1⟩ := IvAt.get hlt hc
     have HN := hideg (fun o => (⟨hbw.alloc hbw.size o, hb.alloc (by omega) o⟩ : Below w.heap.size w (wr.alloc o) /\ Below (w.heap.size + 1) (w.alloc (.cells #[.int .i64 h, .slice (some ⟨b, off, none⟩) lives.length lc, .slice ea edges.length ec] 25)) (wr.alloc o)))
     clear hc hlv hed q2
     by_cases g1 : lives[k].1 < 0
     · have HC := hideg (lv_stop hlt HI.out (spanB_no (by omega)))
       go_wp2
       go_ret
       exact ⟨ret_int (HL.out HC.out).symm, (HN.out _).1⟩
     by_cases g2 : lives[k].2 <= lives[k].1
     · have HC := hideg (lv_stop hlt HI.out (spanB_no (by omega)))
       go_wp2
       go_ret
       exact ⟨ret_int (HL.out HC.out).symm, (HN.out _).1⟩
     by_cases g3 : h < lives[k].2
     · have HC := hideg (lv_stop hlt HI.out (spanB_no (by omega)))
       go_wp2
       go_ret
       exact ⟨ret_int (HL.out HC.out).symm, (HN.out _).1⟩
     have HC := hideg (lv_next hlt HI.out ((spanB_iff _ _ _).2 (by omega)))
     go_wp2
     go_roundw
     case rel => exact ⟨k + 1, by omega, by go_num, HC.out, (HN.out _).2⟩
     case measure => simp [intOf]; omega
   · have hkl : k = lives.length := by omega
     subst hkl
     have HC := hideg (HR.out (lv_end HI.out))
     have hed2 := hed.below hbw
     have HBW := hideg hbw
     clear hlv hed hbw hb HL HR
     obtain ⟨wo, hwo⟩ : ∃ wo, wo = wr := ⟨_, rfl⟩
     subst hwo
     go_wp2
     go_loopw [5] (fun i wr => ∃ k : Nat, k <= edges.length /\ i = .int .i64 k /\ edsChk h lives.length edges = edsChk h lives.length (edges.drop k) /\ Below wo.heap.size wo wr) (fun i _ => edges.length - (intOf i).toNat)
     case atStart => exact ⟨0, Nat.zero_le _, rfl, rfl, Below.refl _ _⟩
     case round =>
       obtain ⟨k, hk, rfl, hI, hb⟩ := hrel
       have HI := hideg hI
       clear hI
       have hz := hb.size
       have hz1 : w.heap.size < wr.heap.size := by omega
       have p0 : wr.cell? ⟨w.heap.size, 0, none⟩ = some (.int .i64 h) := by rw [hb.cell (p := ⟨w.heap.size, 0, none⟩) hz0, q0]
       have p1 : wr.cell? ⟨w.heap.size, 1, none⟩ = some (.slice la lives.length lc) := by rw [hb.cell (p := ⟨w.heap.size, 1, none⟩) hz0, q1]
       have p2 : wr.cell? ⟨w.heap.size, 2, none⟩ = some (.slice ea edges.length ec) := by rw [hb.cell (p := ⟨w.heap.size, 2, none⟩) hz0, q2]
       clear q1 q2
       by_cases hlt : k < edges.length
       · rcases hed2.below hb with h0 | ⟨b, off, rfl, hbr, hc⟩
         · subst h0; simp at hlt
         obtain ⟨c0, c1, lo, lcap, c2, hL, _, _⟩ := hc k hlt
         have HN : Hid (∀ o w1, Below (wr.heap.size + 1) (wr.alloc o) w1 -> Below wo.heap.size wo w1) := by
           intro o w1 h1
           exact ptg hb ((gal wr o).trans (h1.mono (by omega)))
         have hL2 := hideg (fun o => hL.below (gal wr o))
         clear hc hed2 hL
         have HE0 := hideg (fun (e0 : edChk h lives.length edges[k] = 0) => eds_next hlt HI.out e0)
         have HE1 := hideg (fun (x : Int) (hx : x ≠ 0) (e0 : edChk h lives.length edges[k] = x) => (eds_stop hlt HI.out (by rw [e0]; exact hx)).trans e0)
         generalize edges[k] = ed at *
         obtain ⟨A, B, legs⟩ := ed
         simp only at c0 c1 c2 hL2
         cases f1 : inR A 0 ((lives.length : Int) - 1)
         · have HX := hideg (HE1.out 4 (by decide) (edChk_none (by simp [f1])))
           go_wp2_with (go_at_call 12; refine (In_any _ _ _ _).mono ?_; rintro e w' ⟨rfl, rfl⟩)
           go_ret
           exact ⟨ret_int (by rw [HC.out]; exact HX.out.symm), ptg HBW.out (HN.out _ _ (Below.refl _ _))⟩
         cases f2 : inR B 0 ((lives.length : Int) - 1)
         · have HX := hideg (HE1.out 4 (by decide) (edChk_none (by simp [f2])))
           go_wp2_with (go_at_call 12; refine (In_any _ _ _ _).mono ?_; rintro e w' ⟨rfl, rfl⟩)
           go_ret
           exact ⟨ret_int (by rw [HC.out]; exact HX.out.symm), ptg HBW.out (HN.out _ _ (Below.refl _ _))⟩
         by_cases h6 : 6 < legs.length
         · have HX := hideg (HE1.out 2 (by decide) (edChk_large (by simp [f1, f2]) h6))
           go_wp2_with (go_at_call 12; refine (In_any _ _ _ _).mono ?_; rintro e w' ⟨rfl, rfl⟩)
           go_ret
           exact ⟨ret_int (by rw [HC.out]; exact HX.out.symm), ptg HBW.out (HN.out _ _ (Below.refl _ _))⟩
         have h6' : legs.length <= 6 := by omega
         have HG := hideg (edChk_legs (h := h) (n := lives.length) (e := (A, B, legs)) (by simp [f1, f2]) h6)
         obtain ⟨wv, hwv⟩ : ∃ wv, wv = wr := ⟨_, rfl⟩
         subst hwv
         go_wp2_with (go_at_call 12; refine (In_any _ _ _ _).mono ?_; rintro e w' ⟨rfl, rfl⟩)
         go_loopw [7] (fun i wr => ∃ j : Nat, j <= legs.length /\ i = .int .i64 j /\ lgChk h 0 legs = lgChk h (prevTo legs j) (legs.drop j) /\ Below (wv.heap.size + 1) (wv.alloc (.cells #[.int .i64 A, .int .i64 B, .slice lo legs.length lcap] 66)) wr) (fun i _ => legs.length - (intOf i).toNat)
         case atStart => exact ⟨0, Nat.zero_le _, rfl, rfl, Below.refl _ _⟩
         case round =>
           obtain ⟨j, hj, rfl, hI2, hb2⟩ := hrel
           have HI2 := hideg hI2
           clear hI2
           have hy := hb2.size
           simp only [World.size_alloc] at hy
           have hy0 : wv.heap.size < wr.heap.size := by omega
           have hy1 : w.heap.size < wr.heap.size := by omega
           have r0 : wr.cell? ⟨w.heap.size, 0, none⟩ = some (.int .i64 h) := by
             rw [hb2.cell (p := ⟨w.heap.size, 0, none⟩) (by simp; omega), (gal wv _).cell (p := ⟨w.heap.size, 0, none⟩) hz1, p0]
           have r2 : wr.cell? ⟨wv.heap.size, 2, none⟩ = some (.slice lo legs.length lcap) := by rw [hb2.cell (p := ⟨wv.heap.size, 2, none⟩) (by simp)]; simp
           have hLw : LgAt wr lo legs := (hL2.out _).below (by simpa using hb2)
           by_cases hjl : j < legs.length
           · rcases hLw with h0 | ⟨b', off', rfl, hbr', hc'⟩
             · subst h0; simp at hjl
             obtain ⟨d0, d1, d2, d3⟩ := LgAt.get hjl hc'
             have HM : Hid (∀ o, Below wo.heap.size wo (wr.alloc o) /\ Below (wv.heap.size + 1) (wv.alloc (.cells #[.int .i64 A, .int .i64 B, .slice (some ⟨b', off', none⟩) legs.length lcap] 66)) (wr.alloc o)) := fun o =>
               ⟨HN.out _ _ (hb2.alloc (by omega) o), hb2.alloc (by omega) o⟩
             have HBad := hideg (fun hf => HE1.out 1 (by decide) (HG.out.trans (lg_bad hjl HI2.out hf)))
             clear p0 p1 p2 q0 hb hb2
             by_cases k1 : legs[j].1 < 0
             · have HX := hideg (HBad.out (fitB_no (.inl k1)))
               clear hc'
               go_wp2
               go_ret
               exact ⟨ret_int (by rw [HC.out]; exact HX.out.symm), ptg HBW.out (HM.out _).1⟩
             by_cases k2 : legs[j].2.1 <= legs[j].1
             · have HX := hideg (HBad.out (fitB_no (.inr (.inl k2))))
               clear hc'
               go_wp2
               go_ret
               exact ⟨ret_int (by rw [HC.out]; exact HX.out.symm), ptg HBW.out (HM.out _).1⟩
             by_cases k3 : h < legs[j].2.1
             · have HX := hideg (HBad.out (fitB_no (.inr (.inr (.inl k3)))))
               clear hc'
               go_wp2
               go_ret
               exact ⟨ret_int (by rw [HC.out]; exact HX.out.symm), ptg HBW.out (HM.out _).1⟩
             cases k4 : inR legs[j].2.2.1 1 50
             · have HX := hideg (HBad.out (fitB_no (.inr (.inr (.inr (.inl k4))))))
               clear hc'
               go_wp2_with (go_at_call 12; refine (In_any _ _ _ _).mono ?_; rintro e w' ⟨rfl, rfl⟩)
               go_ret
               exact ⟨ret_int (by rw [HC.out]; exact HX.out.symm), ptg HBW.out (HM.out _).1⟩
             cases k5 : inR legs[j].2.2.2 0 1000
             · have HX := hideg (HBad.out (fitB_no (.inr (.inr (.inr (.inr k5))))))
               clear hc'
               go_wp2_with (go_at_call 12; refine (In_any _ _ _ _).mono ?_; rintro e w' ⟨rfl, rfl⟩)
               go_ret
               exact ⟨ret_int (by rw [HC.out]; exact HX.out.symm), ptg HBW.out (HM.out _).1⟩
             have hf := fitB_yes k1 k2 k3 k4 k5
             by_cases hj0 : j = 0
             · subst hj0
               simp only [Nat.zero_mul, Nat.add_zero] at d0 d1 d2 d3
               have HX := hideg (lg_next hjl HI2.out hf (by simp only [prevTo]; omega))
               clear hc' hf
               go_wp2_with (go_at_call 12; refine (In_any _ _ _ _).mono ?_; rintro e w' ⟨rfl, rfl⟩)
               go_quiet (fail)
               go_wp2
               go_roundw
               case rel => exact ⟨0 + 1, by omega, by go_num, HX.out, below_drewN (HM.out _).2 _⟩
               case measure => simp [intOf]; omega
             · obtain ⟨m, rfl⟩ : ∃ m, j = m + 1 := ⟨j - 1, by omega⟩
               have hm : m < legs.length := by omega
               have cp := (LgAt.get hm hc').2.1
               have HP := hideg (prevTo_succ hm)
               by_cases g : legs[m + 1].1 < legs[m].2.1
               · have HX := hideg (HE1.out 5 (by decide) (HG.out.trans (lg_form hjl HI2.out hf (by rw [HP.out]; exact g))))
                 clear hc' hf
                 go_wp2_with (go_at_call 12; refine (In_any _ _ _ _).mono ?_; rintro e w' ⟨rfl, rfl⟩)
                 go_quiet (fail)
                 go_wp2
                 go_ret
                 exact ⟨ret_int (by rw [HC.out]; exact HX.out.symm), ptg HBW.out (below_drewN (HM.out _).1 _)⟩
               · have HX := hideg (lg_next hjl HI2.out hf (by rw [HP.out]; exact g))
                 have dg : decide (legs[m + 1].1 < legs[m].2.1) = false := by simpa using g
                 clear hc' hf
                 go_wp2_with (go_at_call 12; refine (In_any _ _ _ _).mono ?_; rintro e w' ⟨rfl, rfl⟩)
                 go_quiet (fail)
                 go_wp2
                 go_roundw
                 case rel => exact ⟨m + 1 + 1, by omega, by go_num, HX.out, below_drewN (HM.out _).2 _⟩
                 case measure => simp [intOf]; omega
           · have hjj : j = legs.length := by omega
             subst hjj
             have HX := hideg (HE0.out (HG.out.trans (lg_end HI2.out)))
             have hfin := HN.out _ _ hb2
             go_wp2
             go_roundw
             case rel => exact ⟨k + 1, by omega, by go_num, HX.out, hfin⟩
             case measure => simp [intOf]; omega
       · have hkl : k = edges.length := by omega
         subst hkl
         have HC2 := hideg (eds_end HI.out)
         go_wp2
         go_ret
         exact ⟨ret_int (by rw [HC.out]; exact HC2.out.symm), ptg HBW.out hb⟩
set_option maxRecDepth 100000 in
set_option maxHeartbeats 4000000 in
theorem gCheck_any (g : Gr) (la ea : Option Addr) (lc ec : Nat) (w : World) (hG : GAt w la ea g) :
   Calls Seq.prog 30 #[.agg #[.int .i64 g.hor, .slice la g.lives.length lc, .slice ea g.edges.length ec]] w fun r w' => r = .returned (.int .i64 (gChk g)) /\ Below w.heap.size w w' := by
 obtain ⟨h, lives, edges⟩ := g
 have HB := hideg (gal w)
 cases e1 : inR h 1 100
 · have HC := hideg (gChk_hor (g := ⟨h, lives, edges⟩) e1)
   clear hG
   go_enter Seq.func30, Tryz.ntmps30
   go_wp2_with (go_at_call 43; refine (within_any _ _ _ _).mono ?_; rintro e w' ⟨rfl, rfl⟩)
   go_ret
   exact ⟨ret_int HC.out.symm, HB.out _⟩
 by_cases n1 : 12 < lives.length
 · have HC := hideg (gChk_large (g := ⟨h, lives, edges⟩) e1 (.inl n1))
   clear hG
   go_enter Seq.func30, Tryz.ntmps30
   go_wp2_with (go_at_call 43; refine (within_any _ _ _ _).mono ?_; rintro e w' ⟨rfl, rfl⟩)
   go_ret
   exact ⟨ret_int HC.out.symm, HB.out _⟩
 by_cases n2 : 30 < edges.length
 · have HC := hideg (gChk_large (g := ⟨h, lives, edges⟩) e1 (.inr n2))
   clear hG
   go_enter Seq.func30, Tryz.ntmps30
   go_wp2_with (go_at_call 43; refine (within_any _ _ _ _).mono ?_; rintro e w' ⟨rfl, rfl⟩)
   go_ret
   exact ⟨ret_int HC.out.symm, HB.out _⟩
 have HL := hideg (fun k => gChk_life (g := ⟨h, lives, edges⟩) e1 (by simp only; omega) k)
 have HR := hideg (fun k => gChk_rest (g := ⟨h, lives, edges⟩) e1 (by simp only; omega) k)
 have hlv : IvAt w la lives := hG.lv
 have hed : EdAt w ea edges := hG.ed
 clear hG
 go_enter Seq.func30, Tryz.ntmps30
 go_wp2_with (go_at_call 43; refine (within_any _ _ _ _).mono ?_; rintro e w' ⟨rfl, rfl⟩)
 go_loopw [25] (fun i wr => ∃ k : Nat, k <= lives.length /\ i = .int .i64 k /\ lvChk h lives = lvChk h (lives.drop k) /\ Below (w.heap.size + 1) (w.alloc (.cells #[.int .i64 h, .slice la lives.length lc, .slice ea edges.length ec] 25)) wr) (fun i _ => lives.length - (intOf i).toNat)
 case atStart => exact ⟨0, Nat.zero_le _, rfl, rfl, Below.refl _ _⟩
 case round =>
   obtain ⟨k, hk, rfl, hI, hb⟩ := hrel
   have HI := hideg hI
   clear hI
   have hbw : Below w.heap.size w wr := (HB.out _).trans (hb.mono (by omega))
   have hz := hb.size
   simp only [World.size_alloc] at hz
   have hz0 : w.heap.size < wr.heap.size := by omega
   have q0 : wr.cell? ⟨w.heap.size, 0, none⟩ = some (.int .i64 h) := by rw [hb.cell (p := ⟨w.heap.size, 0, none⟩) (by simp)]; simp
   have q1 : wr.cell? ⟨w.heap.size, 1, none⟩ = some (.slice la lives.length lc) := by rw [hb.cell (p := ⟨w.heap.size, 1, none⟩) (by simp)]; simp
   have q2 : wr.cell? ⟨w.heap.size, 2, none⟩ = some (.slice ea edges.length ec) := by rw [hb.cell (p := ⟨w.heap.size, 2, none⟩) (by simp)]; simp
   by_cases hlt : k < lives.length
   · rcases hlv.below hbw with h0 | ⟨b, off, rfl, hbr, hc⟩
     · subst h0; simp at hlt
     obtain ⟨c0, c1⟩ := IvAt.get hlt hc
     have HN := hideg (fun o => (⟨hbw.alloc hbw.size o, hb.alloc (by omega) o⟩ : Below w.heap.size w (wr.alloc o) /\ Below (w.heap.size + 1) (w.alloc (.cells #[.int .i64 h, .slice (some ⟨b, off, none⟩) lives.length lc, .slice ea edges.length ec] 25)) (wr.alloc o)))
     clear hc hlv hed
     cases ef : spanB lives[k].1 lives[k].2 h
     · have HC := hideg (lv_stop hlt HI.out ef)
       go_wp2_with (go_at_call 44; refine (span_any _ _ _ _).mono ?_; rintro e w1 ⟨rfl, rfl⟩)
       go_ret
       exact ⟨ret_int (HL.out HC.out).symm, (HN.out _).1⟩
     · have HC := hideg (lv_next hlt HI.out ef)
       go_wp2_with (go_at_call 44; refine (span_any _ _ _ _).mono ?_; rintro e w1 ⟨rfl, rfl⟩)
       go_roundw
       case rel => exact ⟨k + 1, by omega, by go_num, HC.out, (HN.out _).2⟩
       case measure => simp [intOf]; omega
   · have hkl : k = lives.length := by omega
     subst hkl
     have HC := hideg (HR.out (lv_end HI.out))
     have hlv2 := hlv.below hbw
     have hed2 := hed.below hbw
     have HBW := hideg hbw
     clear hlv hed hbw hb HL HR
     obtain ⟨wo, hwo⟩ : ∃ wo, wo = wr := ⟨_, rfl⟩
     subst hwo
     go_wp2
     go_loopw [7, 41] (fun _ i wr => ∃ k : Nat, k <= edges.length /\ i = .int .i64 k /\ edsChk h lives.length edges = edsChk h lives.length (edges.drop k) /\ Below wo.heap.size wo wr) (fun _ i _ => edges.length - (intOf i).toNat)
     case atStart => exact ⟨0, Nat.zero_le _, rfl, rfl, Below.refl _ _⟩
     case round =>
       obtain ⟨k, hk, rfl, hI, hb⟩ := hrel
       have HI := hideg hI
       clear hI
       have hz := hb.size
       have hz1 : w.heap.size < wr.heap.size := by omega
       by_cases hlt : k < edges.length
       · rcases hed2.below hb with h0 | ⟨b, off, rfl, hbr, hc⟩
         · subst h0; simp at hlt
         obtain ⟨c0, c1, lo, lcap, c2, hL, _, _⟩ := hc k hlt
         have p0 : wr.cell? ⟨w.heap.size, 0, none⟩ = some (.int .i64 h) := by rw [hb.cell (p := ⟨w.heap.size, 0, none⟩) hz0, q0]
         have p2 : wr.cell? ⟨w.heap.size, 2, none⟩ = some (.slice (some ⟨b, off, none⟩) edges.length ec) := by rw [hb.cell (p := ⟨w.heap.size, 2, none⟩) hz0, q2]
         have p1 : wr.cell? ⟨w.heap.size, 1, none⟩ = some (.slice la lives.length lc) := by rw [hb.cell (p := ⟨w.heap.size, 1, none⟩) hz0, q1]
         have HN : Hid (∀ o w1, Below (wr.alloc o).heap.size (wr.alloc o) w1 -> Below wo.heap.size wo w1) := by
           intro o w1 h1
           exact ptg hb (ptg (gal wr o) h1)
         have hcl := fun o => checkEdge_any h la (some ⟨b, off, none⟩) lives.length lc edges.length ec edges[k] lo lcap (wr.alloc o) (hL.below (gal wr o)) (by omega)
         clear hc hed2 hlv2 hL q0 q1 q2
         by_cases he : edChk h lives.length edges[k] = 0
         · have HC2 := hideg (eds_next hlt HI.out he)
           rw [he] at hcl
           clear he
           go_wp2_with (go_at_call 45; refine (hcl _).mono ?_; rintro e w1 ⟨rfl, hb1⟩)
           go_roundw
           case rel => exact ⟨k + 1, by omega, by go_num, HC2.out, HN.out _ _ hb1⟩
           case measure => simp [intOf]; omega
         · have HC2 := hideg (eds_stop hlt HI.out he)
           have hne : (edChk h lives.length edges[k] != 0) = true := by simpa using he
           generalize edChk h lives.length edges[k] = ev at *
           go_wp2_with (go_at_call 45; refine (hcl _).mono ?_; rintro e w1 ⟨rfl, hb1⟩)
           go_ret
           exact ⟨ret_int (by rw [HC.out]; exact HC2.out.symm), ptg HBW.out (HN.out _ _ hb1)⟩
       · have hkl : k = edges.length := by omega
         subst hkl
         have HC2 := hideg (eds_end HI.out)
         go_wp2
         go_ret
         exact ⟨ret_int (by rw [HC.out]; exact HC2.out.symm), ptg HBW.out hb⟩
def hasB (a b t : Int) : Bool := decide (a <= t) && decide (t < b)
def lgFind (t : Int) : List Lg -> Option Lg
 | [] => none
 | l :: ls => if hasB l.1 l.2.1 t = true then some l else lgFind t ls
def aliveL (t : Int) (lives : List (Int × Int)) : List Bool := lives.map fun p => hasB p.1 p.2 t
def aliveB (t : Int) (lives : List (Int × Int)) (v : Int) : Bool := (aliveL t lives).getD v.toNat false
def arcOf (t : Int) (lives : List (Int × Int)) (e : Ed) : List (Int × Int × Int) :=
 match lgFind t e.2.2 with
 | none => []
 | some l => if (aliveB t lives e.1 && aliveB t lives e.2.1) = true then [(e.1, e.2.1, l.2.2.2)] else []
def arcsL (t : Int) (lives : List (Int × Int)) (edges : List Ed) : List (Int × Int × Int) := edges.flatMap (arcOf t lives)
theorem hasB_iff (a b t : Int) : hasB a b t = true ↔ a <= t /\ t < b := by unfold hasB; simp
theorem hasB_no {a b t : Int} (h : ¬ (a <= t /\ t < b)) : hasB a b t = false := by rw [<- Bool.not_eq_true, hasB_iff]; exact h
theorem lgFind_hit {t : Int} {l : List Lg} {k : Nat} (hk : k < l.length) (hI : lgFind t l = lgFind t (l.drop k)) (h : hasB l[k].1 l[k].2.1 t = true) : lgFind t l = some l[k] := by
 rw [hI, drop_get l k hk, lgFind, if_pos h]
theorem lgFind_next {t : Int} {l : List Lg} {k : Nat} (hk : k < l.length) (hI : lgFind t l = lgFind t (l.drop k)) (h : hasB l[k].1 l[k].2.1 t = false) : lgFind t l = lgFind t (l.drop (k + 1)) := by
 rw [hI, drop_get l k hk, lgFind, if_neg (by simp [h])]
theorem lgFind_end {t : Int} {l : List Lg} (hI : lgFind t l = lgFind t (l.drop l.length)) : lgFind t l = none := by rw [hI, List.drop_length]; rfl
theorem aliveL_length (t : Int) (lives : List (Int × Int)) : (aliveL t lives).length = lives.length := by simp [aliveL]
theorem aliveL_take (t : Int) (lives : List (Int × Int)) (k : Nat) (hk : k < lives.length) : aliveL t (lives.take (k + 1)) = aliveL t (lives.take k) ++ [hasB lives[k].1 lives[k].2 t] := by
 unfold aliveL; rw [List.take_succ_eq_append_getElem hk, List.map_append]; rfl
theorem aliveB_at (t : Int) (lives : List (Int × Int)) (v : Nat) (h : v < lives.length) : aliveB t lives v = hasB lives[v].1 lives[v].2 t := by
 unfold aliveB aliveL
 rw [Int.toNat_natCast, List.getD_eq_getElem?_getD, List.getElem?_map, List.getElem?_eq_getElem h]; rfl
theorem arcs_take (t : Int) (lives : List (Int × Int)) (edges : List Ed) (k : Nat) (hk : k < edges.length) : arcsL t lives (edges.take (k + 1)) = arcsL t lives (edges.take k) ++ arcOf t lives edges[k] := by
 unfold arcsL
 rw [List.take_succ_eq_append_getElem hk, List.flatMap_append, List.flatMap_singleton]
theorem arcOf_none {t : Int} {lives : List (Int × Int)} {e : Ed} (h : lgFind t e.2.2 = none) : arcOf t lives e = [] := by unfold arcOf; rw [h]
theorem arcOf_dead {t : Int} {lives : List (Int × Int)} {e : Ed} (h : (aliveB t lives e.1 && aliveB t lives e.2.1) = false) : arcOf t lives e = [] := by
 unfold arcOf
 cases lgFind t e.2.2 with
 | none => rfl
 | some l => simp only [h]; rfl
theorem arcOf_some {t : Int} {lives : List (Int × Int)} {e : Ed} {l : Lg} (h : lgFind t e.2.2 = some l) (k : (aliveB t lives e.1 && aliveB t lives e.2.1) = true) : arcOf t lives e = [(e.1, e.2.1, l.2.2.2)] := by
 unfold arcOf; rw [h]; simp only [k, if_true]
theorem arcOf_len (t : Int) (lives : List (Int × Int)) (e : Ed) : (arcOf t lives e).length <= 1 := by
 unfold arcOf
 split
 · simp
 · split <;> simp
theorem arcs_len (t : Int) (lives : List (Int × Int)) : ∀ edges : List Ed, (arcsL t lives edges).length <= edges.length
 | [] => by simp [arcsL]
 | e :: es => by
   have h1 := arcs_len t lives es
   have h2 := arcOf_len t lives e
   unfold arcsL at h1 ⊢
   rw [List.flatMap_cons, List.length_append, List.length_cons]; omega
theorem mem_take_lt {Z : List Int} {i : Nat} {x : Int} (h : x ∈ Z.take i) : ∃ j, j < i /\ Z[j]? = some x := by
 obtain ⟨j, hj, e⟩ := List.getElem_of_mem h
 rw [List.length_take] at hj
 rw [List.getElem_take] at e
 exact ⟨j, by omega, by rw [List.getElem?_eq_getElem (by omega), e]⟩
structure Ordered (A S : List Int) : Prop where
 inc : S.Pairwise (· < ·)
 mem : ∀ x, x ∈ S ↔ x ∈ A
 len : S.length <= A.length
def NearP (p : Int × Int × Int) : Prop := nearB p.1 /\ nearB p.2.1 /\ nearB p.2.2
def Fol (a p : Int × Int × Int) : Prop := a.2.1 < p.1 \/ (a.2.1 = p.1 /\ a.2.2 ≠ p.2.2)
def folB (a p : Int × Int × Int) : Bool := decide (a.2.1 < p.1) || (a.2.1 == p.1 && a.2.2 != p.2.2)
theorem folB_iff (a p : Int × Int × Int) : folB a p = true ↔ Fol a p := by
 unfold folB Fol
 simp only [Bool.or_eq_true, Bool.and_eq_true, decide_eq_true_eq, beq_iff_eq, bne_iff_ne]
def Sound (m : List (Int × Int × Int)) (i : Nat) : Prop := NearP (m.getD i (0, 0, 0)) /\ (m.getD i (0, 0, 0)).1 < (m.getD i (0, 0, 0)).2.1 /\ (0 < i -> Fol (m.getD (i - 1) (0, 0, 0)) (m.getD i (0, 0, 0)))
def MGood (m : List (Int × Int × Int)) (k : Nat) : Prop := ∀ i, i < k -> Sound m i
def mgoodDec (m : List (Int × Int × Int)) (k : Nat) : Decidable (MGood m k) := by unfold MGood Sound NearP Fol nearB; infer_instance
def mchk (m : List (Int × Int × Int)) : Int := if 200 < m.length then 2 else @ite Int (MGood m m.length) (mgoodDec m m.length) 0 5
theorem mgood_succ {m : List (Int × Int × Int)} {k : Nat} (h : MGood m k) (h1 : Sound m k) : MGood m (k + 1) := by
 intro i hi
 by_cases e : i = k
 · subst e; exact h1
 · exact h i (by omega)
theorem mchk_large {m : List (Int × Int × Int)} (h : 200 < m.length) : mchk m = 2 := by simp [mchk, h]
theorem mchk_ok {m : List (Int × Int × Int)} (h : m.length <= 200) (hn : MGood m m.length) : mchk m = 0 := by
 unfold mchk; rw [if_neg (by omega), if_pos hn]
theorem mchk_no {m : List (Int × Int × Int)} {k : Nat} (h : m.length <= 200) (hk : k < m.length) (hn : ¬ Sound m k) : mchk m = 5 := by
 unfold mchk; rw [if_neg (by omega), if_neg (fun hh => hn (hh k hk))]
theorem mchk_cases (m : List (Int × Int × Int)) : mchk m = 2 \/ mchk m = 5 \/ (mchk m = 0 /\ m.length <= 200 /\ MGood m m.length) := by
 unfold mchk
 by_cases h : 200 < m.length
 · exact .inl (by rw [if_pos h])
 · rw [if_neg h]
   by_cases hn : MGood m m.length
   · exact .inr (.inr ⟨by rw [if_pos hn], by omega, hn⟩)
   · exact .inr (.inl (by rw [if_neg hn]))
def inP (p : Int × Int × Int) (t : Int) : Bool := decide (p.1 <= t) && decide (t < p.2.1)
theorem inP_iff (p : Int × Int × Int) (t : Int) : inP p t = true ↔ p.1 <= t /\ t < p.2.1 := by unfold inP; simp only [Bool.and_eq_true, decide_eq_true_eq]
def tel : List (Int × Int × Int) -> Int -> Option Int
 | [], _ => none
 | p :: m, t => if inP p t then some p.2.2 else tel m t
theorem tel_nil (t : Int) : tel [] t = none := rfl
theorem tel_cons (p : Int × Int × Int) (m : List (Int × Int × Int)) (t : Int) : tel (p :: m) t = if inP p t then some p.2.2 else tel m t := rfl
theorem tel_append (a b : List (Int × Int × Int)) (t : Int) : tel (a ++ b) t = (tel a t).or (tel b t) := by
 induction a with
 | nil => rfl
 | cons p a ih =>
   rw [List.cons_append, tel_cons, tel_cons, ih]
   split <;> rfl
theorem tel_take_no {m : List (Int × Int × Int)} {k : Nat} {t : Int} (hk : k < m.length) (h : tel (m.take k) t = none) (hn : inP m[k] t = false) : tel (m.take (k + 1)) t = none := by
 rw [take_succ_get m k hk, tel_append, h, tel_cons, hn]; rfl
theorem tel_take_yes {m : List (Int × Int × Int)} {k : Nat} {t : Int} (hk : k < m.length) (h : tel (m.take k) t = none) (hn : inP m[k] t = true) : tel m t = some m[k].2.2 := by
 have e : m = m.take k ++ m[k] :: m.drop (k + 1) := by rw [List.getElem_cons_drop, List.take_append_drop]
 have e2 : tel m t = tel (m.take k ++ m[k] :: m.drop (k + 1)) t := congrArg (tel · t) e
 rw [e2, tel_append, h, tel_cons, hn]; rfl
theorem tel_mem {m : List (Int × Int × Int)} {t v : Int} (h : tel m t = some v) : ∃ p ∈ m, inP p t = true /\ p.2.2 = v := by
 induction m with
 | nil => cases h
 | cons p m ih =>
   rw [tel_cons] at h
   split at h
   · rename_i hp; cases h; exact ⟨p, by simp, hp, rfl⟩
   · obtain ⟨q, hq, h1⟩ := ih h
     exact ⟨q, by simp [hq], h1⟩
theorem tel_none {m : List (Int × Int × Int)} {t : Int} (h : ∀ p ∈ m, inP p t = false) : tel m t = none := by
 induction m with
 | nil => rfl
 | cons p m ih =>
   rw [tel_cons, h p (by simp), ih fun q hq => h q (by simp [hq])]; rfl
def MCan : List (Int × Int × Int) -> Prop
 | [] => True
 | p :: m => p.1 < p.2.1 /\ (∀ q, m.head? = some q -> Fol p q) /\ MCan m
theorem mcan_low {p : Int × Int × Int} {m : List (Int × Int × Int)} (h : MCan (p :: m)) : ∀ q ∈ m, p.2.1 <= q.1 := by
 induction m generalizing p with
 | nil => intro q hq; cases hq
 | cons r m ih =>
   intro q hq
   obtain ⟨h1, h2, h3⟩ := h
   have h4 := h2 r rfl
   have h5 := h3.1
   rcases List.mem_cons.1 hq with e | hq
   · subst e; rcases h4 with h4 | h4
     · omega
     · omega
   · have := ih h3 q hq
     rcases h4 with h4 | h4 <;> omega
theorem mcan_pos {m : List (Int × Int × Int)} (h : MCan m) : ∀ q ∈ m, q.1 < q.2.1 := by
 induction m with
 | nil => intro q hq; cases hq
 | cons r m ih =>
   intro q hq
   rcases List.mem_cons.1 hq with e | hq
   · subst e; exact h.1
   · exact ih h.2.2 q hq
theorem tel_before {m : List (Int × Int × Int)} {t : Int} (h : ∀ q ∈ m, t < q.1) : tel m t = none :=
 tel_none fun p hp => by have := h p hp; unfold inP; simp only [Bool.and_eq_false_iff, decide_eq_false_iff_not]; omega
theorem tel_first {p : Int × Int × Int} {m : List (Int × Int × Int)} {t : Int} (h1 : p.1 <= t) (h2 : t < p.2.1) : tel (p :: m) t = some p.2.2 := by
 rw [tel_cons, if_pos ((inP_iff p t).2 ⟨h1, h2⟩)]
theorem tel_later {p : Int × Int × Int} {m : List (Int × Int × Int)} {t : Int} (h : p.2.1 <= t) : tel (p :: m) t = tel m t := by
 rw [tel_cons, if_neg (fun hh => by have := (inP_iff p t).1 hh; omega)]
theorem mcan_end {p q : Int × Int × Int} {a b : List (Int × Int × Int)} (ha : MCan (p :: a)) (_hb : MCan (q :: b)) (h : ∀ t, tel (p :: a) t = tel (q :: b) t) (h1 : p.1 = q.1) (h2 : p.2.2 = q.2.2) (hlt : p.2.1 < q.2.1) : False := by
 have hp := ha.1
 have e := h p.2.1
 rw [tel_later (Int.le_refl _), tel_first (p := q) (by omega) hlt] at e
 cases a with
 | nil => cases e
 | cons r a =>
   have hf := ha.2.1 r rfl
   have hr := ha.2.2.1
   rcases hf with hf | ⟨hf, hv⟩
   · rw [tel_before (fun s hs => ?_)] at e
     · cases e
     · rcases List.mem_cons.1 hs with e' | hs
       · subst e'; exact hf
       · have := mcan_low ha.2.2 s hs; omega
   · rw [tel_first (p := r) (by omega) (by omega), Option.some.injEq] at e
     exact hv (by omega)
theorem mcan_unique {a b : List (Int × Int × Int)} (ha : MCan a) (hb : MCan b) (h : ∀ t, tel a t = tel b t) : a = b := by
 induction a generalizing b with
 | nil =>
   cases b with
   | nil => rfl
   | cons q b =>
     have := h q.1
     rw [tel_first (Int.le_refl _) hb.1] at this
     cases this
 | cons p a ih =>
   cases b with
   | nil =>
     have := h p.1
     rw [tel_first (Int.le_refl _) ha.1] at this
     cases this
   | cons q b =>
     have hp := ha.1
     have hq := hb.1
     have la := mcan_low ha
     have lb := mcan_low hb
     have h1 : p.1 = q.1 := by
       rcases Int.lt_trichotomy p.1 q.1 with hc | hc | hc
       · have := h p.1
         rw [tel_first (Int.le_refl _) hp, tel_before (fun s hs => ?_)] at this
         · cases this
         · rcases List.mem_cons.1 hs with e | hs
           · subst e; exact hc
           · have := lb s hs; omega
       · exact hc
       · have := h q.1
         rw [tel_first (p := q) (Int.le_refl _) hq, tel_before (fun s hs => ?_)] at this
         · cases this
         · rcases List.mem_cons.1 hs with e | hs
           · subst e; exact hc
           · have := la s hs; omega
     have h2 : p.2.2 = q.2.2 := by
       have := h p.1
       rw [tel_first (Int.le_refl _) hp, tel_first (p := q) (by omega) (by omega), Option.some.injEq] at this
       exact this
     have h3 : p.2.1 = q.2.1 := by
       rcases Int.lt_trichotomy p.2.1 q.2.1 with hc | hc | hc
       · exact (mcan_end ha hb h h1 h2 hc).elim
       · exact hc
       · exact (mcan_end hb ha (fun t => (h t).symm) h1.symm h2.symm hc).elim
     have e : p = q := Prod.ext h1 (Prod.ext h3 h2)
     subst e
     rw [ih ha.2.2 hb.2.2 fun t => ?_]
     by_cases ht : p.2.1 <= t
     · have := h t
       rwa [tel_later ht, tel_later ht] at this
     · rw [tel_before (fun s hs => by have := la s hs; omega), tel_before (fun s hs => by have := lb s hs; omega)]
theorem mcan_snoc {o : List (Int × Int × Int)} {p : Int × Int × Int} : MCan (o ++ [p]) ↔ MCan o /\ p.1 < p.2.1 /\ ∀ q, o.getLast? = some q -> Fol q p := by
 induction o with
 | nil => simp [MCan]
 | cons r o ih =>
   rw [List.cons_append, MCan, MCan, ih]
   cases o with
   | nil => simp [MCan, and_comm]
   | cons s o =>
     simp only [List.cons_append, List.head?_cons, List.getLast?_cons_cons]
     constructor
     · rintro ⟨h1, h2, h3, h4, h5⟩; exact ⟨⟨h1, h2, h3⟩, h4, h5⟩
     · rintro ⟨⟨h1, h2, h3⟩, h4, h5⟩; exact ⟨h1, h2, h3, h4, h5⟩
theorem mcan_take_of_good {m : List (Int × Int × Int)} (h : MGood m m.length) (k : Nat) (hk : k <= m.length) : MCan (m.take k) := by
 induction k with
 | zero => simp [MCan]
 | succ k ih =>
   have hlt : k < m.length := by omega
   have hs := h k hlt
   have hg : m.getD k (0, 0, 0) = m[k] := by simp [List.getD_eq_getElem?_getD, List.getElem?_eq_getElem hlt]
   rw [take_succ_get m k hlt, mcan_snoc]
   refine ⟨ih (by omega), by have := hs.2.1; rwa [hg] at this, fun q hq => ?_⟩
   have h0 : 0 < k := by
     rcases Nat.eq_zero_or_pos k with e | e
     · subst e; simp at hq
     · exact e
   have h2 := hs.2.2 h0
   rw [hg] at h2
   rw [List.getLast?_eq_getElem?, List.length_take, Nat.min_eq_left (by omega), List.getElem?_take_of_lt (by omega), List.getElem?_eq_getElem (by omega)] at hq
   cases hq
   rw [List.getD_eq_getElem?_getD, List.getElem?_eq_getElem (by omega)] at h2
   exact h2
theorem mcan_of_good {m : List (Int × Int × Int)} (h : MGood m m.length) : MCan m := by
 have := mcan_take_of_good h m.length (Nat.le_refl _)
 rwa [List.take_length] at this
theorem near_of_good {m : List (Int × Int × Int)} (h : MGood m m.length) : ∀ p ∈ m, NearP p := by
 intro p hp
 obtain ⟨j, hj, rfl⟩ := List.getElem_of_mem hp
 have := (h j hj).1
 rwa [List.getD_eq_getElem?_getD, List.getElem?_eq_getElem hj] at this
theorem good_of_mcan {m : List (Int × Int × Int)} (hc : MCan m) (hn : ∀ p ∈ m, NearP p) : MGood m m.length := by
 intro i hi
 have hg : m.getD i (0, 0, 0) = m[i] := by simp [List.getD_eq_getElem?_getD, List.getElem?_eq_getElem hi]
 unfold Sound
 rw [hg]
 refine ⟨hn _ (List.getElem_mem hi), mcan_pos hc _ (List.getElem_mem hi), fun h0 => ?_⟩
 obtain ⟨j, rfl⟩ : ∃ j, i = j + 1 := ⟨i - 1, by omega⟩
 have e : m = m.take (j + 1) ++ m[j + 1] :: m.drop (j + 1 + 1) := by rw [List.getElem_cons_drop, List.take_append_drop]
 have key : ∀ (o r : List (Int × Int × Int)) (p : Int × Int × Int), MCan (o ++ p :: r) -> ∀ q, o.getLast? = some q -> Fol q p := by
   intro o
   induction o with
   | nil => intro r p _ q hq; simp at hq
   | cons s o ih =>
     intro r p hm q hq
     rw [List.cons_append] at hm
     cases o with
     | nil => simp at hq; subst hq; exact hm.2.1 p rfl
     | cons u o => exact ih r p hm.2.2 q (by simpa using hq)
 have hc' := hc
 rw [e] at hc'
 refine key _ _ _ hc' _ ?_
 rw [List.getLast?_eq_getElem?, List.length_take, Nat.min_eq_left (by omega), List.getElem?_take_of_lt (by omega), Nat.add_sub_cancel, List.getD_eq_getElem?_getD, List.getElem?_eq_getElem (by omega)]
 rfl
theorem mchk_of_mcan {m : List (Int × Int × Int)} (hc : MCan m) (hn : ∀ p ∈ m, NearP p) (hl : m.length <= 200) : mchk m = 0 := mchk_ok hl (good_of_mcan hc hn)
def turnsOf (m : List (Int × Int × Int)) : List Int := m.flatMap fun p => [p.1, p.2.1]
theorem turnsOf_length (m : List (Int × Int × Int)) : (turnsOf m).length = 2 * m.length := by
 induction m with
 | nil => rfl
 | cons p m ih => simp only [turnsOf, List.flatMap_cons, List.length_append, List.length_cons, List.length_nil] at ih ⊢; omega
theorem turnsOf_succ (m : List (Int × Int × Int)) (k : Nat) (hk : k < m.length) : turnsOf (m.take (k + 1)) = turnsOf (m.take k) ++ [m[k].1, m[k].2.1] := by
 rw [take_succ_get m k hk]; unfold turnsOf; rw [List.flatMap_append]; rfl
theorem turnsOf_mem {m : List (Int × Int × Int)} {x : Int} (h : x ∈ turnsOf m) : ∃ p ∈ m, x = p.1 \/ x = p.2.1 := by
 unfold turnsOf at h
 rw [List.mem_flatMap] at h
 obtain ⟨p, hp, hx⟩ := h
 simp at hx
 exact ⟨p, hp, hx⟩
theorem mem_turnsOf {m : List (Int × Int × Int)} {p : Int × Int × Int} (h : p ∈ m) : p.1 ∈ turnsOf m /\ p.2.1 ∈ turnsOf m := by
 unfold turnsOf
 exact ⟨List.mem_flatMap.2 ⟨p, h, by simp⟩, List.mem_flatMap.2 ⟨p, h, by simp⟩⟩
def mseg (S : List Int) (f : Int -> Option Int) (i : Nat) (t : Int) : Option Int := (List.range i).findSome? fun k => if S.getD k 0 <= t /\ t < S.getD (k + 1) 0 then f (S.getD k 0) else none
theorem mseg_succ (S : List Int) (f : Int -> Option Int) (i : Nat) (t : Int) : mseg S f (i + 1) t = (mseg S f i t).or (if S.getD i 0 <= t /\ t < S.getD (i + 1) 0 then f (S.getD i 0) else none) := by
 unfold mseg
 rw [List.range_succ, List.findSome?_append]
 congr 1
 simp only [List.findSome?_cons, List.findSome?_nil]
 split <;> simp_all
structure Tl (S : List Int) (f : Int -> Option Int) (i : Nat) (out : List (Int × Int × Int)) : Prop where
 canon : MCan out
 pts : ∀ t, tel out t = mseg S f i t
 last : ∀ q, out.getLast? = some q -> ∃ j, j <= i /\ S[j]? = some q.2.1
 len : out.length <= i
 mem : ∀ q ∈ out, q.1 ∈ S /\ q.2.1 ∈ S /\ ∃ s ∈ S, f s = some q.2.2
theorem tl_start (S : List Int) (f : Int -> Option Int) : Tl S f 0 [] :=
 ⟨trivial, fun _ => rfl, fun q h => by simp at h, Nat.le_refl _, fun x h => by simp at h⟩
theorem getD_get' {S : List Int} {i : Nat} (h : i < S.length) : S.getD i 0 = S[i] := by simp [List.getD_eq_getElem?_getD, h]
theorem tl_skip {S : List Int} {f : Int -> Option Int} {i : Nat} {out : List (Int × Int × Int)} (hi : i + 1 < S.length) (T : Tl S f i out) (hp : f S[i] = none) : Tl S f (i + 1) out := by
 refine ⟨T.canon, fun t => ?_, fun q h => ?_, by have := T.len; omega, T.mem⟩
 · rw [mseg_succ, getD_get' (by omega), hp, T.pts]; simp
 · obtain ⟨j, hj, e⟩ := T.last q h
   exact ⟨j, by omega, e⟩
theorem tl_last_le {S : List Int} {f : Int -> Option Int} {i : Nat} {out : List (Int × Int × Int)} (hi : i + 1 < S.length) (hS : S.Pairwise (· < ·)) (T : Tl S f i out) {q : Int × Int × Int} (h : out.getLast? = some q) : q.2.1 <= S[i] := by
 rw [List.pairwise_iff_getElem] at hS
 obtain ⟨j, hj, ej⟩ := T.last q h
 obtain ⟨hjl, ej⟩ := List.getElem?_eq_some_iff.1 ej
 by_cases hji : j = i
 · subst hji; omega
 · have := hS j i hjl (by omega) (by omega); omega
theorem tl_put {S : List Int} {f : Int -> Option Int} {i : Nat} {v : Int} {out : List (Int × Int × Int)} (hi : i + 1 < S.length) (hS : S.Pairwise (· < ·)) (T : Tl S f i out) (hp : f S[i] = some v) (hn : ∀ q, out.getLast? = some q -> Fol q (S[i], S[i + 1], v)) : Tl S f (i + 1) (out ++ [(S[i], S[i + 1], v)]) := by
 have hS' := hS
 rw [List.pairwise_iff_getElem] at hS'
 have h01 := hS' i (i + 1) (by omega) hi (by omega)
 refine ⟨?_, fun t => ?_, fun q h => ?_, ?_, fun x hx => ?_⟩
 · rw [mcan_snoc]
   exact ⟨T.canon, h01, hn⟩
 · rw [mseg_succ, tel_append, T.pts, getD_get' (by omega : i < S.length), getD_get' hi, hp, tel_cons, tel_nil]
   congr 1
   simp only [inP, Bool.and_eq_true, decide_eq_true_eq]
 · simp at h
   subst h
   exact ⟨i + 1, Nat.le_refl _, List.getElem?_eq_getElem hi⟩
 · have := T.len; simp only [List.length_append, List.length_singleton]; omega
 · rw [List.mem_append] at hx
   rcases hx with hx | hx
   · exact T.mem x hx
   · simp only [List.mem_singleton] at hx
     subst hx
     exact ⟨List.getElem_mem _, List.getElem_mem _, S[i], List.getElem_mem _, hp⟩
theorem tl_more {S : List Int} {f : Int -> Option Int} {i : Nat} {v : Int} {o : List (Int × Int × Int)} {q : Int × Int × Int} (hi : i + 1 < S.length) (hS : S.Pairwise (· < ·)) (T : Tl S f i (o ++ [q])) (hp : f S[i] = some v) (hn : q.2.1 = S[i]) (hv : q.2.2 = v) : Tl S f (i + 1) (o ++ [(q.1, S[i + 1], q.2.2)]) := by
 rw [List.pairwise_iff_getElem] at hS
 have h01 := hS i (i + 1) (by omega) hi (by omega)
 have hc := T.canon
 rw [mcan_snoc] at hc
 have hqq := hc.2.1
 refine ⟨?_, fun t => ?_, fun r h => ?_, ?_, fun x hx => ?_⟩
 · rw [mcan_snoc]
   exact ⟨hc.1, by simp only; omega, fun r hr => hc.2.2 r hr⟩
 · rw [mseg_succ, tel_append, <- T.pts, tel_append, getD_get' (by omega : i < S.length), getD_get' hi, hp, Option.or_assoc]
   congr 1
   rw [tel_cons, tel_cons, tel_nil]
   by_cases h1 : inP q t = true
   · have h2 : inP (q.1, S[i + 1], q.2.2) t = true := by rw [inP_iff] at h1 ⊢; simp only; omega
     rw [if_pos h1, if_pos h2]; rfl
   · rw [if_neg h1]
     by_cases h2 : inP (q.1, S[i + 1], q.2.2) t = true
     · rw [if_pos h2, if_pos (by rw [inP_iff] at h1 h2; simp only at h2; omega), <- hv]; rfl
     · rw [if_neg h2, if_neg (by rw [inP_iff] at h1 h2; simp only at h2; omega)]; rfl
 · simp at h
   subst h
   exact ⟨i + 1, Nat.le_refl _, List.getElem?_eq_getElem hi⟩
 · have := T.len; simp only [List.length_append, List.length_singleton] at this ⊢; omega
 · have hm := T.mem
   rw [List.mem_append] at hx
   rcases hx with hx | hx
   · exact hm x (by simp [hx])
   · simp only [List.mem_singleton] at hx
     subst hx
     have := hm q (by simp)
     exact ⟨this.1, List.getElem_mem _, this.2.2⟩
def MapIs (A : List Int) (f : Int -> Option Int) (n : Int) (r : List (Int × Int × Int)) : Prop :=
 ∃ S out, Ordered A S /\ Tl S f (S.length - 1) out /\ ((¬ (∀ q ∈ out, NearP q) /\ n = 5 /\ r = []) \/ ((∀ q ∈ out, NearP q) /\ 200 < out.length /\ n = 2 /\ r = []) \/ ((∀ q ∈ out, NearP q) /\ out.length <= 200 /\ n = 0 /\ r = out))
theorem ptw {a b c : World} (h1 : Below a.heap.size a b) (h2 : Below b.heap.size b c) : Below a.heap.size a c := h1.trans (h2.mono h1.size)
theorem pal (w : World) (o : Obj) : Below w.heap.size w (w.alloc o) := (Below.refl _ _).alloc (Nat.le_refl _) o
def PcAt (w : World) (ao : Option Addr) (m : List (Int × Int × Int)) : Prop :=
 m = [] \/ ∃ b off, ao = some ⟨b, off, none⟩ /\ b < w.heap.size /\ ∀ j, j < m.length -> w.cell? ⟨b, off + j * 3, none⟩ = some (.int .i64 (m.getD j (0, 0, 0)).1) /\ w.cell? ⟨b, off + j * 3 + 1, none⟩ = some (.int .i64 (m.getD j (0, 0, 0)).2.1) /\ w.cell? ⟨b, off + j * 3 + 2, none⟩ = some (.int .i64 (m.getD j (0, 0, 0)).2.2)
theorem PcAt.below {w w' : World} {ao : Option Addr} {m : List (Int × Int × Int)} (h : PcAt w ao m) (hb : Below w.heap.size w w') : PcAt w' ao m := by
 rcases h with h | ⟨b, off, rfl, hlt, hc⟩
 · exact .inl h
 · refine .inr ⟨b, off, rfl, Nat.lt_of_lt_of_le hlt hb.size, fun j hj => ?_⟩
   rw [hb.cell (p := ⟨b, off + j * 3, none⟩) hlt, hb.cell (p := ⟨b, off + j * 3 + 1, none⟩) hlt, hb.cell (p := ⟨b, off + j * 3 + 2, none⟩) hlt]
   exact hc j hj
theorem Tryz.infoPiece : (Seq.prog.info? 35).map (fun i => (i.zero, i.size, i.bytes)) = some (some (.agg #[.int .i64 0, .int .i64 0, .int .i64 0]), 3, 24) := by kernel_rfl
def flat3 (m : List (Int × Int × Int)) : List Int := m.flatMap fun p => [p.1, p.2.1, p.2.2]
theorem flat3_cons (p : Int × Int × Int) (m : List (Int × Int × Int)) : flat3 (p :: m) = p.1 :: p.2.1 :: p.2.2 :: flat3 m := by simp [flat3]
theorem flat3_append (a b : List (Int × Int × Int)) : flat3 (a ++ b) = flat3 a ++ flat3 b := by simp [flat3]
theorem flat3_length (m : List (Int × Int × Int)) : (flat3 m).length = m.length * 3 := by
 induction m with
 | nil => rfl
 | cons p m ih => rw [flat3_cons]; simp only [List.length_cons, ih]; omega
theorem flat3_getD (m : List (Int × Int × Int)) (j : Nat) (h : j < m.length) : (flat3 m)[j * 3]? = some (m.getD j (0, 0, 0)).1 /\ (flat3 m)[j * 3 + 1]? = some (m.getD j (0, 0, 0)).2.1 /\ (flat3 m)[j * 3 + 2]? = some (m.getD j (0, 0, 0)).2.2 := by
 induction m generalizing j with
 | nil => simp at h
 | cons p m ih =>
   rw [flat3_cons]
   cases j with
   | zero => exact ⟨rfl, rfl, rfl⟩
   | succ j =>
     have := ih j (by simpa using h)
     rw [show (j + 1) * 3 = j * 3 + 1 + 1 + 1 by omega]
     simpa using this
def enc3 (m : List (Int × Int × Int)) : List Value := (flat3 m).map (Value.int .i64)
theorem enc3_append (a b : List (Int × Int × Int)) : enc3 (a ++ b) = enc3 a ++ enc3 b := by unfold enc3; rw [flat3_append, List.map_append]
theorem enc3_length (m : List (Int × Int × Int)) : (enc3 m).length = m.length * 3 := by unfold enc3; rw [List.length_map, flat3_length]
theorem pcAt_of_owns {w : World} {base e : Nat} {v : Value} {n : Nat} {m : List (Int × Int × Int)} (h : w.ownsRow base e 3 v n (enc3 m)) : ∃ ao cap, v = .slice ao m.length cap /\ PcAt w ao m := by
 obtain ⟨h1, h2⟩ := h
 simp only [enc3_length] at h1
 have hn : n = m.length := by omega
 subst hn
 rcases h2 with ⟨rfl, h0⟩ | ⟨g, cap, cur, rfl, hb, hh, h3, h4, h5, h6⟩
 · exact ⟨none, 0, by rw [h0], .inl (List.eq_nil_of_length_eq_zero h0)⟩
 · have hown : w.ownsRow base e 3 (.slice (some ⟨g, 0, none⟩) m.length cap) m.length (enc3 m) := ⟨by simp [enc3_length], .inr ⟨g, cap, cur, rfl, hb, hh, h3, h4, h5, h6⟩⟩
   refine ⟨_, cap, rfl, .inr ⟨g, 0, rfl, (Array.getElem?_eq_some_iff.1 hh).1, fun j hj => ?_⟩⟩
   obtain ⟨f0, f1, f2⟩ := flat3_getD m j hj
   rw [Nat.zero_add, hown.cellAt (j * 3) (by omega), hown.cellAt (j * 3 + 1) (by omega), hown.cellAt (j * 3 + 2) (by omega)]
   simp only [enc3, List.getElem?_map, f0, f1, f2]
   exact ⟨rfl, rfl, rfl⟩
theorem cells_three_new (w : World) (B : Nat) (t : TypeId) (x y z : Value) (hB : B = w.heap.size) : ∀ j u, [x, y, z][j]? = some u -> (w.alloc (.cells #[x, y, z] t)).cell? ((⟨B, 0, none⟩ : Addr).add j) = some u := by
 subst hB
 intro j u hj
 match j, hj with
 | 0, hj => simp at hj; subst hj; simp [Addr.add]
 | 1, hj => simp at hj; subst hj; simp [Addr.add]
 | 2, hj => simp at hj; subst hj; simp [Addr.add]
def Told3 (w w' : World) (e : Ending) (n : Int) (r : List (Int × Int × Int)) : Prop :=
 ∃ v, e = .returned (.tuple #[v, .int .i64 n]) /\ w'.ownsRow w.heap.size 35 3 v r.length (enc3 r) /\ Below w.heap.size w w'
abbrev Ac := Int × Int × Int
def vat (x : List Int) (v : Int) : Int := x.getD v.toNat 0
structure Adm (first : List Int) (arcs : List Ac) (p : Ac -> Int) (y : Nat -> Int) : Prop where
 le : ∀ v, v < first.length -> y v <= first.getD v 0
 cl : ∀ a ∈ arcs, y a.2.1.toNat <= y a.1.toNat + p a
structure Mid (first : List Int) (arcs : List Ac) (p : Ac -> Int) (x : List Int) : Prop where
 len : x.length = first.length
 le : ∀ v, v < first.length -> x.getD v 0 <= first.getD v 0
 most : ∀ y, Adm first arcs p y -> ∀ v, v < first.length -> y v <= x.getD v 0
theorem mid_start (first : List Int) (arcs : List Ac) (p : Ac -> Int) : Mid first arcs p first := ⟨rfl, fun _ _ => Int.le_refl _, fun _ h v hv => h.le v hv⟩
theorem getD_set (x : List Int) (k v : Nat) (m : Int) (hk : k < x.length) : (x.set k m).getD v 0 = if v = k then m else x.getD v 0 := by
 simp only [List.getD_eq_getElem?_getD, List.getElem?_set]
 by_cases h : k = v
 · subst h; simp [hk]
 · have : ¬ v = k := fun e => h e.symm
   simp [h, this]
theorem mid_set {first : List Int} {arcs : List Ac} {p : Ac -> Int} {x : List Int} {k : Nat} {m : Int} (h : Mid first arcs p x) (hk : k < first.length) (hm : m <= x.getD k 0) (ha : ∀ y, Adm first arcs p y -> y k <= m) : Mid first arcs p (x.set k m) := by
 have hk' : k < x.length := by rw [h.len]; exact hk
 refine ⟨by rw [List.length_set]; exact h.len, fun v hv => ?_, fun y hy v hv => ?_⟩
 · rw [getD_set _ _ _ _ hk']
   by_cases e : v = k
   · rw [if_pos e]; subst e; exact Int.le_trans hm (h.le v hv)
   · rw [if_neg e]; exact h.le v hv
 · rw [getD_set _ _ _ _ hk']
   by_cases e : v = k
   · rw [if_pos e]; subst e; exact ha y hy
   · rw [if_neg e]; exact h.most y hy v hv
def EndsIn (n : Nat) (arcs : List Ac) : Prop := ∀ a ∈ arcs, 0 <= a.1 /\ a.1 < n /\ 0 <= a.2.1 /\ a.2.1 < n
theorem mid_arc {first : List Int} {arcs : List Ac} {p : Ac -> Int} {x : List Int} {a : Ac} (h : Mid first arcs p x) (ha : a ∈ arcs) (hE : EndsIn first.length arcs) : ∀ y, Adm first arcs p y -> y a.2.1.toNat <= vat x a.1 + p a := by
 intro y hy
 have h1 := hy.cl a ha
 have h2 := h.most y hy a.1.toNat (by have := hE a ha; omega)
 unfold vat; omega
structure Fine (first : List Int) (arcs : List Ac) (p : Ac -> Int) : Prop where
 lo : ∀ v, v < first.length -> 0 <= first.getD v 0
 hi : ∀ v, v < first.length -> first.getD v 0 <= 1099511627776
 pl : ∀ a ∈ arcs, 0 <= p a /\ p a <= 1000
 en : EndsIn first.length arcs
theorem Mid.lo {first : List Int} {arcs : List Ac} {p : Ac -> Int} {x : List Int} (h : Mid first arcs p x) (f : Fine first arcs p) (v : Nat) (hv : v < first.length) : 0 <= x.getD v 0 :=
 h.most (fun _ => 0) ⟨f.lo, fun a ha => by have := f.pl a ha; show (0 : Int) <= 0 + p a; omega⟩ v hv
theorem Mid.hi {first : List Int} {arcs : List Ac} {p : Ac -> Int} {x : List Int} (h : Mid first arcs p x) (f : Fine first arcs p) (v : Nat) (hv : v < first.length) : x.getD v 0 <= 1099511627776 := Int.le_trans (h.le v hv) (f.hi v hv)
theorem Mid.bounds {first : List Int} {arcs : List Ac} {p : Ac -> Int} {x : List Int} (h : Mid first arcs p x) (f : Fine first arcs p) : ∀ z ∈ x, 0 <= z /\ z <= 1099511627776 := by
 intro z hz
 obtain ⟨i, hi, rfl⟩ := List.getElem_of_mem hz
 have a := h.lo f i (by rw [<- h.len]; exact hi)
 have b := h.hi f i (by rw [<- h.len]; exact hi)
 simp only [List.getD_eq_getElem?_getD, List.getElem?_eq_getElem hi, Option.getD_some] at a b
 exact ⟨a, b⟩
def msum : List Int -> Nat
 | [] => 0
 | z :: l => z.toNat + msum l
theorem msum_lt : ∀ (x y : List Int), x.length = y.length -> (∀ z ∈ x, 0 <= z) -> (∀ v, v < x.length -> x.getD v 0 <= y.getD v 0) -> x ≠ y -> msum x < msum y
 | [], [], _, _, _, h => absurd rfl h
 | a :: x, [], h, _, _, _ => by simp at h
 | [], b :: y, h, _, _, _ => by simp at h
 | a :: x, b :: y, h, h0, hl, hn => by
   have h2 := hl 0 (by simp)
   simp at h2
   have ha : 0 <= a := h0 a (by simp)
   have hl' : ∀ v, v < x.length -> x.getD v 0 <= y.getD v 0 := fun v hv => by have := hl (v + 1) (by simpa using hv); simpa using this
   by_cases e : x = y
   · subst e
     have : a ≠ b := fun h => hn (by rw [h])
     simp [msum]; omega
   · have h1 := msum_lt x y (by simpa using h) (fun z hz => h0 z (by simp [hz])) hl' e
     simp [msum]; omega
theorem msum_bound : ∀ (x : List Int), (∀ z ∈ x, z <= 1099511627776) -> msum x <= x.length * 1099511627776
 | [], _ => by simp [msum]
 | a :: x, h => by
   have h1 := msum_bound x (fun z hz => h z (by simp [hz]))
   have h2 := h a (by simp)
   simp only [msum, List.length_cons]; omega
def Seen (arcs : List Ac) (p : Ac -> Int) (x : List Int) (i : Nat) : Prop := ∀ j, (h : j < arcs.length) -> j < i -> vat x arcs[j].2.1 <= vat x arcs[j].1 + p arcs[j]
structure Turn (first : List Int) (arcs : List Ac) (p : Ac -> Int) (x z : List Int) (ch : Bool) (i : Nat) : Prop where
 mid : Mid first arcs p z
 same : ch = false -> z = x /\ Seen arcs p x i
 less : ch = true -> msum z < msum x
theorem turn_start {first : List Int} {arcs : List Ac} {p : Ac -> Int} {x : List Int} (h : Mid first arcs p x) : Turn first arcs p x x false 0 := ⟨h, fun _ => ⟨rfl, fun _ _ h => by omega⟩, fun h => by simp at h⟩
def rel1 (p : Ac -> Int) (back : Bool) (x z : List Int) (a : Ac) : List Int :=
 let z1 := z.set a.2.1.toNat (min (vat z a.2.1) (vat x a.1 + p a))
 if back = true then z1.set a.1.toNat (min (vat z1 a.1) (vat x a.2.1 + p a)) else z1
def rnd (arcs : List Ac) (p : Ac -> Int) (back : Bool) (x : List Int) : List Int := arcs.foldl (rel1 p back x) x
def rnds (arcs : List Ac) (p : Ac -> Int) (back : Bool) : Nat -> List Int -> List Int
 | 0, x => x
 | k + 1, x => rnd arcs p back (rnds arcs p back k x)
def bothW (arcs : List Ac) : List Ac := arcs.flatMap fun a => [a, (a.2.1, a.1, a.2.2)]
def ways (back : Bool) (arcs : List Ac) : List Ac := if back = true then bothW arcs else arcs
theorem mem_both {arcs : List Ac} {b : Ac} : b ∈ bothW arcs ↔ ∃ a ∈ arcs, b = a \/ b = (a.2.1, a.1, a.2.2) := by simp [bothW]
def Even (p : Ac -> Int) : Prop := ∀ a : Ac, p (a.2.1, a.1, a.2.2) = p a
theorem rel1_length (p : Ac -> Int) (back : Bool) (x z : List Int) (a : Ac) : (rel1 p back x z a).length = z.length := by
 unfold rel1; cases back <;> simp
theorem foldl_rel1_length (p : Ac -> Int) (back : Bool) (x : List Int) : ∀ (l : List Ac) (z : List Int), (l.foldl (rel1 p back x) z).length = z.length
 | [], _ => rfl
 | a :: l, z => by rw [List.foldl_cons, foldl_rel1_length p back x l, rel1_length]
theorem rnd_length (arcs : List Ac) (p : Ac -> Int) (back : Bool) (x : List Int) : (rnd arcs p back x).length = x.length := foldl_rel1_length _ _ _ _ _
theorem rnds_length (arcs : List Ac) (p : Ac -> Int) (back : Bool) : ∀ (k : Nat) (x : List Int), (rnds arcs p back k x).length = x.length
 | 0, _ => rfl
 | k + 1, x => by rw [rnds, rnd_length, rnds_length arcs p back k]
theorem fold_take (arcs : List Ac) (p : Ac -> Int) (back : Bool) (x : List Int) (i : Nat) (hi : i < arcs.length) : (arcs.take (i + 1)).foldl (rel1 p back x) x = rel1 p back x ((arcs.take i).foldl (rel1 p back x) x) arcs[i] := by
 rw [List.take_succ_eq_append_getElem hi, List.foldl_append]; rfl
structure Rn (first : List Int) (arcs : List Ac) (p : Ac -> Int) (back : Bool) (x z : List Int) (i : Nat) : Prop where
 mid : Mid first (ways back arcs) p z
 le : ∀ v, v < first.length -> z.getD v 0 <= x.getD v 0
 told : ∀ j, (h : j < arcs.length) -> j < i -> vat z arcs[j].2.1 <= vat x arcs[j].1 + p arcs[j] /\ (back = true -> vat z arcs[j].1 <= vat x arcs[j].2.1 + p arcs[j])
theorem mem_ways {back : Bool} {arcs : List Ac} {a : Ac} (h : a ∈ arcs) : a ∈ ways back arcs /\ (back = true -> (a.2.1, a.1, a.2.2) ∈ ways back arcs) := by
 unfold ways
 cases back
 · exact ⟨h, fun h => by simp at h⟩
 · exact ⟨mem_both.2 ⟨a, h, .inl rfl⟩, fun _ => mem_both.2 ⟨a, h, .inr rfl⟩⟩
theorem rn_start {first : List Int} {arcs : List Ac} {p : Ac -> Int} {back : Bool} {x : List Int} (h : Mid first (ways back arcs) p x) : Rn first arcs p back x x 0 := ⟨h, fun _ _ => Int.le_refl _, fun _ _ h => by omega⟩
theorem vat_set {x : List Int} {k : Nat} {m v : Int} (hk : k < x.length) : vat (x.set k m) v = if v.toNat = k then m else vat x v := by unfold vat; exact getD_set _ _ _ _ hk
theorem rn_next {first : List Int} {arcs : List Ac} {p : Ac -> Int} {back : Bool} {x z : List Int} {i : Nat} (f : Fine first (ways back arcs) p) (he : back = true -> Even p) (hx : Mid first (ways back arcs) p x) (R : Rn first arcs p back x z i) (hi : i < arcs.length) : Rn first arcs p back x (rel1 p back x z arcs[i]) (i + 1) := by
 have hm : arcs[i] ∈ arcs := List.getElem_mem hi
 obtain ⟨hw, hw2⟩ := mem_ways (back := back) hm
 have en := f.en _ hw
 have k1 : arcs[i].2.1.toNat < first.length := by omega
 have k2 : arcs[i].1.toNat < first.length := by omega
 have M1 : Mid first (ways back arcs) p (z.set arcs[i].2.1.toNat (min (vat z arcs[i].2.1) (vat x arcs[i].1 + p arcs[i]))) := by
   refine mid_set R.mid k1 (by unfold vat; omega) (fun y hy => ?_)
   have h1 := mid_arc hx hw f.en y hy
   have h2 := R.mid.most y hy _ k1
   unfold vat at h1 ⊢; omega
 have L1 : ∀ v, v < first.length -> (z.set arcs[i].2.1.toNat (min (vat z arcs[i].2.1) (vat x arcs[i].1 + p arcs[i]))).getD v 0 <= z.getD v 0 := by
   intro v hv
   rw [getD_set _ _ _ _ (by rw [R.mid.len]; exact k1)]
   by_cases e : v = arcs[i].2.1.toNat
   · rw [if_pos e, e]; unfold vat; omega
   · rw [if_neg e]; exact Int.le_refl _
 have V1 : vat (z.set arcs[i].2.1.toNat (min (vat z arcs[i].2.1) (vat x arcs[i].1 + p arcs[i]))) arcs[i].2.1 <= vat x arcs[i].1 + p arcs[i] := by
   rw [vat_set (by rw [R.mid.len]; exact k1), if_pos rfl]; omega
 unfold rel1
 generalize z.set arcs[i].2.1.toNat (min (vat z arcs[i].2.1) (vat x arcs[i].1 + p arcs[i])) = z1 at M1 L1 V1 ⊢
 have T1 : ∀ j, (h : j < arcs.length) -> j < i + 1 -> vat z1 arcs[j].2.1 <= vat x arcs[j].1 + p arcs[j] := by
   intro j hj hji
   by_cases e : j = i
   · subst e; exact V1
   · have hj2 := mem_ways (back := back) (List.getElem_mem hj)
     have := (R.told j hj (by omega)).1
     have h3 := L1 arcs[j].2.1.toNat (by have := f.en _ hj2.1; omega)
     unfold vat at this ⊢; omega
 cases back
 · simp only [Bool.false_eq_true, if_false]
   exact ⟨M1, fun v hv => Int.le_trans (L1 v hv) (R.le v hv), fun j hj hji => ⟨T1 j hj hji, fun h => by simp at h⟩⟩
 · simp only [if_true]
   have hev := he rfl
   have L2 : ∀ v, v < first.length -> (z1.set arcs[i].1.toNat (min (vat z1 arcs[i].1) (vat x arcs[i].2.1 + p arcs[i]))).getD v 0 <= z1.getD v 0 := by
     intro v hv
     rw [getD_set _ _ _ _ (by rw [M1.len]; exact k2)]
     by_cases e : v = arcs[i].1.toNat
     · rw [if_pos e, e]; unfold vat; omega
     · rw [if_neg e]; exact Int.le_refl _
   refine ⟨mid_set M1 k2 (by unfold vat; omega) (fun y hy => ?_), fun v hv => Int.le_trans (L2 v hv) (Int.le_trans (L1 v hv) (R.le v hv)), fun j hj hji => ⟨?_, fun _ => ?_⟩⟩
   · have h1 := mid_arc hx (hw2 rfl) f.en y hy
     have h2 := M1.most y hy _ k2
     simp only [hev arcs[i]] at h1
     unfold vat at h1 ⊢; omega
   · have h1 := T1 j hj hji
     have hj2 := mem_ways (back := true) (List.getElem_mem hj)
     have h3 := L2 arcs[j].2.1.toNat (by have := f.en _ hj2.1; omega)
     unfold vat at h1 h3 ⊢; omega
   · by_cases e : j = i
     · subst e; rw [vat_set (by rw [M1.len]; exact k2), if_pos rfl]; omega
     · have hj2 := mem_ways (back := true) (List.getElem_mem hj)
       have h1 := (R.told j hj (by omega)).2 rfl
       have h4 := L1 arcs[j].1.toNat (by have := f.en _ hj2.1; omega)
       have h3 := L2 arcs[j].1.toNat (by have := f.en _ hj2.1; omega)
       unfold vat at h1 h3 h4 ⊢; omega
theorem rn_fold {first : List Int} {arcs : List Ac} {p : Ac -> Int} {back : Bool} {x : List Int} (f : Fine first (ways back arcs) p) (he : back = true -> Even p) (hx : Mid first (ways back arcs) p x) : ∀ i, i <= arcs.length -> Rn first arcs p back x ((arcs.take i).foldl (rel1 p back x) x) i
 | 0, _ => by rw [List.take_zero]; exact rn_start hx
 | i + 1, h => by rw [fold_take _ _ _ _ _ (by omega)]; exact rn_next f he hx (rn_fold f he hx i (by omega)) (by omega)
theorem rn_round {first : List Int} {arcs : List Ac} {p : Ac -> Int} {back : Bool} {x : List Int} (f : Fine first (ways back arcs) p) (he : back = true -> Even p) (hx : Mid first (ways back arcs) p x) : Rn first arcs p back x (rnd arcs p back x) arcs.length := by
 have := rn_fold f he hx arcs.length (Nat.le_refl _)
 rw [List.take_length] at this; exact this
theorem rnd_less {first : List Int} {arcs : List Ac} {p : Ac -> Int} {back : Bool} {x : List Int} (f : Fine first (ways back arcs) p) (he : back = true -> Even p) (hx : Mid first (ways back arcs) p x) (h : ¬ rnd arcs p back x = x) : msum (rnd arcs p back x) < msum x := by
 have R := rn_round f he hx
 exact msum_lt _ _ (by rw [R.mid.len, hx.len]) (fun z hz => (R.mid.bounds f z hz).1) (fun v hv => R.le v (by rw [<- R.mid.len]; exact hv)) h
def vtx (n : Nat) (v : Int) : Bool := decide (0 <= v) && decide (v < (n : Int))
def alv (al : List Bool) (v : Int) : Bool := vtx al.length v && al.getD v.toNat false
theorem vtx_iff (n : Nat) (v : Int) : vtx n v = true ↔ 0 <= v /\ v < (n : Int) := by unfold vtx; simp
theorem alv_iff (al : List Bool) (v : Int) : alv al v = true ↔ 0 <= v /\ v < (al.length : Int) /\ al.getD v.toNat false = true := by
 unfold alv; rw [Bool.and_eq_true, vtx_iff]; exact ⟨fun ⟨⟨a, b⟩, c⟩ => ⟨a, b, c⟩, fun ⟨a, b, c⟩ => ⟨⟨a, b⟩, c⟩⟩
structure Shot (al : List Bool) (arcs : List Ac) : Prop where
 nv : al.length <= 12
 na : arcs.length <= 30
 ends : ∀ a ∈ arcs, alv al a.1 = true /\ alv al a.2.1 = true
 cost : ∀ a ∈ arcs, 0 <= a.2.2 /\ a.2.2 <= 1000
theorem Shot.en {al : List Bool} {arcs : List Ac} (S : Shot al arcs) : EndsIn al.length arcs := by
 intro a ha
 have h := S.ends a ha
 rw [alv_iff, alv_iff] at h
 omega
def firstL (al : List Bool) (f : Int -> Int) : List Int := (List.range al.length).map fun v => if al.getD v false = true then f v else 1099511627776
def fromF (from_ : Int) (v : Int) : Int := if v = from_ then 0 else 1099511627776
theorem firstL_length (al : List Bool) (f : Int -> Int) : (firstL al f).length = al.length := by simp [firstL]
theorem firstL_getD (al : List Bool) (f : Int -> Int) (v : Nat) (h : v < al.length) : (firstL al f).getD v 0 = if al.getD v false = true then f v else 1099511627776 := by
 unfold firstL
 rw [List.getD_eq_getElem?_getD, List.getElem?_map, List.getElem?_range h]; rfl
theorem firstL_take (al : List Bool) (f : Int -> Int) (k : Nat) (h : k < al.length) : (firstL al f).take (k + 1) = (firstL al f).take k ++ [if al.getD k false = true then f k else 1099511627776] := by
 rw [List.take_succ_eq_append_getElem (by rw [firstL_length]; exact h)]
 have := firstL_getD al f k h
 rw [List.getD_eq_getElem?_getD, List.getElem?_eq_getElem (by rw [firstL_length]; exact h)] at this
 simp only [Option.getD_some] at this
 rw [this]
theorem Shot.fine {al : List Bool} {arcs : List Ac} (S : Shot al arcs) {f : Int -> Int} {p : Ac -> Int} (hf : ∀ v : Nat, v < al.length -> 0 <= f v /\ f v <= 1099511627776) (hp : ∀ a ∈ arcs, 0 <= p a /\ p a <= 1000) : Fine (firstL al f) arcs p := by
 refine ⟨fun v hv => ?_, fun v hv => ?_, hp, by rw [firstL_length]; exact S.en⟩
 · rw [firstL_length] at hv
   rw [firstL_getD _ _ _ hv]
   split
   · exact (hf v hv).1
   · omega
 · rw [firstL_length] at hv
   rw [firstL_getD _ _ _ hv]
   split
   · exact (hf v hv).2
   · omega
theorem Shot.bothW {al : List Bool} {arcs : List Ac} (S : Shot al arcs) {f : Int -> Int} {p : Ac -> Int} (hf : ∀ v : Nat, v < al.length -> 0 <= f v /\ f v <= 1099511627776) (hp : ∀ a : Ac, a ∈ arcs -> 0 <= p a /\ p a <= 1000) (he : Even p) : Fine (firstL al f) (bothW arcs) p := by
 have F := S.fine hf hp
 refine ⟨F.lo, F.hi, fun b hb => ?_, fun b hb => ?_⟩
 · obtain ⟨a, ha, rfl | rfl⟩ := mem_both.1 hb
   · exact hp _ ha
   · rw [he a]; exact hp a ha
 · obtain ⟨a, ha, rfl | rfl⟩ := mem_both.1 hb
   · exact F.en _ ha
   · have := F.en a ha; exact ⟨this.2.2.1, this.2.2.2, this.1, this.2.1⟩
theorem fromF_bounds (from_ : Int) (v : Nat) : 0 <= fromF from_ v /\ fromF from_ v <= 1099511627776 := by unfold fromF; split <;> omega
def priceOf (prog : Nat) (a : Ac) : Int := if prog = 1 then 1 else if prog = 2 then a.2.2 else 0
theorem Tryz.infoBool : (Seq.prog.info? 4).map (fun i => (i.zero, i.size, i.bytes)) = some (some (.bool false), 1, 1) := by kernel_rfl
theorem Tryz.infoArc : (Seq.prog.info? 72).map (fun i => (i.zero, i.size, i.bytes)) = some (some (.agg #[.int .i64 0, .int .i64 0, .int .i64 0]), 3, 24) := by kernel_rfl
def BsAt (w : World) (ao : Option Addr) (l : List Bool) : Prop :=
 l = [] \/ ∃ b off, ao = some ⟨b, off, none⟩ /\ b < w.heap.size /\ ∀ j, j < l.length -> w.cell? ⟨b, off + j, none⟩ = some (.bool (l.getD j false))
theorem BsAt.below {w w' : World} {ao : Option Addr} {l : List Bool} (h : BsAt w ao l) (hb : Below w.heap.size w w') : BsAt w' ao l := by
 rcases h with h | ⟨b, off, rfl, hlt, hc⟩
 · exact .inl h
 · refine .inr ⟨b, off, rfl, Nat.lt_of_lt_of_le hlt hb.size, fun j hj => ?_⟩
   rw [hb.cell (p := ⟨b, off + j, none⟩) hlt]
   exact hc j hj
theorem bsAt_of_owns {w : World} {base e : Nat} {v : Value} {n : Nat} {l : List Bool} (h : w.ownsRow base e 1 v n (l.map Value.bool)) : ∃ ao cap, v = .slice ao l.length cap /\ BsAt w ao l := by
 obtain ⟨h1, h2⟩ := h
 simp only [List.length_map, Nat.mul_one] at h1
 subst h1
 rcases h2 with ⟨rfl, h0⟩ | ⟨g, cap, cur, rfl, hb, hh, h3, h4, h5, h6⟩
 · exact ⟨none, 0, by rw [h0], .inl (List.eq_nil_of_length_eq_zero h0)⟩
 · refine ⟨_, cap, rfl, .inr ⟨g, 0, rfl, (Array.getElem?_eq_some_iff.1 hh).1, fun j hj => ?_⟩⟩
   have := World.ownsRow.cellAt (w := w) (base := base) (e := e) (size := 1) (xs := l.map Value.bool) ⟨by simp, .inr ⟨g, cap, cur, rfl, hb, hh, h3, h4, h5, h6⟩⟩ j (by omega)
   rw [Nat.zero_add, this, List.getElem?_map, List.getD_eq_getElem?_getD, List.getElem?_eq_getElem hj]
   rfl
theorem hidep {p : Prop} (h : p) : Hid p := h
theorem retp_bool {a b : Bool} (h : a = b) : Ending.returned (.bool a) = .returned (.bool b) := by rw [h]
theorem PcAt.at3 {w : World} {b off : Nat} {m : List (Int × Int × Int)} {k : Nat} (hk : k < m.length) (hc : ∀ j, j < m.length -> w.cell? ⟨b, off + j * 3, none⟩ = some (.int .i64 (m.getD j (0, 0, 0)).1) /\ w.cell? ⟨b, off + j * 3 + 1, none⟩ = some (.int .i64 (m.getD j (0, 0, 0)).2.1) /\ w.cell? ⟨b, off + j * 3 + 2, none⟩ = some (.int .i64 (m.getD j (0, 0, 0)).2.2)) :
   w.cell? ⟨b, off + k * 3, none⟩ = some (.int .i64 m[k].1) /\ w.cell? ⟨b, off + k * 3 + 1, none⟩ = some (.int .i64 m[k].2.1) /\ w.cell? ⟨b, off + k * 3 + 2, none⟩ = some (.int .i64 m[k].2.2) := by
 have h := hc k hk
 simpa only [List.getD_eq_getElem?_getD, List.getElem?_eq_getElem hk, Option.getD_some] using h
theorem BsAt.at1 {w : World} {b off : Nat} {l : List Bool} {k : Nat} (hk : k < l.length) (hc : ∀ j, j < l.length -> w.cell? ⟨b, off + j, none⟩ = some (.bool (l.getD j false))) : w.cell? ⟨b, off + k, none⟩ = some (.bool l[k]) := by
 have h := hc k hk
 simpa only [List.getD_eq_getElem?_getD, List.getElem?_eq_getElem hk, Option.getD_some] using h
def legV (o : Option Lg) : Value := .tuple #[.agg #[.int .i64 (o.getD (0, 0, 0, 0)).1, .int .i64 (o.getD (0, 0, 0, 0)).2.1, .int .i64 (o.getD (0, 0, 0, 0)).2.2.1, .int .i64 (o.getD (0, 0, 0, 0)).2.2.2], .bool o.isSome]
set_option maxRecDepth 100000 in
set_option maxHeartbeats 4000000 in
theorem rleg_any (A B : Int) (lo : Option Addr) (lcap : Nat) (legs : List Lg) (t : Int) (w : World) (hL : LgAt w lo legs) (hn : legs.length <= 9223372036854775806) :
   Calls Seq.prog 29 #[.agg #[.int .i64 A, .int .i64 B, .slice lo legs.length lcap], .int .i64 t] w fun r w' => r = .returned (legV (lgFind t legs)) /\ Below w.heap.size w w' := by
 have HB : Hid (∀ o o', Below w.heap.size w ((w.alloc o).alloc o')) := fun o o' => ptg (gal w o) (gal _ o')
 go_enter Seq.func29, Tryz.ntmps29
 go_wp2
 go_loopw [6] (fun i wr => ∃ k : Nat, k <= legs.length /\ i = .int .i64 k /\ lgFind t legs = lgFind t (legs.drop k) /\ Below (w.heap.size + 2) ((w.alloc (.cells #[.int .i64 A, .int .i64 B, .slice lo legs.length lcap] 66)).alloc (.cells #[.int .i64 0, .int .i64 0, .int .i64 0, .int .i64 0] 68)) wr) (fun i _ => legs.length - (intOf i).toNat)
 case atStart => exact ⟨0, Nat.zero_le _, rfl, rfl, Below.refl _ _⟩
 case round =>
   obtain ⟨k, hk, rfl, hI, hb⟩ := hrel
   have HI := hideg hI
   clear hI
   have hbw : Below w.heap.size w wr := (HB.out _ _).trans (hb.mono (by omega))
   have hz := hb.size
   simp only [World.size_alloc] at hz
   have hz0 : w.heap.size < wr.heap.size := by omega
   have hz1 : w.heap.size + 1 < wr.heap.size := by omega
   have q2 : wr.cell? ⟨w.heap.size, 2, none⟩ = some (.slice lo legs.length lcap) := by rw [hb.cell (p := ⟨w.heap.size, 2, none⟩) (by simp)]; simp
   have r0 : wr.cell? ⟨w.heap.size + 1, 0, none⟩ = some (.int .i64 0) := by rw [hb.cell (p := ⟨w.heap.size + 1, 0, none⟩) (by simp)]; simp
   have r1 : wr.cell? ⟨w.heap.size + 1, 1, none⟩ = some (.int .i64 0) := by rw [hb.cell (p := ⟨w.heap.size + 1, 1, none⟩) (by simp)]; simp
   have r2 : wr.cell? ⟨w.heap.size + 1, 2, none⟩ = some (.int .i64 0) := by rw [hb.cell (p := ⟨w.heap.size + 1, 2, none⟩) (by simp)]; simp
   have r3 : wr.cell? ⟨w.heap.size + 1, 3, none⟩ = some (.int .i64 0) := by rw [hb.cell (p := ⟨w.heap.size + 1, 3, none⟩) (by simp)]; simp
   have f0 : ∀ j, wr.frozen? ⟨w.heap.size + 1, j, none⟩ = false := fun j => by rw [hb.frozen (p := ⟨w.heap.size + 1, j, none⟩) (by simp)]; simp
   by_cases hlt : k < legs.length
   · rcases hL.below hbw with h0 | ⟨b, off, rfl, hbr, hc⟩
     · subst h0; simp at hlt
     obtain ⟨c0, c1, c2, c3⟩ := LgAt.get hlt hc
     clear hc hL
     by_cases g1 : legs[k].1 <= t
     · by_cases g2 : t < legs[k].2.1
       · have HR := hideg (lgFind_hit hlt HI.out ((hasB_iff _ _ _).2 ⟨g1, g2⟩))
         go_wp2
         refine bodyPost_ret (v := legV (some legs[k])) (by simp [results, Tryz.results29, go_sem, legV, r0, r1, r2, r3]) rfl ⟨by rw [HR.out], ?_⟩
         exact ((((hbw.setCell (p := ⟨w.heap.size + 1, 0, none⟩) (by simp) _).setCell (p := ⟨w.heap.size + 1, 1, none⟩) (by simp) _).setCell (p := ⟨w.heap.size + 1, 2, none⟩) (by simp) _).setCell (p := ⟨w.heap.size + 1, 3, none⟩) (by simp) _)
       · have HR := hideg (lgFind_next hlt HI.out (hasB_no (by omega)))
         go_wp2
         go_roundw
         case rel => exact ⟨k + 1, by omega, by go_num, HR.out, hb⟩
         case measure => simp [intOf]; omega
     · have HR := hideg (lgFind_next hlt HI.out (hasB_no (by omega)))
       go_wp2
       go_roundw
       case rel => exact ⟨k + 1, by omega, by go_num, HR.out, hb⟩
       case measure => simp [intOf]; omega
   · have hkl : k = legs.length := by omega
     subst hkl
     have HR := hideg (lgFind_end HI.out)
     go_wp2
     refine bodyPost_ret (v := legV none) (by simp [results, Tryz.results29, go_sem, legV, r0, r1, r2, r3]) rfl ⟨by rw [HR.out], ?_⟩
     exact ((((hbw.setCell (p := ⟨w.heap.size + 1, 0, none⟩) (by simp) _).setCell (p := ⟨w.heap.size + 1, 1, none⟩) (by simp) _).setCell (p := ⟨w.heap.size + 1, 2, none⟩) (by simp) _).setCell (p := ⟨w.heap.size + 1, 3, none⟩) (by simp) _)
set_option maxRecDepth 100000 in
set_option maxHeartbeats 1000000 in
theorem Alive_any (h : Int) (la ea : Option Addr) (lc ne ec : Nat) (lives : List (Int × Int)) (v : Nat) (t : Int) (w : World) (hl : IvAt w la lives) (hv : v < lives.length) (hn : lives.length <= 9223372036854775807) :
   Calls Seq.prog 28 #[.agg #[.int .i64 h, .slice la lives.length lc, .slice ea ne ec], .int .i64 v, .int .i64 t] w fun r w' => r = .returned (.bool (aliveB t lives v)) /\ Below w.heap.size w w' := by
 have HB := hideg (gal w)
 rcases hl with h0 | ⟨b, off, rfl, hbr, hc⟩
 · subst h0; simp at hv
 obtain ⟨c0, c1⟩ := IvAt.get hv hc
 have HA := hideg (aliveB_at t lives v hv)
 clear hc
 have i1 : (v : Int) < (lives.length : Int) := by omega
 have i2 : (0 : Int) <= (v : Int) := by omega
 by_cases g1 : lives[v].1 <= t
 · by_cases g2 : t < lives[v].2
   · have HR := hideg ((hasB_iff _ _ _).2 ⟨g1, g2⟩)
     go_enter Seq.func28, Tryz.ntmps28
     go_wp2
     go_ret
     exact ⟨ret_bool (by rw [HA.out, HR.out]), HB.out _⟩
   · have HR := hideg (hasB_no (a := lives[v].1) (b := lives[v].2) (t := t) (by omega))
     go_enter Seq.func28, Tryz.ntmps28
     go_wp2
     go_ret
     exact ⟨ret_bool (by rw [HA.out, HR.out]), HB.out _⟩
 · have HR := hideg (hasB_no (a := lives[v].1) (b := lives[v].2) (t := t) (by omega))
   go_enter Seq.func28, Tryz.ntmps28
   go_wp2
   go_ret
   exact ⟨ret_bool (by rw [HA.out, HR.out]), HB.out _⟩
theorem lgFind_mem {t : Int} {ls : List Lg} {l : Lg} (h : lgFind t ls = some l) : l ∈ ls /\ l.1 <= t /\ t < l.2.1 := by
 induction ls with
 | nil => cases h
 | cons x ls ih =>
   rw [lgFind] at h
   split at h
   · rename_i hx; cases h; exact ⟨by simp, (hasB_iff _ _ _).1 hx⟩
   · have := ih h; exact ⟨by simp [this.1], this.2⟩
theorem wrap_nr (n : Int) (h0 : -9223372036854775808 <= n) (h1 : n < 9223372036854775808) : IntKind.i64.wrap n = n := by
 simp only [IntKind.wrap, IntKind.bits, IntKind.signed]
 simp
 omega
structure GBox (w W : World) (B : Nat) (g : Gr) (la ea : Option Addr) (lc ec : Nat) : Prop where
 c0 : W.cell? ⟨B, 0, none⟩ = some (.int .i64 g.hor)
 c1 : W.cell? ⟨B, 1, none⟩ = some (.slice la g.lives.length lc)
 c2 : W.cell? ⟨B, 2, none⟩ = some (.slice ea g.edges.length ec)
 bel : Below w.heap.size w W
 lt : B < W.heap.size
theorem gbox_start (w : World) (g : Gr) (la ea : Option Addr) (lc ec : Nat) (T : TypeId) : GBox w (w.alloc (.cells #[.int .i64 g.hor, .slice la g.lives.length lc, .slice ea g.edges.length ec] T)) w.heap.size g la ea lc ec :=
 ⟨by simp, by simp, by simp, gal w _, by simp⟩
theorem GBox.below {w W W' : World} {B : Nat} {g : Gr} {la ea : Option Addr} {lc ec : Nat} (h : GBox w W B g la ea lc ec) (hb : Below W.heap.size W W') : GBox w W' B g la ea lc ec :=
 ⟨(hb.cell (p := ⟨B, 0, none⟩) h.lt).trans h.c0, (hb.cell (p := ⟨B, 1, none⟩) h.lt).trans h.c1, (hb.cell (p := ⟨B, 2, none⟩) h.lt).trans h.c2, ptg h.bel hb, Nat.lt_of_lt_of_le h.lt hb.size⟩
def askE (g : Gr) (p v : Int) : Int := if gChk g = 0 then if inR p 1 3 = true then if p = 3 then 0 else if inR v 0 ((g.lives.length : Int) - 1) = true then 0 else 4 else 1 else gChk g
set_option maxRecDepth 100000 in
set_option maxHeartbeats 2000000 in
theorem Asked_any (g : Gr) (la ea : Option Addr) (lc ec : Nat) (p v : Int) (w : World) (hG : GAt w la ea g) :
   Calls Seq.prog 4 #[.agg #[.int .i64 g.hor, .slice la g.lives.length lc, .slice ea g.edges.length ec], .int .i64 p, .int .i64 v] w fun r w' => r = .returned (.int .i64 (askE g p v)) /\ Below w.heap.size w w' := by
 have B0 := gbox_start w g la ea lc ec 25
 have h1 := RGraph_any g la ea lc ec _ (hG.below B0.bel)
 by_cases e1 : gChk g = 0
 · have hR := gChk_right e1
   have hlv := hR.lvs
   have hw1 : IntKind.i64.wrap ((g.lives.length : Int) - 1) = (g.lives.length : Int) - 1 := wrap_nr _ (by omega) (by omega)
   have i1 := fun W => In_any p 1 3 W
   have i2 := fun W => In_any v 0 ((g.lives.length : Int) - 1) W
   have HP : Hid (askE g p v = if inR p 1 3 = true then if p = 3 then 0 else if inR v 0 ((g.lives.length : Int) - 1) = true then 0 else 4 else 1) := by show _ = _; unfold askE; rw [if_pos e1]
   rw [e1] at h1
   clear hG hR e1
   cases q1 : inR p 1 3 with
   | false =>
     rw [q1] at HP i1
     clear q1 i2
     go_enter Seq.func4, Tryz.ntmps4
     go_wp2_with fail
     refine h1.mono ?_
     rintro e w1 ⟨rfl, hb1⟩
     have hbF := (B0.below hb1).bel
     clear h1 hb1 B0
     go_wp2_with (go_at_call 12; refine (i1 _).mono ?_; rintro e w' ⟨rfl, rfl⟩)
     go_ret
     exact ⟨ret_int HP.out.symm, by assumption⟩
   | true =>
     rw [q1] at HP i1
     clear q1
     by_cases h3 : p = 3
     · have d3 : (p != 3) = false := by simpa using h3
       have HP3 : Hid (askE g p v = 0) := by show _ = _; rw [HP.out, if_pos rfl, if_pos h3]
       clear HP h3 i2
       go_enter Seq.func4, Tryz.ntmps4
       go_wp2_with fail
       refine h1.mono ?_
       rintro e w1 ⟨rfl, hb1⟩
       have hbF := (B0.below hb1).bel
       clear h1 hb1 B0
       go_wp2_with (go_at_call 12; refine (i1 _).mono ?_; rintro e w' ⟨rfl, rfl⟩)
       go_ret
       exact ⟨ret_int HP3.out.symm, by assumption⟩
     · have d3 : (p != 3) = true := by simpa using h3
       have HP3 : Hid (askE g p v = if inR v 0 ((g.lives.length : Int) - 1) = true then 0 else 4) := by show _ = _; rw [HP.out, if_pos rfl, if_neg h3]
       clear HP h3
       cases q2 : inR v 0 ((g.lives.length : Int) - 1) with
       | false =>
         rw [q2] at HP3 i2
         clear q2
         go_enter Seq.func4, Tryz.ntmps4
         go_wp2_with fail
         refine h1.mono ?_
         rintro e w1 ⟨rfl, hb1⟩
         have B1 := B0.below hb1
         have cc1 := B1.c1
         have hbF := B1.bel
         clear h1 hb1 B1 B0
         go_wp2_with fail
         refine (i1 _).mono ?_
         rintro e w' ⟨rfl, hw'⟩
         have hws := hw'.symm
         subst hws
         clear hw'
         go_wp2_with (go_at_call 12; refine (i2 _).mono ?_; rintro e w' ⟨rfl, rfl⟩)
         go_ret
         exact ⟨ret_int HP3.out.symm, by assumption⟩
       | true =>
         rw [q2] at HP3 i2
         clear q2
         go_enter Seq.func4, Tryz.ntmps4
         go_wp2_with fail
         refine h1.mono ?_
         rintro e w1 ⟨rfl, hb1⟩
         have B1 := B0.below hb1
         have cc1 := B1.c1
         have hbF := B1.bel
         clear h1 hb1 B1 B0
         go_wp2_with fail
         refine (i1 _).mono ?_
         rintro e w' ⟨rfl, hw'⟩
         have hws := hw'.symm
         subst hws
         clear hw'
         go_wp2_with (go_at_call 12; refine (i2 _).mono ?_; rintro e w' ⟨rfl, rfl⟩)
         go_ret
         exact ⟨ret_int HP3.out.symm, by assumption⟩
 · have HP : Hid (askE g p v = gChk g) := by show _ = _; unfold askE; rw [if_neg e1]
   have d1 : (gChk g != 0) = true := by simpa using e1
   generalize gChk g = n at *
   clear hG e1
   go_enter Seq.func4, Tryz.ntmps4
   go_wp2_with fail
   refine h1.mono ?_
   rintro e w1 ⟨rfl, hb1⟩
   have hbF := (B0.below hb1).bel
   clear h1 hb1 B0
   go_wp2
   go_ret
   exact ⟨ret_int HP.out.symm, hbF⟩
open Go
def fwdB (ops : Array Oper) : Bool := (List.range ops.size).all fun j => match ops[j]? with
 | some o => o.guard.isNone && o.after.all fun e => !Region.binds .any e || decide (e.on < j)
 | none => true
def lastB (ops : Array Oper) (st : Oper) : Bool := st.guard.isNone && (st.after.all (fun e => !Region.binds .any e || decide (e.on < ops.size)) && (List.range ops.size).all fun j =>
 st.after.any (fun e => Region.binds .any e && e.on == j) || (List.range ops.size).any fun k => decide (j < k) && match ops[k]? with
   | some o => o.after.any fun e => Region.binds .any e && e.on == j
   | none => false)
theorem fwd_spec {ops : Array Oper} (h : fwdB ops = true) {j : Nat} {o : Oper} (hj : ops[j]? = some o) : o.guard = none /\ ∀ e ∈ o.after, Region.binds .any e = true -> e.on < j := by
 have hlt : j < ops.size := (Array.getElem?_eq_some_iff.1 hj).1
 have := List.all_eq_true.1 h j (List.mem_range.2 hlt)
 simp only [hj, Bool.and_eq_true, Option.isNone_iff_eq_none, Array.all_eq_true_iff_forall_mem] at this
 refine ⟨this.1, fun e he hb => ?_⟩
 have h2 := this.2 e he
 rw [hb] at h2
 simpa using h2
def Closed (ops : Array Oper) (listed : Array Bool) : Prop := ∀ (j : Nat) (o : Oper), ops[j]? = some o -> listed.getD j true = true -> ∀ e ∈ o.after, Region.binds .any e = true -> listed.getD e.on false = true
theorem all_listed {ops : Array Oper} {listed : Array Bool} (hf : fwdB ops = true) (hsz : listed.size = ops.size) (hr : Region.ready .any ops listed = []) : ∀ j, j < ops.size -> listed.getD j false = true := by
 intro j
 induction j using Nat.strongRecOn with
 | _ j ih =>
   intro hj
   have ho : ops[j]? = some ops[j] := Array.getElem?_eq_getElem hj
   cases hl : listed.getD j false with
   | true => rfl
   | false =>
     have hm : j ∈ Region.ready .any ops listed := by
       rw [mem_ready]
       have hj' : j < listed.size := by omega
       refine ⟨by simpa [hj'] using hl, _, ho, fun e he hb => ?_⟩
       have := (fwd_spec hf ho).2 e he hb
       exact ih e.on this (by omega)
     rw [hr] at hm
     cases hm
theorem arr_any {α : Type} {l : Array α} {p : α -> Bool} (h : l.any p = true) : ∃ e ∈ l, p e = true := by
 rw [<- Array.any_toList] at h
 obtain ⟨e, he, h2⟩ := List.any_eq_true.1 h
 exact ⟨e, by simpa using he, h2⟩
theorem last_waits {ops : Array Oper} {st : Oper} {listed : Array Bool} (hl : lastB ops st = true) (hc : Closed ops listed) (hsz : listed.size = ops.size) (hs : ∀ e ∈ st.after, Region.binds .any e = true -> e.on < ops.size -> listed.getD e.on false = true) : ∀ d j, j + d = ops.size -> j < ops.size -> listed.getD j false = true := by
 simp only [lastB, Bool.and_eq_true] at hl
 intro d
 induction d using Nat.strongRecOn with
 | _ d ih =>
   intro j hd hj
   have h1 := List.all_eq_true.1 hl.2.2 j (List.mem_range.2 hj)
   rw [Bool.or_eq_true] at h1
   rcases h1 with h1 | h1
   · obtain ⟨e, he, h2⟩ := arr_any h1
     rw [Bool.and_eq_true, beq_iff_eq] at h2
     rw [<- h2.2]
     exact hs e he h2.1 (by rw [h2.2]; exact hj)
   · obtain ⟨k, hk, h2⟩ := List.any_eq_true.1 h1
     rw [List.mem_range] at hk
     rw [Bool.and_eq_true, decide_eq_true_eq] at h2
     have ho : ops[k]? = some ops[k] := Array.getElem?_eq_getElem hk
     simp only [ho] at h2
     obtain ⟨e, he, h3⟩ := arr_any h2.2
     rw [Bool.and_eq_true, beq_iff_eq] at h3
     have hkl := ih (d - (k - j)) (by omega) k (by omega) hk
     rw [<- h3.2]
     refine hc k _ ho ?_ e he h3.1
     have hk' : k < listed.size := by omega
     simpa [hk'] using hkl
theorem getD_push {l : Array Bool} {j : Nat} (d : Bool) (h : j < l.size) : (l.push false).getD j d = l.getD j d := by
 have h' : j < (l.push false).size := by simp; omega
 unfold Array.getD
 rw [dif_pos h', dif_pos h]
 exact Array.getElem_push_lt h
theorem getElem_pushO {ops : Array Oper} {st : Oper} {j : Nat} (h : j < ops.size) : (ops.push st)[j]? = ops[j]? := by
 rw [Array.getElem?_push, if_neg (by omega)]
theorem ready_push {ops : Array Oper} {st : Oper} {listed : Array Bool} (hf : fwdB ops = true) (hl : lastB ops st = true) (hc : Closed ops listed) (hsz : listed.size = ops.size) (hne : Region.ready .any ops listed ≠ []) (i : Nat) :
   i ∈ Region.ready .any (ops.push st) (listed.push false) ↔ i ∈ Region.ready .any ops listed := by
 rw [mem_ready, mem_ready]
 rcases Nat.lt_trichotomy i ops.size with hi | hi | hi
 · rw [getD_push true (by omega), getElem_pushO hi]
   refine and_congr_right fun _ => exists_congr fun o => and_congr_right fun ho => forall_congr' fun e => forall_congr' fun he => forall_congr' fun hb => ?_
   have := (fwd_spec hf ho).2 e he hb
   rw [getD_push false (by omega)]
 · subst hi
   constructor
   · rintro ⟨_, o, ho, hall⟩
     have ho' : o = st := by
       rw [Array.getElem?_push, if_pos rfl] at ho
       exact (Option.some.inj ho).symm
     subst ho'
     exfalso
     apply hne
     have hall2 := last_waits hl hc hsz (fun e he hb hlt => by have := hall e he hb; rwa [getD_push false (by omega)] at this)
     apply List.eq_nil_iff_forall_not_mem.2
     intro j hj
     rw [mem_ready] at hj
     obtain ⟨h0, o, hoj, _⟩ := hj
     have hjlt : j < ops.size := (Array.getElem?_eq_some_iff.1 hoj).1
     have h1 := hall2 (ops.size - j) j (by omega) hjlt
     have hj' : j < listed.size := by omega
     simp [hj'] at h0 h1
     rw [h0] at h1
     cases h1
   · rintro ⟨_, o, ho, _⟩
     rw [Array.getElem?_eq_none (Nat.le_refl _)] at ho
     cases ho
 · constructor
   · rintro ⟨_, o, ho, _⟩
     rw [Array.getElem?_eq_none (by simp; omega)] at ho
     cases ho
   · rintro ⟨_, o, ho, _⟩
     rw [Array.getElem?_eq_none (by omega)] at ho
     cases ho
theorem ready_last {ops : Array Oper} {st : Oper} {listed : Array Bool} (hl : lastB ops st = true) (hsz : listed.size = ops.size) (hall : ∀ j, j < ops.size -> listed.getD j false = true) (i : Nat) :
   i ∈ Region.ready .any (ops.push st) (listed.push false) ↔ i = ops.size := by
 rw [mem_ready]
 simp only [lastB, Bool.and_eq_true] at hl
 rcases Nat.lt_trichotomy i ops.size with hi | hi | hi
 · have h1 := hall i hi
   have hi' : i < listed.size := by omega
   constructor
   · rintro ⟨h0, _⟩
     rw [getD_push true hi'] at h0
     simp [hi'] at h0 h1
     rw [h0] at h1
     cases h1
   · intro h; omega
 · subst hi
   refine ⟨fun _ => rfl, fun _ => ⟨by simp [<- hsz], st, by rw [Array.getElem?_push, if_pos rfl], fun e he hb => ?_⟩⟩
   have h2 := Array.all_eq_true_iff_forall_mem.1 hl.2.1 e he
   rw [hb] at h2
   have h3 : e.on < ops.size := by simpa using h2
   rw [getD_push false (by omega)]
   exact hall e.on h3
 · constructor
   · rintro ⟨_, o, ho, _⟩
     rw [Array.getElem?_eq_none (by simp; omega)] at ho
     cases ho
   · intro h; omega
theorem ready_done {ops : Array Oper} {st : Oper} {listed : Array Bool} (hsz : listed.size = ops.size) (hall : ∀ j, j < ops.size -> listed.getD j false = true) : Region.ready .any (ops.push st) ((listed.push false).setIfInBounds ops.size true) = [] := by
 apply List.eq_nil_iff_forall_not_mem.2
 intro j hj
 rw [mem_ready] at hj
 obtain ⟨h0, o, hoj, _⟩ := hj
 have hjlt : j < ops.size + 1 := by simpa using (Array.getElem?_eq_some_iff.1 hoj).1
 by_cases e : j = ops.size
 · subst e
   simp [hsz] at h0
 · have hj' : j < listed.size := by omega
   have h1 := hall j (by omega)
   have h2 : ((listed.push false).setIfInBounds ops.size true).getD j true = (listed.push false).getD j true := by
     exact getD_set_ne true (Ne.symm e)
   rw [h2, getD_push true hj'] at h0
   simp [hj'] at h0 h1
   rw [h0] at h1
   cases h1
def BackQ (P : Program) (st : Oper) (Q : Exit -> Act -> World -> Prop) : Exit -> Act -> World -> Prop
 | .normal, a, w => st.wp P a w (fun a' w' => Q .normal a' w') Q
 | e, a, w => Q e a w
theorem wp_back {P : Program} {o st : Oper} {Q : Exit -> Act -> World -> Prop} {K K' : Act -> World -> Prop} {a : Act} {w : World} (hK : ∀ a w, K a w -> K' a w) (h : o.wp P a w K (BackQ P st Q)) : o.wp P a w K' Q := by
 unfold Oper.wp at *
 generalize (execOp a.eval o).run P w = r at *
 cases r with
 | ok n w' =>
   cases n <;> simp only [Oper.upon] at h ⊢ <;>
     first
       | exact hK _ _ h
       | exact Calls.mono h (fun e w'' he => by cases e <;> first | exact hK _ _ he | exact he)
       | exact Rows.mono h (fun _ _ he => hK _ _ he)
 | halt x w' => cases x <;> simp only [Oper.upon] at h ⊢ <;> exact h
theorem pop_sound {P : Program} {ops : Array Oper} {st : Oper} {Q : Exit -> Act -> World -> Prop} (hf : fwdB ops = true) (hl : lastB ops st = true) : ∀ (fuel : Nat) (listed : Array Bool) (a : Act) (w : World), listed.size = ops.size -> Closed ops listed ->
   wpAny P .any ops (BackQ P st Q) fuel listed a w -> wpAny P .any (ops.push st) Q (fuel + 1) (listed.push false) a w := by
 have hgd : st.guard = none := by
   simp only [lastB, Bool.and_eq_true, Option.isNone_iff_eq_none] at hl
   exact hl.1
 have fin : ∀ (fuel : Nat) (listed : Array Bool) (a : Act) (w : World), listed.size = ops.size -> Region.ready .any ops listed = [] -> BackQ P st Q .normal a w -> wpAny P .any (ops.push st) Q (fuel + 1) (listed.push false) a w := by
   intro fuel listed a w hsz hr hq
   have hall := all_listed hf hsz hr
   refine ⟨fun h => ?_, fun i hi => ?_⟩
   · have := (ready_last (st := st) hl hsz hall ops.size).2 rfl
     rw [h] at this
     cases this
   · rw [ready_last hl hsz hall] at hi
     subst hi
     have ho : (ops.push st)[ops.size]? = some st := by rw [Array.getElem?_push, if_pos rfl]
     unfold wpOp
     simp only [ho, Region.wanted, hgd, if_true]
     refine .inl (Oper.wp_mono (fun a' w' h => ?_) hq)
     have hd := ready_done (st := st) hsz hall
     cases fuel with
     | zero => exact ⟨hd, h⟩
     | succ n => exact ⟨fun _ => h, by rw [hd]; simp⟩
 intro fuel
 induction fuel with
 | zero =>
   intro listed a w hsz hc h
   exact fin 0 listed a w hsz h.1 h.2
 | succ fuel ih =>
   intro listed a w hsz hc h
   by_cases hr : Region.ready .any ops listed = []
   · exact fin (fuel + 1) listed a w hsz hr (h.1 hr)
   · refine ⟨fun h0 => ?_, fun i hi => ?_⟩
     · exfalso
       apply hr
       apply List.eq_nil_iff_forall_not_mem.2
       intro j hj
       have := (ready_push hf hl hc hsz hr j).2 hj
       rw [h0] at this
       cases this
     · have hi' := (ready_push hf hl hc hsz hr i).1 hi
       have h1 := h.2 i hi'
       obtain ⟨hun, o, ho, hdep⟩ := mem_ready.1 hi'
       have hilt : i < ops.size := (Array.getElem?_eq_some_iff.1 ho).1
       have ho' : (ops.push st)[i]? = some o := by rw [getElem_pushO hilt]; exact ho
       have hg := (fwd_spec hf ho).1
       have eset : (listed.push false).setIfInBounds i true = (listed.setIfInBounds i true).push false := by
         apply Array.ext_getElem?
         intro k
         rw [Array.getElem?_setIfInBounds, Array.getElem?_push, Array.getElem?_push, Array.getElem?_setIfInBounds]
         have hil : i < listed.size := by omega
         by_cases h3 : i = k
         · subst h3
           simp [hil, Nat.ne_of_lt hil]
           omega
         · simp [h3]
       have hc' : Closed ops (listed.setIfInBounds i true) := by
         intro j oj hoj hlj e he hb
         by_cases hij : i = j
         · subst hij
           rw [ho] at hoj
           cases hoj
           exact getD_set_true (hdep e he hb)
         · rw [getD_set_ne true hij] at hlj
           exact getD_set_true (hc j oj hoj hlj e he hb)
       unfold wpOp at h1 ⊢
       simp only [ho, ho', Region.wanted, hg, if_true] at h1 ⊢
       rw [eset]
       refine h1.imp (fun hh => wp_back (fun a' w' hk => ih _ a' w' (by simpa using hsz) hc' hk) hh) (fun hh => ⟨hh.1, hh.2⟩)
theorem wp_region_pop {P : Program} {id : Nat} {ops : Array Oper} {st : Oper} {Q : Exit -> Act -> World -> Prop} {S : World -> Prop} {a : Act} {w : World} (hm : P.follows .mixedOrders = true) (hf : fwdB ops = true) (hl : lastB ops st = true) (hS : S w.drew)
   (h : S w.drew -> wpAnyH P .any ops (BackQ P st Q) S ops.size (Array.replicate ops.size false) a w.drew) : (Code.region id (ops.push st) true).wp P Q a w := by
 refine wp_region_any hm ?_
 have h1 := wpAny_of_held _ _ _ _ (h hS)
 have h2 := pop_sound hf hl ops.size _ a w.drew (by simp) (by
   intro j o hj hlj
   have : j < ops.size := (Array.getElem?_eq_some_iff.1 hj).1
   simp [this] at hlj) h1
 have e1 : (Array.replicate ops.size false).push false = Array.replicate (ops.push st).size false := by
   apply Array.ext
   · simp
   · intro k h1 h2
     simp [Array.getElem_push]
 rw [e1] at h2
 have e2 : (ops.push st).size = ops.size + 1 := by simp
 rw [e2] at h2 ⊢
 exact h2
theorem take_lit {P : Program} {l : List Oper} {Q : Exit -> Act -> World -> Prop} {md : Region.Mode} {S : World -> Prop} {i : Nat} {oi : Oper} {v : Value} {fuel : Nat} {listed : Array Bool} {a : Act} {w : World} (hi : l[i]? = some oi)
   (hs : Region.noSelect l.toArray = true) (hf : Region.free md l.toArray listed i = true) (hr : (Region.ready md l.toArray listed).contains i = true)
   (hQ : ∀ c a w, Q (.panic c) (a.put oi.dst v) w -> Q (.panic c) a w) (hy : YieldsIf P l.toArray S oi v a) (hS : S w)
   (h : wpAnyH P md l.toArray Q S fuel (listed.setIfInBounds i true) (a.put oi.dst v) w) : wpAnyH P md l.toArray Q S (fuel + 1) listed a w :=
 wpAnyH_take (by simpa using hi) hs hf hr hQ hy hS h
theorem next_lit {P : Program} {l : List Oper} {Q : Exit -> Act -> World -> Prop} {md : Region.Mode} {S : World -> Prop} {i : Nat} {o : Oper} {fuel : Nat} {listed : Array Bool} {a : Act} {w : World} (ho : l[i]? = some o) (hr : Region.ready md l.toArray listed = [i])
   (h : ∀ K' : Act -> World -> Prop, Shut (∀ a w, S w -> (S w -> wpAnyH P md l.toArray Q S fuel (listed.setIfInBounds i true) a w) -> K' a w) -> if Region.wanted o (yielded l.toArray a.tmps) = true then Oper.wp P o a w K' Q else K' (a.put o.dst undef) w) : wpAnyH P md l.toArray Q S (fuel + 1) listed a w :=
 wpAnyH_ready hr (by simp) (AllReadyH.cons (by simpa using ho) h AllReadyH.nil)
theorem wp_region_back {P : Program} {id : Nat} {full : Array Oper} {Q : Exit -> Act -> World -> Prop} {S : World -> Prop} {a : Act} {w : World} (hm : P.follows .mixedOrders = true) (hn : 0 < full.size) (hf : fwdB full.pop = true) (hl : lastB full.pop full.back! = true) (hS : S w.drew)
   (h : S w.drew -> wpAnyH P .any full.pop (BackQ P full.back! Q) S full.pop.size (Array.replicate full.pop.size false) a w.drew) : (Code.region id full true).wp P Q a w := by
 have e : full = full.pop.push full.back! := (Array.eq_push_pop_back!_of_size_ne_zero (by omega))
 rw [e]
 exact wp_region_pop hm hf hl hS h
theorem back_last {P : Program} {st : Oper} {Q : Exit -> Act -> World -> Prop} {a : Act} {w : World} (h : ∀ K, Shut (∀ a w, Q .normal a w -> K a w) -> st.wp P a w K Q) : BackQ P st Q .normal a w :=
 h (fun a w => Q .normal a w) (fun _ _ h => h)
theorem own_ne {w : World} {base e size : Nat} {v : Value} {n : Nat} {xs : List Value} {b : Nat} {cs : Array Value} {T : TypeId} {fr : Nat × Nat} (h : w.ownsRow base e size v n xs) (hb : w.heap[b]? = some (.cells cs T fr)) (hT : T ≠ e) : v.ownBlock ≠ some b := by
 rcases h.2 with ⟨rfl, _⟩ | ⟨g, cap, cur, rfl, _, hg, _⟩
 · simp [Value.ownBlock]
 · intro h
   simp only [Value.ownBlock, Option.some.injEq] at h
   subst h
   rw [hg] at hb
   simp only [Option.some.injEq, Obj.cells.injEq] at hb
   exact hT hb.2.1.symm
theorem heap_lt {w : World} {b : Nat} {o : Obj} (h : w.heap[b]? = some o) : b < w.heap.size := by
 rcases Nat.lt_or_ge b w.heap.size with k | k
 · exact k
 · rw [Array.getElem?_eq_none k] at h; simp at h
theorem frozen_at {w : World} {b : Nat} {cs : Array Value} {T : TypeId} (h : w.heap[b]? = some (.cells cs T (0, 0))) (j : Nat) : w.frozen? ⟨b, j, none⟩ = false := Lib.frozen_of_heap h j
theorem ownsRow_setBox {w : World} {base e size : Nat} {v : Value} {n : Nat} {xs : List Value} {b j : Nat} {u : Value} (h : w.ownsRow base e size v n xs) (hne : v.ownBlock ≠ some b) : (w.setCell ⟨b, j, none⟩ u).ownsRow base e size v n xs :=
 h.kept (row := some b) ⟨rfl, rfl, rfl, by simp [World.setCell], fun k _ hk => Below.heap_setCell _ _ _ _ (fun e => hk (by simp [e]))⟩ (Or.inr hne)
theorem ownsRow_grown {w w' : World} {base e e' size size' : Nat} {v v' : Value} {n n' : Nat} {xs xs' : List Value} (h : w.ownsRow base e size v n xs) (h' : w.ownsRow base e' size' v' n' xs') (hg : w.grownBy w' v'.ownBlock) (hne : e ≠ e') : w'.ownsRow base e size v n xs := by
 refine h.kept hg ?_
 cases hv : v.ownBlock with
 | none => simp
 | some b =>
   rcases h.2 with ⟨rfl, _⟩ | ⟨g, cap, cur, rfl, _, hb, _⟩
   · simp [Value.ownBlock] at hv
   · simp only [Value.ownBlock, Option.some.injEq] at hv
     subst hv
     refine .inr fun k => ?_
     exact own_ne h' hb hne k.symm
structure SnIn (sb : Nat) (w1 wr : World) (v u : Value) (al : List Bool) (ar : List (Int × Int × Int)) : Prop where
 own : wr.ownsRow w1.heap.size 4 1 v al.length (al.map Value.bool)
 own2 : wr.ownsRow w1.heap.size 72 3 u ar.length (enc3 ar)
 box : wr.heap[sb]? = some (.cells #[v, u] 49 (0, 0))
 bel : Below w1.heap.size w1 wr
end Go.Proofs.YthgelfnflafoiabGreat.Q
