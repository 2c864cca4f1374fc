/-
  Several texts in one.
-/
import Derived.OrdersHeld
import Derived.Deep.RegionHeld
import Derived.Shelf.Abstract
import Derived.Laws.AppendOwnNone
import Derived.Maps.AppendAt
import Derived.OwnWalk
import Derived.Shelf.Strconv.Itoa0
import Derived.Shelf.Sort.Plain
import Derived.Ground.Names2Prog
import Derived.Shelf.Slices.CompactI
import Derived.Shelf.Slices.In.SortNone
import Derived.Ground.NamesProg
import Derived.Sort.OwnSortedInts
import Derived.Lib.SlicesCompact
import Derived.Test.YthgelfnflafoiaeGreatPk6
namespace Go.Proofs.YthgelfnflafoiaeGreat.Q
open Sim (Seq.prog)
open Go.RowKit
theorem edChk_none {h n : Int} {e : Ed} (k : (inR e.1 0 (n - 1) && inR e.2.1 0 (n - 1)) = false) : edChk h n e = 4 := by unfold edChk; rw [if_pos k]
theorem edChk_large {h n : Int} {e : Ed} (k : (inR e.1 0 (n - 1) && inR e.2.1 0 (n - 1)) = true) (l : 6 < e.2.2.length) : edChk h n e = 2 := by unfold edChk; rw [if_neg (by simp [k]), if_pos l]
theorem edChk_legs {h n : Int} {e : Ed} (k : (inR e.1 0 (n - 1) && inR e.2.1 0 (n - 1)) = true) (l : ¬ 6 < e.2.2.length) : edChk h n e = lgChk h 0 e.2.2 := by unfold edChk; rw [if_neg (by simp [k]), if_neg l]
set_option maxRecDepth 100000 in
set_option maxHeartbeats 4000000 in
theorem checkEdge_any (h : Int) (la ea : Option Addr) (nl lc ne ec : Nat) (e : Ed) (lo : Option Addr) (lcap : Nat) (w : World) (hL : LgAt w lo e.2.2) (hnl : nl <= 12) :
   Calls Seq.prog 46 #[.agg #[.int .i64 h, .slice la nl lc, .slice ea ne ec], .agg #[.int .i64 e.1, .int .i64 e.2.1, .slice lo e.2.2.length lcap]] w fun r w' => r = .returned (.int .i64 (edChk h nl e)) /\ Below w.heap.size w w' := by
 obtain ⟨A, B, legs⟩ := e
 simp only at hL ⊢
 have HB : Hid (∀ o o', Below w.heap.size w ((w.alloc o).alloc o')) := fun o o' => ptg (gal w o) (gal _ o')
 obtain ⟨W2, hW2⟩ : ∃ x, x = (w.alloc (.cells #[.int .i64 h, .slice la nl lc, .slice ea ne ec] 25)).alloc (.cells #[.int .i64 A, .int .i64 B, .slice lo legs.length lcap] 59) := ⟨_, rfl⟩
 have HQ2 : Hid (∀ W, Below (w.heap.size + 2) W2 W -> W.cell? ⟨w.heap.size, 0, none⟩ = some (.int .i64 h) /\ W.cell? ⟨w.heap.size, 1, none⟩ = some (.slice la nl lc) /\ W.cell? ⟨w.heap.size, 2, none⟩ = some (.slice ea ne ec) /\ W.cell? ⟨w.heap.size + 1, 0, none⟩ = some (.int .i64 A) /\ W.cell? ⟨w.heap.size + 1, 1, none⟩ = some (.int .i64 B) /\ W.cell? ⟨w.heap.size + 1, 2, none⟩ = some (.slice lo legs.length lcap)) := by
   intro W hb
   refine ⟨?_, ?_, ?_, ?_, ?_, ?_⟩
   · rw [hb.cell (p := ⟨w.heap.size, 0, none⟩) (by simp), hW2]; simp
   · rw [hb.cell (p := ⟨w.heap.size, 1, none⟩) (by simp), hW2]; simp
   · rw [hb.cell (p := ⟨w.heap.size, 2, none⟩) (by simp), hW2]; simp
   · rw [hb.cell (p := ⟨w.heap.size + 1, 0, none⟩) (by simp), hW2]; simp
   · rw [hb.cell (p := ⟨w.heap.size + 1, 1, none⟩) (by simp), hW2]; simp
   · rw [hb.cell (p := ⟨w.heap.size + 1, 2, none⟩) (by simp), hW2]; simp
 have hs2 : W2.heap.size = w.heap.size + 2 := by rw [hW2]; simp
 have HW : Hid (∀ W, Below (w.heap.size + 2) W2 W -> Below w.heap.size w W) := fun W hb => by rw [hW2] at hb; exact (HB.out _ _).trans (hb.mono (by omega))
 have hvA := fun W => gHasV_any h la ea nl lc ne ec A W hnl
 have hvB := fun W => gHasV_any h la ea nl lc ne ec B W hnl
 have HS2 := hideg hs2
 have hW2s := hW2.symm
 clear hs2 hW2
 cases e1 : inR A 0 ((nl : Int) - 1)
 · have HC := hideg (edChk_none (h := h) (n := nl) (e := (A, B, legs)) (by simp [e1]))
   rw [e1] at hvA
   have Q := HQ2.out W2 (Below.refl _ _)
   obtain ⟨q0, q1, q2, q3, q4, q5⟩ := Q
   clear hL hvB e1
   go_enter Seq.func46, Tryz.ntmps46
   go_wp2_with fail
   refine (hvA _).mono ?_
   rintro e w3 ⟨rfl, hb3⟩
   have hbF := HW.out w3 (by rw [HS2.out] at hb3; exact hb3)
   clear hvA hb3 hW2s q0 q1 q2 q3 q4 q5
   go_wp2
   go_ret
   exact ⟨ret_int HC.out.symm, hbF⟩
 cases e2 : inR B 0 ((nl : Int) - 1)
 · have HC := hideg (edChk_none (h := h) (n := nl) (e := (A, B, legs)) (by simp [e2]))
   rw [e1] at hvA
   rw [e2] at hvB
   obtain ⟨q0, q1, q2, q3, q4, q5⟩ := HQ2.out W2 (Below.refl _ _)
   clear hL e1 e2
   go_enter Seq.func46, Tryz.ntmps46
   go_wp2_with fail
   refine (hvA _).mono ?_
   rintro e w3 ⟨rfl, hb3⟩
   rw [HS2.out] at hb3
   have HB3 := hideg hb3
   clear hvA hb3 hW2s q0 q1 q2 q3 q4 q5
   obtain ⟨q0, q1, q2, q3, q4, q5⟩ := HQ2.out w3 HB3.out
   go_wp2_with fail
   refine (hvB _).mono ?_
   rintro e w4 ⟨rfl, hb4⟩
   have hbF := HW.out w4 (HB3.out.trans (hb4.mono (by have := HB3.out.size; have := HS2.out; omega)))
   clear hvB hb4 q0 q1 q2 q3 q4 q5
   go_wp2
   go_ret
   exact ⟨ret_int HC.out.symm, hbF⟩
 rw [e1] at hvA
 rw [e2] at hvB
 by_cases h6 : 6 < legs.length
 · have HC := hideg (edChk_large (h := h) (n := nl) (e := (A, B, legs)) (by simp [e1, e2]) h6)
   obtain ⟨q0, q1, q2, q3, q4, q5⟩ := HQ2.out W2 (Below.refl _ _)
   clear hL e1 e2
   go_enter Seq.func46, Tryz.ntmps46
   go_wp2_with fail
   refine (hvA _).mono ?_
   rintro e w3 ⟨rfl, hb3⟩
   rw [HS2.out] at hb3
   have HB3 := hideg hb3
   clear hvA hb3 hW2s q0 q1 q2 q3 q4 q5
   obtain ⟨q0, q1, q2, q3, q4, q5⟩ := HQ2.out w3 HB3.out
   go_wp2_with fail
   refine (hvB _).mono ?_
   rintro e w4 ⟨rfl, hb4⟩
   have HB4 := hideg (HB3.out.trans (hb4.mono (by have := HB3.out.size; have := HS2.out; omega)))
   have hbF := HW.out w4 HB4.out
   clear hvB hb4 q0 q1 q2 q3 q4 q5
   obtain ⟨q0, q1, q2, q3, q4, q5⟩ := HQ2.out w4 HB4.out
   go_wp2
   go_ret
   exact ⟨ret_int HC.out.symm, hbF⟩
 have HC := hideg (edChk_legs (h := h) (n := nl) (e := (A, B, legs)) (by simp [e1, e2]) h6)
 have h6' : legs.length <= 6 := by omega
 obtain ⟨q0, q1, q2, q3, q4, q5⟩ := HQ2.out W2 (Below.refl _ _)
 clear e1 e2
 go_enter Seq.func46, Tryz.ntmps46
 go_wp2_with fail
 refine (hvA _).mono ?_
 rintro e w3 ⟨rfl, hb3⟩
 rw [HS2.out] at hb3
 have HB3 := hideg hb3
 clear hvA hb3 hW2s q0 q1 q2 q3 q4 q5
 obtain ⟨q0, q1, q2, q3, q4, q5⟩ := HQ2.out w3 HB3.out
 go_wp2_with fail
 refine (hvB _).mono ?_
 rintro e w4 ⟨rfl, hb4⟩
 have HB4 := hideg (HB3.out.trans (hb4.mono (by have := HB3.out.size; have := HS2.out; omega)))
 clear hvB hb4 q0 q1 q2 q3 q4 q5
 obtain ⟨q0, q1, q2, q3, q4, q5⟩ := HQ2.out w4 HB4.out
 go_wp2_with fail
 go_loopw [6, 26] (fun _ i wr => ∃ k : Nat, k <= legs.length /\ i = .int .i64 k /\ lgChk h 0 legs = lgChk h (prevTo legs k) (legs.drop k) /\ Below (w.heap.size + 2) W2 wr) (fun _ i _ => legs.length - (intOf i).toNat)
 case atStart => exact ⟨0, Nat.zero_le _, rfl, rfl, HB4.out⟩
 case round =>
   obtain ⟨k, hk, rfl, hI, hb⟩ := hrel
   have HI := hideg hI
   clear hI
   have hbw : Below w.heap.size w wr := HW.out wr hb
   clear q0 q1 q2 q3 q4 q5
   by_cases hlt : k < legs.length
   · have hz := hb.size
     rw [HS2.out] at hz
     have hz0 : w.heap.size < wr.heap.size := by omega
     have hz1 : w.heap.size + 1 < wr.heap.size := by omega
     rcases hL.below hbw with h0 | ⟨b, off, rfl, hbr, hc⟩
     · subst h0; simp at hlt
     obtain ⟨c0, c1, c2, c3⟩ := LgAt.get hlt hc
     have q0 : wr.cell? ⟨w.heap.size, 0, none⟩ = some (.int .i64 h) := (HQ2.out wr hb).1
     have HN : Hid (∀ o w1, Below (wr.alloc o).heap.size (wr.alloc o) w1 -> Below w.heap.size w w1 /\ Below (w.heap.size + 2) W2 w1) := by
       intro o w1 h1
       have := ptg (gal wr o) h1
       exact ⟨hbw.trans (this.mono hbw.size), hb.trans (this.mono (by omega))⟩
     cases ef : fitB legs[k] h
     · have HR := hideg (lg_bad hlt HI.out ef)
       clear hc hL
       go_wp2_with (go_at_call 62; refine (fits_any legs[k] _ _).mono ?_; rintro e w1 ⟨rfl, hb1⟩)
       go_ret
       exact ⟨ret_int (by rw [HC.out, HR.out]), (HN.out _ _ hb1).1⟩
     · have hf := (fitB_iff legs[k] h).1 ef
       by_cases hk0 : k = 0
       · subst hk0
         simp only [Nat.zero_mul, Nat.add_zero] at c0 c1 c2 c3
         have HR := hideg (lg_next hlt HI.out ef (by simp only [prevTo]; omega))
         clear hc hL hf
         go_wp2_with (go_at_call 62; refine (fits_any legs[0] _ _).mono ?_; rintro e w1 ⟨rfl, hb1⟩)
         go_quiet (fail)
         go_wp2
         go_roundw
         case rel => exact ⟨0 + 1, by omega, by go_num, HR.out, below_drewN (HN.out _ _ hb1).2 _⟩
         case measure => simp [intOf]; omega
       · obtain ⟨m, rfl⟩ : ∃ m, k = m + 1 := ⟨k - 1, by omega⟩
         have hm : m < legs.length := by omega
         have cp := (LgAt.get hm hc).2.1
         have HP := hideg (prevTo_succ hm)
         have q2 : wr.cell? ⟨w.heap.size + 1, 2, none⟩ = some (.slice (some ⟨b, off, none⟩) legs.length lcap) := (HQ2.out wr hb).2.2.2.2.2
         have HQ : Hid (∀ o w1, Below (wr.alloc o).heap.size (wr.alloc o) w1 -> w1.cell? ⟨w.heap.size + 1, 2, none⟩ = some (.slice (some ⟨b, off, none⟩) legs.length lcap) /\ w1.cell? ⟨b, off + m * 4 + 1, none⟩ = some (.int .i64 legs[m].2.1)) := by
           intro o w1 h1
           have := ptg (gal wr o) h1
           exact ⟨by rw [this.cell (p := ⟨w.heap.size + 1, 2, none⟩) (by simp; omega), q2], by rw [this.cell (p := ⟨b, off + m * 4 + 1, none⟩) hbr, cp]⟩
         by_cases g : legs[m + 1].1 < legs[m].2.1
         · have HR := hideg (lg_form hlt HI.out ef (by rw [HP.out]; exact g))
           clear hc hL hf q2 cp
           go_wp2_with (go_at_call 62; refine (fits_any legs[m + 1] _ _).mono ?_; rintro e w1 ⟨rfl, hb1⟩)
           have hb2 := hideg hb1
           obtain ⟨d2, dp⟩ := HQ.out _ _ hb2.out
           have d0 : w1.cell? ⟨wr.heap.size, 0, none⟩ = some (.int .i64 legs[m + 1].1) := by rw [hb2.out.cell (p := ⟨wr.heap.size, 0, none⟩) (by simp)]; simp
           go_quiet (fail)
           go_wp2
           go_ret
           exact ⟨ret_int (by rw [HC.out, HR.out]), below_drewN (HN.out _ _ hb2.out).1 _⟩
         · have HR := hideg (lg_next hlt HI.out ef (by rw [HP.out]; exact g))
           have dg : decide (legs[m + 1].1 < legs[m].2.1) = false := by simpa using g
           clear hc hL hf q2 cp
           go_wp2_with (go_at_call 62; refine (fits_any legs[m + 1] _ _).mono ?_; rintro e w1 ⟨rfl, hb1⟩)
           have hb2 := hideg hb1
           obtain ⟨d2, dp⟩ := HQ.out _ _ hb2.out
           have d0 : w1.cell? ⟨wr.heap.size, 0, none⟩ = some (.int .i64 legs[m + 1].1) := by rw [hb2.out.cell (p := ⟨wr.heap.size, 0, none⟩) (by simp)]; simp
           go_quiet (fail)
           go_wp2
           go_roundw
           case rel => exact ⟨m + 1 + 1, by omega, by go_num, HR.out, below_drewN (HN.out _ _ hb2.out).2 _⟩
           case measure => simp [intOf]; omega
   · have hkl : k = legs.length := by omega
     subst hkl
     have HR := hideg (lg_end HI.out)
     go_wp2
     go_ret
     exact ⟨ret_int (by rw [HC.out, HR.out]), hbw⟩
set_option maxRecDepth 100000 in
set_option maxHeartbeats 4000000 in
theorem gCheck_any (g : Gr) (la ea : Option Addr) (lc ec : Nat) (w : World) (hG : GAt w la ea g) :
   Calls Seq.prog 19 #[.agg #[.int .i64 g.hor, .slice la g.lives.length lc, .slice ea g.edges.length ec]] w fun r w' => r = .returned (.int .i64 (gChk g)) /\ Below w.heap.size w w' := by
 obtain ⟨h, lives, edges⟩ := g
 have HB := hideg (gal w)
 cases e1 : inR h 1 100
 · have HC := hideg (gChk_hor (g := ⟨h, lives, edges⟩) e1)
   clear hG
   go_enter Seq.func19, Tryz.ntmps19
   go_wp2_with (go_at_call 44; refine (within_any _ _ _ _).mono ?_; rintro e w' ⟨rfl, rfl⟩)
   go_ret
   exact ⟨ret_int HC.out.symm, HB.out _⟩
 by_cases n1 : 12 < lives.length
 · have HC := hideg (gChk_large (g := ⟨h, lives, edges⟩) e1 (.inl n1))
   clear hG
   go_enter Seq.func19, Tryz.ntmps19
   go_wp2_with (go_at_call 44; refine (within_any _ _ _ _).mono ?_; rintro e w' ⟨rfl, rfl⟩)
   go_ret
   exact ⟨ret_int HC.out.symm, HB.out _⟩
 by_cases n2 : 30 < edges.length
 · have HC := hideg (gChk_large (g := ⟨h, lives, edges⟩) e1 (.inr n2))
   clear hG
   go_enter Seq.func19, Tryz.ntmps19
   go_wp2_with (go_at_call 44; refine (within_any _ _ _ _).mono ?_; rintro e w' ⟨rfl, rfl⟩)
   go_ret
   exact ⟨ret_int HC.out.symm, HB.out _⟩
 have HL := hideg (fun k => gChk_life (g := ⟨h, lives, edges⟩) e1 (by simp only; omega) k)
 have HR := hideg (fun k => gChk_rest (g := ⟨h, lives, edges⟩) e1 (by simp only; omega) k)
 have hlv : IvAt w la lives := hG.lv
 have hed : EdAt w ea edges := hG.ed
 clear hG
 go_enter Seq.func19, Tryz.ntmps19
 go_wp2_with (go_at_call 44; refine (within_any _ _ _ _).mono ?_; rintro e w' ⟨rfl, rfl⟩)
 go_loopw [25] (fun i wr => ∃ k : Nat, k <= lives.length /\ i = .int .i64 k /\ lvChk h lives = lvChk h (lives.drop k) /\ Below (w.heap.size + 1) (w.alloc (.cells #[.int .i64 h, .slice la lives.length lc, .slice ea edges.length ec] 25)) wr) (fun i _ => lives.length - (intOf i).toNat)
 case atStart => exact ⟨0, Nat.zero_le _, rfl, rfl, Below.refl _ _⟩
 case round =>
   obtain ⟨k, hk, rfl, hI, hb⟩ := hrel
   have HI := hideg hI
   clear hI
   have hbw : Below w.heap.size w wr := (HB.out _).trans (hb.mono (by omega))
   have hz := hb.size
   simp only [World.size_alloc] at hz
   have hz0 : w.heap.size < wr.heap.size := by omega
   have q0 : wr.cell? ⟨w.heap.size, 0, none⟩ = some (.int .i64 h) := by rw [hb.cell (p := ⟨w.heap.size, 0, none⟩) (by simp)]; simp
   have q1 : wr.cell? ⟨w.heap.size, 1, none⟩ = some (.slice la lives.length lc) := by rw [hb.cell (p := ⟨w.heap.size, 1, none⟩) (by simp)]; simp
   have q2 : wr.cell? ⟨w.heap.size, 2, none⟩ = some (.slice ea edges.length ec) := by rw [hb.cell (p := ⟨w.heap.size, 2, none⟩) (by simp)]; simp
   by_cases hlt : k < lives.length
   · rcases hlv.below hbw with h0 | ⟨b, off, rfl, hbr, hc⟩
     · subst h0; simp at hlt
     obtain ⟨c0, c1⟩ := IvAt.get hlt hc
     have HN := hideg (fun o => (⟨hbw.alloc hbw.size o, hb.alloc (by omega) o⟩ : Below w.heap.size w (wr.alloc o) /\ Below (w.heap.size + 1) (w.alloc (.cells #[.int .i64 h, .slice (some ⟨b, off, none⟩) lives.length lc, .slice ea edges.length ec] 25)) (wr.alloc o)))
     clear hc hlv hed
     cases ef : spanB lives[k].1 lives[k].2 h
     · have HC := hideg (lv_stop hlt HI.out ef)
       go_wp2_with (go_at_call 45; refine (span_any _ _ _ _).mono ?_; rintro e w1 ⟨rfl, rfl⟩)
       go_ret
       exact ⟨ret_int (HL.out HC.out).symm, (HN.out _).1⟩
     · have HC := hideg (lv_next hlt HI.out ef)
       go_wp2_with (go_at_call 45; refine (span_any _ _ _ _).mono ?_; rintro e w1 ⟨rfl, rfl⟩)
       go_roundw
       case rel => exact ⟨k + 1, by omega, by go_num, HC.out, (HN.out _).2⟩
       case measure => simp [intOf]; omega
   · have hkl : k = lives.length := by omega
     subst hkl
     have HC := hideg (HR.out (lv_end HI.out))
     have hlv2 := hlv.below hbw
     have hed2 := hed.below hbw
     have HBW := hideg hbw
     clear hlv hed hbw hb HL HR
     obtain ⟨wo, hwo⟩ : ∃ wo, wo = wr := ⟨_, rfl⟩
     subst hwo
     go_wp2
     go_loopw [7, 41] (fun _ i wr => ∃ k : Nat, k <= edges.length /\ i = .int .i64 k /\ edsChk h lives.length edges = edsChk h lives.length (edges.drop k) /\ Below wo.heap.size wo wr) (fun _ i _ => edges.length - (intOf i).toNat)
     case atStart => exact ⟨0, Nat.zero_le _, rfl, rfl, Below.refl _ _⟩
     case round =>
       obtain ⟨k, hk, rfl, hI, hb⟩ := hrel
       have HI := hideg hI
       clear hI
       have hz := hb.size
       have hz1 : w.heap.size < wr.heap.size := by omega
       by_cases hlt : k < edges.length
       · rcases hed2.below hb with h0 | ⟨b, off, rfl, hbr, hc⟩
         · subst h0; simp at hlt
         obtain ⟨c0, c1, lo, lcap, c2, hL, _, _⟩ := hc k hlt
         have p0 : wr.cell? ⟨w.heap.size, 0, none⟩ = some (.int .i64 h) := by rw [hb.cell (p := ⟨w.heap.size, 0, none⟩) hz0, q0]
         have p2 : wr.cell? ⟨w.heap.size, 2, none⟩ = some (.slice (some ⟨b, off, none⟩) edges.length ec) := by rw [hb.cell (p := ⟨w.heap.size, 2, none⟩) hz0, q2]
         have p1 : wr.cell? ⟨w.heap.size, 1, none⟩ = some (.slice la lives.length lc) := by rw [hb.cell (p := ⟨w.heap.size, 1, none⟩) hz0, q1]
         have HN : Hid (∀ o w1, Below (wr.alloc o).heap.size (wr.alloc o) w1 -> Below wo.heap.size wo w1) := by
           intro o w1 h1
           exact ptg hb (ptg (gal wr o) h1)
         have hcl := fun o => checkEdge_any h la (some ⟨b, off, none⟩) lives.length lc edges.length ec edges[k] lo lcap (wr.alloc o) (hL.below (gal wr o)) (by omega)
         clear hc hed2 hlv2 hL q0 q1 q2
         by_cases he : edChk h lives.length edges[k] = 0
         · have HC2 := hideg (eds_next hlt HI.out he)
           rw [he] at hcl
           clear he
           go_wp2_with (go_at_call 46; refine (hcl _).mono ?_; rintro e w1 ⟨rfl, hb1⟩)
           go_roundw
           case rel => exact ⟨k + 1, by omega, by go_num, HC2.out, HN.out _ _ hb1⟩
           case measure => simp [intOf]; omega
         · have HC2 := hideg (eds_stop hlt HI.out he)
           have hne : (edChk h lives.length edges[k] != 0) = true := by simpa using he
           generalize edChk h lives.length edges[k] = ev at *
           go_wp2_with (go_at_call 46; refine (hcl _).mono ?_; rintro e w1 ⟨rfl, hb1⟩)
           go_ret
           exact ⟨ret_int (by rw [HC.out]; exact HC2.out.symm), ptg HBW.out (HN.out _ _ hb1)⟩
       · have hkl : k = edges.length := by omega
         subst hkl
         have HC2 := hideg (eds_end HI.out)
         go_wp2
         go_ret
         exact ⟨ret_int (by rw [HC.out]; exact HC2.out.symm), ptg HBW.out hb⟩
def hasB (a b t : Int) : Bool := decide (a <= t) && decide (t < b)
def lgFind (t : Int) : List Lg -> Option Lg
 | [] => none
 | l :: ls => if hasB l.1 l.2.1 t = true then some l else lgFind t ls
def aliveL (t : Int) (lives : List (Int × Int)) : List Bool := lives.map fun p => hasB p.1 p.2 t
def aliveB (t : Int) (lives : List (Int × Int)) (v : Int) : Bool := (aliveL t lives).getD v.toNat false
def arcOf (t : Int) (lives : List (Int × Int)) (e : Ed) : List (Int × Int × Int) :=
 match lgFind t e.2.2 with
 | none => []
 | some l => if (aliveB t lives e.1 && aliveB t lives e.2.1) = true then [(e.1, e.2.1, l.2.2.2)] else []
def arcsL (t : Int) (lives : List (Int × Int)) (edges : List Ed) : List (Int × Int × Int) := edges.flatMap (arcOf t lives)
theorem hasB_iff (a b t : Int) : hasB a b t = true ↔ a <= t /\ t < b := by unfold hasB; simp
theorem hasB_no {a b t : Int} (h : ¬ (a <= t /\ t < b)) : hasB a b t = false := by rw [<- Bool.not_eq_true, hasB_iff]; exact h
theorem aliveL_length (t : Int) (lives : List (Int × Int)) : (aliveL t lives).length = lives.length := by simp [aliveL]
theorem aliveB_at (t : Int) (lives : List (Int × Int)) (v : Nat) (h : v < lives.length) : aliveB t lives v = hasB lives[v].1 lives[v].2 t := by
 unfold aliveB aliveL
 rw [Int.toNat_natCast, List.getD_eq_getElem?_getD, List.getElem?_map, List.getElem?_eq_getElem h]; rfl
theorem arcOf_some {t : Int} {lives : List (Int × Int)} {e : Ed} {l : Lg} (h : lgFind t e.2.2 = some l) (k : (aliveB t lives e.1 && aliveB t lives e.2.1) = true) : arcOf t lives e = [(e.1, e.2.1, l.2.2.2)] := by
 unfold arcOf; rw [h]; simp only [k, if_true]
theorem mem_take_lt {Z : List Int} {i : Nat} {x : Int} (h : x ∈ Z.take i) : ∃ j, j < i /\ Z[j]? = some x := by
 obtain ⟨j, hj, e⟩ := List.getElem_of_mem h
 rw [List.length_take] at hj
 rw [List.getElem_take] at e
 exact ⟨j, by omega, by rw [List.getElem?_eq_getElem (by omega), e]⟩
structure Ordered (A S : List Int) : Prop where
 inc : S.Pairwise (· < ·)
 mem : ∀ x, x ∈ S ↔ x ∈ A
 len : S.length <= A.length
def NearP (p : Int × Int × Int) : Prop := nearB p.1 /\ nearB p.2.1 /\ nearB p.2.2
def Fol (a p : Int × Int × Int) : Prop := a.2.1 < p.1 \/ (a.2.1 = p.1 /\ a.2.2 ≠ p.2.2)
def folB (a p : Int × Int × Int) : Bool := decide (a.2.1 < p.1) || (a.2.1 == p.1 && a.2.2 != p.2.2)
theorem folB_iff (a p : Int × Int × Int) : folB a p = true ↔ Fol a p := by
 unfold folB Fol
 simp only [Bool.or_eq_true, Bool.and_eq_true, decide_eq_true_eq, beq_iff_eq, bne_iff_ne]
def Sound (m : List (Int × Int × Int)) (i : Nat) : Prop := NearP (m.getD i (0, 0, 0)) /\ (m.getD i (0, 0, 0)).1 < (m.getD i (0, 0, 0)).2.1 /\ (0 < i -> Fol (m.getD (i - 1) (0, 0, 0)) (m.getD i (0, 0, 0)))
def MGood (m : List (Int × Int × Int)) (k : Nat) : Prop := ∀ i, i < k -> Sound m i
def mgoodDec (m : List (Int × Int × Int)) (k : Nat) : Decidable (MGood m k) := by unfold MGood Sound NearP Fol nearB; infer_instance
def mchk (m : List (Int × Int × Int)) : Int := if 200 < m.length then 2 else @ite Int (MGood m m.length) (mgoodDec m m.length) 0 5
theorem mgood_succ {m : List (Int × Int × Int)} {k : Nat} (h : MGood m k) (h1 : Sound m k) : MGood m (k + 1) := by
 intro i hi
 by_cases e : i = k
 · subst e; exact h1
 · exact h i (by omega)
theorem mchk_large {m : List (Int × Int × Int)} (h : 200 < m.length) : mchk m = 2 := by simp [mchk, h]
theorem mchk_ok {m : List (Int × Int × Int)} (h : m.length <= 200) (hn : MGood m m.length) : mchk m = 0 := by
 unfold mchk; rw [if_neg (by omega), if_pos hn]
theorem mchk_no {m : List (Int × Int × Int)} {k : Nat} (h : m.length <= 200) (hk : k < m.length) (hn : ¬ Sound m k) : mchk m = 5 := by
 unfold mchk; rw [if_neg (by omega), if_neg (fun hh => hn (hh k hk))]
theorem mchk_cases (m : List (Int × Int × Int)) : mchk m = 2 \/ mchk m = 5 \/ (mchk m = 0 /\ m.length <= 200 /\ MGood m m.length) := by
 unfold mchk
 by_cases h : 200 < m.length
 · exact .inl (by rw [if_pos h])
 · rw [if_neg h]
   by_cases hn : MGood m m.length
   · exact .inr (.inr ⟨by rw [if_pos hn], by omega, hn⟩)
   · exact .inr (.inl (by rw [if_neg hn]))
def inP (p : Int × Int × Int) (t : Int) : Bool := decide (p.1 <= t) && decide (t < p.2.1)
theorem inP_iff (p : Int × Int × Int) (t : Int) : inP p t = true ↔ p.1 <= t /\ t < p.2.1 := by unfold inP; simp only [Bool.and_eq_true, decide_eq_true_eq]
def tel : List (Int × Int × Int) -> Int -> Option Int
 | [], _ => none
 | p :: m, t => if inP p t then some p.2.2 else tel m t
theorem tel_nil (t : Int) : tel [] t = none := rfl
theorem tel_cons (p : Int × Int × Int) (m : List (Int × Int × Int)) (t : Int) : tel (p :: m) t = if inP p t then some p.2.2 else tel m t := rfl
theorem tel_append (a b : List (Int × Int × Int)) (t : Int) : tel (a ++ b) t = (tel a t).or (tel b t) := by
 induction a with
 | nil => rfl
 | cons p a ih =>
   rw [List.cons_append, tel_cons, tel_cons, ih]
   split <;> rfl
theorem tel_take_no {m : List (Int × Int × Int)} {k : Nat} {t : Int} (hk : k < m.length) (h : tel (m.take k) t = none) (hn : inP m[k] t = false) : tel (m.take (k + 1)) t = none := by
 rw [take_succ_get m k hk, tel_append, h, tel_cons, hn]; rfl
theorem tel_take_yes {m : List (Int × Int × Int)} {k : Nat} {t : Int} (hk : k < m.length) (h : tel (m.take k) t = none) (hn : inP m[k] t = true) : tel m t = some m[k].2.2 := by
 have e : m = m.take k ++ m[k] :: m.drop (k + 1) := by rw [List.getElem_cons_drop, List.take_append_drop]
 have e2 : tel m t = tel (m.take k ++ m[k] :: m.drop (k + 1)) t := congrArg (tel · t) e
 rw [e2, tel_append, h, tel_cons, hn]; rfl
theorem tel_mem {m : List (Int × Int × Int)} {t v : Int} (h : tel m t = some v) : ∃ p ∈ m, inP p t = true /\ p.2.2 = v := by
 induction m with
 | nil => cases h
 | cons p m ih =>
   rw [tel_cons] at h
   split at h
   · rename_i hp; cases h; exact ⟨p, by simp, hp, rfl⟩
   · obtain ⟨q, hq, h1⟩ := ih h
     exact ⟨q, by simp [hq], h1⟩
theorem tel_none {m : List (Int × Int × Int)} {t : Int} (h : ∀ p ∈ m, inP p t = false) : tel m t = none := by
 induction m with
 | nil => rfl
 | cons p m ih =>
   rw [tel_cons, h p (by simp), ih fun q hq => h q (by simp [hq])]; rfl
def MCan : List (Int × Int × Int) -> Prop
 | [] => True
 | p :: m => p.1 < p.2.1 /\ (∀ q, m.head? = some q -> Fol p q) /\ MCan m
theorem mcan_low {p : Int × Int × Int} {m : List (Int × Int × Int)} (h : MCan (p :: m)) : ∀ q ∈ m, p.2.1 <= q.1 := by
 induction m generalizing p with
 | nil => intro q hq; cases hq
 | cons r m ih =>
   intro q hq
   obtain ⟨h1, h2, h3⟩ := h
   have h4 := h2 r rfl
   have h5 := h3.1
   rcases List.mem_cons.1 hq with e | hq
   · subst e; rcases h4 with h4 | h4
     · omega
     · omega
   · have := ih h3 q hq
     rcases h4 with h4 | h4 <;> omega
theorem mcan_pos {m : List (Int × Int × Int)} (h : MCan m) : ∀ q ∈ m, q.1 < q.2.1 := by
 induction m with
 | nil => intro q hq; cases hq
 | cons r m ih =>
   intro q hq
   rcases List.mem_cons.1 hq with e | hq
   · subst e; exact h.1
   · exact ih h.2.2 q hq
theorem tel_before {m : List (Int × Int × Int)} {t : Int} (h : ∀ q ∈ m, t < q.1) : tel m t = none :=
 tel_none fun p hp => by have := h p hp; unfold inP; simp only [Bool.and_eq_false_iff, decide_eq_false_iff_not]; omega
theorem tel_first {p : Int × Int × Int} {m : List (Int × Int × Int)} {t : Int} (h1 : p.1 <= t) (h2 : t < p.2.1) : tel (p :: m) t = some p.2.2 := by
 rw [tel_cons, if_pos ((inP_iff p t).2 ⟨h1, h2⟩)]
theorem tel_later {p : Int × Int × Int} {m : List (Int × Int × Int)} {t : Int} (h : p.2.1 <= t) : tel (p :: m) t = tel m t := by
 rw [tel_cons, if_neg (fun hh => by have := (inP_iff p t).1 hh; omega)]
theorem mcan_end {p q : Int × Int × Int} {a b : List (Int × Int × Int)} (ha : MCan (p :: a)) (_hb : MCan (q :: b)) (h : ∀ t, tel (p :: a) t = tel (q :: b) t) (h1 : p.1 = q.1) (h2 : p.2.2 = q.2.2) (hlt : p.2.1 < q.2.1) : False := by
 have hp := ha.1
 have e := h p.2.1
 rw [tel_later (Int.le_refl _), tel_first (p := q) (by omega) hlt] at e
 cases a with
 | nil => cases e
 | cons r a =>
   have hf := ha.2.1 r rfl
   have hr := ha.2.2.1
   rcases hf with hf | ⟨hf, hv⟩
   · rw [tel_before (fun s hs => ?_)] at e
     · cases e
     · rcases List.mem_cons.1 hs with e' | hs
       · subst e'; exact hf
       · have := mcan_low ha.2.2 s hs; omega
   · rw [tel_first (p := r) (by omega) (by omega), Option.some.injEq] at e
     exact hv (by omega)
theorem mcan_unique {a b : List (Int × Int × Int)} (ha : MCan a) (hb : MCan b) (h : ∀ t, tel a t = tel b t) : a = b := by
 induction a generalizing b with
 | nil =>
   cases b with
   | nil => rfl
   | cons q b =>
     have := h q.1
     rw [tel_first (Int.le_refl _) hb.1] at this
     cases this
 | cons p a ih =>
   cases b with
   | nil =>
     have := h p.1
     rw [tel_first (Int.le_refl _) ha.1] at this
     cases this
   | cons q b =>
     have hp := ha.1
     have hq := hb.1
     have la := mcan_low ha
     have lb := mcan_low hb
     have h1 : p.1 = q.1 := by
       rcases Int.lt_trichotomy p.1 q.1 with hc | hc | hc
       · have := h p.1
         rw [tel_first (Int.le_refl _) hp, tel_before (fun s hs => ?_)] at this
         · cases this
         · rcases List.mem_cons.1 hs with e | hs
           · subst e; exact hc
           · have := lb s hs; omega
       · exact hc
       · have := h q.1
         rw [tel_first (p := q) (Int.le_refl _) hq, tel_before (fun s hs => ?_)] at this
         · cases this
         · rcases List.mem_cons.1 hs with e | hs
           · subst e; exact hc
           · have := la s hs; omega
     have h2 : p.2.2 = q.2.2 := by
       have := h p.1
       rw [tel_first (Int.le_refl _) hp, tel_first (p := q) (by omega) (by omega), Option.some.injEq] at this
       exact this
     have h3 : p.2.1 = q.2.1 := by
       rcases Int.lt_trichotomy p.2.1 q.2.1 with hc | hc | hc
       · exact (mcan_end ha hb h h1 h2 hc).elim
       · exact hc
       · exact (mcan_end hb ha (fun t => (h t).symm) h1.symm h2.symm hc).elim
     have e : p = q := Prod.ext h1 (Prod.ext h3 h2)
     subst e
     rw [ih ha.2.2 hb.2.2 fun t => ?_]
     by_cases ht : p.2.1 <= t
     · have := h t
       rwa [tel_later ht, tel_later ht] at this
     · rw [tel_before (fun s hs => by have := la s hs; omega), tel_before (fun s hs => by have := lb s hs; omega)]
theorem mcan_snoc {o : List (Int × Int × Int)} {p : Int × Int × Int} : MCan (o ++ [p]) ↔ MCan o /\ p.1 < p.2.1 /\ ∀ q, o.getLast? = some q -> Fol q p := by
 induction o with
 | nil => simp [MCan]
 | cons r o ih =>
   rw [List.cons_append, MCan, MCan, ih]
   cases o with
   | nil => simp [MCan, and_comm]
   | cons s o =>
     simp only [List.cons_append, List.head?_cons, List.getLast?_cons_cons]
     constructor
     · rintro ⟨h1, h2, h3, h4, h5⟩; exact ⟨⟨h1, h2, h3⟩, h4, h5⟩
     · rintro ⟨⟨h1, h2, h3⟩, h4, h5⟩; exact ⟨h1, h2, h3, h4, h5⟩
theorem mcan_take_of_good {m : List (Int × Int × Int)} (h : MGood m m.length) (k : Nat) (hk : k <= m.length) : MCan (m.take k) := by
 induction k with
 | zero => simp [MCan]
 | succ k ih =>
   have hlt : k < m.length := by omega
   have hs := h k hlt
   have hg : m.getD k (0, 0, 0) = m[k] := by simp [List.getD_eq_getElem?_getD, List.getElem?_eq_getElem hlt]
   rw [take_succ_get m k hlt, mcan_snoc]
   refine ⟨ih (by omega), by have := hs.2.1; rwa [hg] at this, fun q hq => ?_⟩
   have h0 : 0 < k := by
     rcases Nat.eq_zero_or_pos k with e | e
     · subst e; simp at hq
     · exact e
   have h2 := hs.2.2 h0
   rw [hg] at h2
   rw [List.getLast?_eq_getElem?, List.length_take, Nat.min_eq_left (by omega), List.getElem?_take_of_lt (by omega), List.getElem?_eq_getElem (by omega)] at hq
   cases hq
   rw [List.getD_eq_getElem?_getD, List.getElem?_eq_getElem (by omega)] at h2
   exact h2
theorem mcan_of_good {m : List (Int × Int × Int)} (h : MGood m m.length) : MCan m := by
 have := mcan_take_of_good h m.length (Nat.le_refl _)
 rwa [List.take_length] at this
theorem near_of_good {m : List (Int × Int × Int)} (h : MGood m m.length) : ∀ p ∈ m, NearP p := by
 intro p hp
 obtain ⟨j, hj, rfl⟩ := List.getElem_of_mem hp
 have := (h j hj).1
 rwa [List.getD_eq_getElem?_getD, List.getElem?_eq_getElem hj] at this
theorem good_of_mcan {m : List (Int × Int × Int)} (hc : MCan m) (hn : ∀ p ∈ m, NearP p) : MGood m m.length := by
 intro i hi
 have hg : m.getD i (0, 0, 0) = m[i] := by simp [List.getD_eq_getElem?_getD, List.getElem?_eq_getElem hi]
 unfold Sound
 rw [hg]
 refine ⟨hn _ (List.getElem_mem hi), mcan_pos hc _ (List.getElem_mem hi), fun h0 => ?_⟩
 obtain ⟨j, rfl⟩ : ∃ j, i = j + 1 := ⟨i - 1, by omega⟩
 have e : m = m.take (j + 1) ++ m[j + 1] :: m.drop (j + 1 + 1) := by rw [List.getElem_cons_drop, List.take_append_drop]
 have key : ∀ (o r : List (Int × Int × Int)) (p : Int × Int × Int), MCan (o ++ p :: r) -> ∀ q, o.getLast? = some q -> Fol q p := by
   intro o
   induction o with
   | nil => intro r p _ q hq; simp at hq
   | cons s o ih =>
     intro r p hm q hq
     rw [List.cons_append] at hm
     cases o with
     | nil => simp at hq; subst hq; exact hm.2.1 p rfl
     | cons u o => exact ih r p hm.2.2 q (by simpa using hq)
 have hc' := hc
 rw [e] at hc'
 refine key _ _ _ hc' _ ?_
 rw [List.getLast?_eq_getElem?, List.length_take, Nat.min_eq_left (by omega), List.getElem?_take_of_lt (by omega), Nat.add_sub_cancel, List.getD_eq_getElem?_getD, List.getElem?_eq_getElem (by omega)]
 rfl
theorem mchk_of_mcan {m : List (Int × Int × Int)} (hc : MCan m) (hn : ∀ p ∈ m, NearP p) (hl : m.length <= 200) : mchk m = 0 := mchk_ok hl (good_of_mcan hc hn)
def turnsOf (m : List (Int × Int × Int)) : List Int := m.flatMap fun p => [p.1, p.2.1]
theorem turnsOf_length (m : List (Int × Int × Int)) : (turnsOf m).length = 2 * m.length := by
 induction m with
 | nil => rfl
 | cons p m ih => simp only [turnsOf, List.flatMap_cons, List.length_append, List.length_cons, List.length_nil] at ih ⊢; omega
theorem turnsOf_succ (m : List (Int × Int × Int)) (k : Nat) (hk : k < m.length) : turnsOf (m.take (k + 1)) = turnsOf (m.take k) ++ [m[k].1, m[k].2.1] := by
 rw [take_succ_get m k hk]; unfold turnsOf; rw [List.flatMap_append]; rfl
theorem turnsOf_mem {m : List (Int × Int × Int)} {x : Int} (h : x ∈ turnsOf m) : ∃ p ∈ m, x = p.1 \/ x = p.2.1 := by
 unfold turnsOf at h
 rw [List.mem_flatMap] at h
 obtain ⟨p, hp, hx⟩ := h
 simp at hx
 exact ⟨p, hp, hx⟩
theorem mem_turnsOf {m : List (Int × Int × Int)} {p : Int × Int × Int} (h : p ∈ m) : p.1 ∈ turnsOf m /\ p.2.1 ∈ turnsOf m := by
 unfold turnsOf
 exact ⟨List.mem_flatMap.2 ⟨p, h, by simp⟩, List.mem_flatMap.2 ⟨p, h, by simp⟩⟩
def mseg (S : List Int) (f : Int -> Option Int) (i : Nat) (t : Int) : Option Int := (List.range i).findSome? fun k => if S.getD k 0 <= t /\ t < S.getD (k + 1) 0 then f (S.getD k 0) else none
theorem mseg_succ (S : List Int) (f : Int -> Option Int) (i : Nat) (t : Int) : mseg S f (i + 1) t = (mseg S f i t).or (if S.getD i 0 <= t /\ t < S.getD (i + 1) 0 then f (S.getD i 0) else none) := by
 unfold mseg
 rw [List.range_succ, List.findSome?_append]
 congr 1
 simp only [List.findSome?_cons, List.findSome?_nil]
 split <;> simp_all
structure Tl (S : List Int) (f : Int -> Option Int) (i : Nat) (out : List (Int × Int × Int)) : Prop where
 canon : MCan out
 pts : ∀ t, tel out t = mseg S f i t
 last : ∀ q, out.getLast? = some q -> ∃ j, j <= i /\ S[j]? = some q.2.1
 len : out.length <= i
 mem : ∀ q ∈ out, q.1 ∈ S /\ q.2.1 ∈ S /\ ∃ s ∈ S, f s = some q.2.2
theorem tl_start (S : List Int) (f : Int -> Option Int) : Tl S f 0 [] :=
 ⟨trivial, fun _ => rfl, fun q h => by simp at h, Nat.le_refl _, fun x h => by simp at h⟩
theorem getD_get' {S : List Int} {i : Nat} (h : i < S.length) : S.getD i 0 = S[i] := by simp [List.getD_eq_getElem?_getD, h]
theorem tl_skip {S : List Int} {f : Int -> Option Int} {i : Nat} {out : List (Int × Int × Int)} (hi : i + 1 < S.length) (T : Tl S f i out) (hp : f S[i] = none) : Tl S f (i + 1) out := by
 refine ⟨T.canon, fun t => ?_, fun q h => ?_, by have := T.len; omega, T.mem⟩
 · rw [mseg_succ, getD_get' (by omega), hp, T.pts]; simp
 · obtain ⟨j, hj, e⟩ := T.last q h
   exact ⟨j, by omega, e⟩
theorem tl_last_le {S : List Int} {f : Int -> Option Int} {i : Nat} {out : List (Int × Int × Int)} (hi : i + 1 < S.length) (hS : S.Pairwise (· < ·)) (T : Tl S f i out) {q : Int × Int × Int} (h : out.getLast? = some q) : q.2.1 <= S[i] := by
 rw [List.pairwise_iff_getElem] at hS
 obtain ⟨j, hj, ej⟩ := T.last q h
 obtain ⟨hjl, ej⟩ := List.getElem?_eq_some_iff.1 ej
 by_cases hji : j = i
 · subst hji; omega
 · have := hS j i hjl (by omega) (by omega); omega
theorem tl_put {S : List Int} {f : Int -> Option Int} {i : Nat} {v : Int} {out : List (Int × Int × Int)} (hi : i + 1 < S.length) (hS : S.Pairwise (· < ·)) (T : Tl S f i out) (hp : f S[i] = some v) (hn : ∀ q, out.getLast? = some q -> Fol q (S[i], S[i + 1], v)) : Tl S f (i + 1) (out ++ [(S[i], S[i + 1], v)]) := by
 have hS' := hS
 rw [List.pairwise_iff_getElem] at hS'
 have h01 := hS' i (i + 1) (by omega) hi (by omega)
 refine ⟨?_, fun t => ?_, fun q h => ?_, ?_, fun x hx => ?_⟩
 · rw [mcan_snoc]
   exact ⟨T.canon, h01, hn⟩
 · rw [mseg_succ, tel_append, T.pts, getD_get' (by omega : i < S.length), getD_get' hi, hp, tel_cons, tel_nil]
   congr 1
   simp only [inP, Bool.and_eq_true, decide_eq_true_eq]
 · simp at h
   subst h
   exact ⟨i + 1, Nat.le_refl _, List.getElem?_eq_getElem hi⟩
 · have := T.len; simp only [List.length_append, List.length_singleton]; omega
 · rw [List.mem_append] at hx
   rcases hx with hx | hx
   · exact T.mem x hx
   · simp only [List.mem_singleton] at hx
     subst hx
     exact ⟨List.getElem_mem _, List.getElem_mem _, S[i], List.getElem_mem _, hp⟩
theorem tl_more {S : List Int} {f : Int -> Option Int} {i : Nat} {v : Int} {o : List (Int × Int × Int)} {q : Int × Int × Int} (hi : i + 1 < S.length) (hS : S.Pairwise (· < ·)) (T : Tl S f i (o ++ [q])) (hp : f S[i] = some v) (hn : q.2.1 = S[i]) (hv : q.2.2 = v) : Tl S f (i + 1) (o ++ [(q.1, S[i + 1], q.2.2)]) := by
 rw [List.pairwise_iff_getElem] at hS
 have h01 := hS i (i + 1) (by omega) hi (by omega)
 have hc := T.canon
 rw [mcan_snoc] at hc
 have hqq := hc.2.1
 refine ⟨?_, fun t => ?_, fun r h => ?_, ?_, fun x hx => ?_⟩
 · rw [mcan_snoc]
   exact ⟨hc.1, by simp only; omega, fun r hr => hc.2.2 r hr⟩
 · rw [mseg_succ, tel_append, <- T.pts, tel_append, getD_get' (by omega : i < S.length), getD_get' hi, hp, Option.or_assoc]
   congr 1
   rw [tel_cons, tel_cons, tel_nil]
   by_cases h1 : inP q t = true
   · have h2 : inP (q.1, S[i + 1], q.2.2) t = true := by rw [inP_iff] at h1 ⊢; simp only; omega
     rw [if_pos h1, if_pos h2]; rfl
   · rw [if_neg h1]
     by_cases h2 : inP (q.1, S[i + 1], q.2.2) t = true
     · rw [if_pos h2, if_pos (by rw [inP_iff] at h1 h2; simp only at h2; omega), <- hv]; rfl
     · rw [if_neg h2, if_neg (by rw [inP_iff] at h1 h2; simp only at h2; omega)]; rfl
 · simp at h
   subst h
   exact ⟨i + 1, Nat.le_refl _, List.getElem?_eq_getElem hi⟩
 · have := T.len; simp only [List.length_append, List.length_singleton] at this ⊢; omega
 · have hm := T.mem
   rw [List.mem_append] at hx
   rcases hx with hx | hx
   · exact hm x (by simp [hx])
   · simp only [List.mem_singleton] at hx
     subst hx
     have := hm q (by simp)
     exact ⟨this.1, List.getElem_mem _, this.2.2⟩
def MapIs (A : List Int) (f : Int -> Option Int) (n : Int) (r : List (Int × Int × Int)) : Prop :=
 ∃ S out, Ordered A S /\ Tl S f (S.length - 1) out /\ ((¬ (∀ q ∈ out, NearP q) /\ n = 5 /\ r = []) \/ ((∀ q ∈ out, NearP q) /\ 200 < out.length /\ n = 2 /\ r = []) \/ ((∀ q ∈ out, NearP q) /\ out.length <= 200 /\ n = 0 /\ r = out))
theorem ptw {a b c : World} (h1 : Below a.heap.size a b) (h2 : Below b.heap.size b c) : Below a.heap.size a c := h1.trans (h2.mono h1.size)
theorem pal (w : World) (o : Obj) : Below w.heap.size w (w.alloc o) := (Below.refl _ _).alloc (Nat.le_refl _) o
def PcAt (w : World) (ao : Option Addr) (m : List (Int × Int × Int)) : Prop :=
 m = [] \/ ∃ b off, ao = some ⟨b, off, none⟩ /\ b < w.heap.size /\ ∀ j, j < m.length -> w.cell? ⟨b, off + j * 3, none⟩ = some (.int .i64 (m.getD j (0, 0, 0)).1) /\ w.cell? ⟨b, off + j * 3 + 1, none⟩ = some (.int .i64 (m.getD j (0, 0, 0)).2.1) /\ w.cell? ⟨b, off + j * 3 + 2, none⟩ = some (.int .i64 (m.getD j (0, 0, 0)).2.2)
theorem PcAt.below {w w' : World} {ao : Option Addr} {m : List (Int × Int × Int)} (h : PcAt w ao m) (hb : Below w.heap.size w w') : PcAt w' ao m := by
 rcases h with h | ⟨b, off, rfl, hlt, hc⟩
 · exact .inl h
 · refine .inr ⟨b, off, rfl, Nat.lt_of_lt_of_le hlt hb.size, fun j hj => ?_⟩
   rw [hb.cell (p := ⟨b, off + j * 3, none⟩) hlt, hb.cell (p := ⟨b, off + j * 3 + 1, none⟩) hlt, hb.cell (p := ⟨b, off + j * 3 + 2, none⟩) hlt]
   exact hc j hj
theorem Tryz.infoPiece : (Seq.prog.info? 51).map (fun i => (i.zero, i.size, i.bytes)) = some (some (.agg #[.int .i64 0, .int .i64 0, .int .i64 0]), 3, 24) := by kernel_rfl
def flat3 (m : List (Int × Int × Int)) : List Int := m.flatMap fun p => [p.1, p.2.1, p.2.2]
theorem flat3_cons (p : Int × Int × Int) (m : List (Int × Int × Int)) : flat3 (p :: m) = p.1 :: p.2.1 :: p.2.2 :: flat3 m := by simp [flat3]
theorem flat3_append (a b : List (Int × Int × Int)) : flat3 (a ++ b) = flat3 a ++ flat3 b := by simp [flat3]
theorem flat3_length (m : List (Int × Int × Int)) : (flat3 m).length = m.length * 3 := by
 induction m with
 | nil => rfl
 | cons p m ih => rw [flat3_cons]; simp only [List.length_cons, ih]; omega
theorem flat3_getD (m : List (Int × Int × Int)) (j : Nat) (h : j < m.length) : (flat3 m)[j * 3]? = some (m.getD j (0, 0, 0)).1 /\ (flat3 m)[j * 3 + 1]? = some (m.getD j (0, 0, 0)).2.1 /\ (flat3 m)[j * 3 + 2]? = some (m.getD j (0, 0, 0)).2.2 := by
 induction m generalizing j with
 | nil => simp at h
 | cons p m ih =>
   rw [flat3_cons]
   cases j with
   | zero => exact ⟨rfl, rfl, rfl⟩
   | succ j =>
     have := ih j (by simpa using h)
     rw [show (j + 1) * 3 = j * 3 + 1 + 1 + 1 by omega]
     simpa using this
def enc3 (m : List (Int × Int × Int)) : List Value := (flat3 m).map (Value.int .i64)
theorem enc3_append (a b : List (Int × Int × Int)) : enc3 (a ++ b) = enc3 a ++ enc3 b := by unfold enc3; rw [flat3_append, List.map_append]
theorem enc3_length (m : List (Int × Int × Int)) : (enc3 m).length = m.length * 3 := by unfold enc3; rw [List.length_map, flat3_length]
theorem pcAt_of_owns {w : World} {base e : Nat} {v : Value} {n : Nat} {m : List (Int × Int × Int)} (h : w.ownsRow base e 3 v n (enc3 m)) : ∃ ao cap, v = .slice ao m.length cap /\ PcAt w ao m := by
 obtain ⟨h1, h2⟩ := h
 simp only [enc3_length] at h1
 have hn : n = m.length := by omega
 subst hn
 rcases h2 with ⟨rfl, h0⟩ | ⟨g, cap, cur, rfl, hb, hh, h3, h4, h5, h6⟩
 · exact ⟨none, 0, by rw [h0], .inl (List.eq_nil_of_length_eq_zero h0)⟩
 · have hown : w.ownsRow base e 3 (.slice (some ⟨g, 0, none⟩) m.length cap) m.length (enc3 m) := ⟨by simp [enc3_length], .inr ⟨g, cap, cur, rfl, hb, hh, h3, h4, h5, h6⟩⟩
   refine ⟨_, cap, rfl, .inr ⟨g, 0, rfl, (Array.getElem?_eq_some_iff.1 hh).1, fun j hj => ?_⟩⟩
   obtain ⟨f0, f1, f2⟩ := flat3_getD m j hj
   rw [Nat.zero_add, hown.cellAt (j * 3) (by omega), hown.cellAt (j * 3 + 1) (by omega), hown.cellAt (j * 3 + 2) (by omega)]
   simp only [enc3, List.getElem?_map, f0, f1, f2]
   exact ⟨rfl, rfl, rfl⟩
theorem cells_three_new (w : World) (B : Nat) (t : TypeId) (x y z : Value) (hB : B = w.heap.size) : ∀ j u, [x, y, z][j]? = some u -> (w.alloc (.cells #[x, y, z] t)).cell? ((⟨B, 0, none⟩ : Addr).add j) = some u := by
 subst hB
 intro j u hj
 match j, hj with
 | 0, hj => simp at hj; subst hj; simp [Addr.add]
 | 1, hj => simp at hj; subst hj; simp [Addr.add]
 | 2, hj => simp at hj; subst hj; simp [Addr.add]
def Told3 (w w' : World) (e : Ending) (n : Int) (r : List (Int × Int × Int)) : Prop :=
 ∃ v, e = .returned (.tuple #[v, .int .i64 n]) /\ w'.ownsRow w.heap.size 51 3 v r.length (enc3 r) /\ Below w.heap.size w w'
abbrev Ac := Int × Int × Int
def vat (x : List Int) (v : Int) : Int := x.getD v.toNat 0
structure Adm (first : List Int) (arcs : List Ac) (p : Ac -> Int) (y : Nat -> Int) : Prop where
 le : ∀ v, v < first.length -> y v <= first.getD v 0
 cl : ∀ a ∈ arcs, y a.2.1.toNat <= y a.1.toNat + p a
structure Mid (first : List Int) (arcs : List Ac) (p : Ac -> Int) (x : List Int) : Prop where
 len : x.length = first.length
 le : ∀ v, v < first.length -> x.getD v 0 <= first.getD v 0
 most : ∀ y, Adm first arcs p y -> ∀ v, v < first.length -> y v <= x.getD v 0
theorem getD_set (x : List Int) (k v : Nat) (m : Int) (hk : k < x.length) : (x.set k m).getD v 0 = if v = k then m else x.getD v 0 := by
 simp only [List.getD_eq_getElem?_getD, List.getElem?_set]
 by_cases h : k = v
 · subst h; simp [hk]
 · have : ¬ v = k := fun e => h e.symm
   simp [h, this]
def EndsIn (n : Nat) (arcs : List Ac) : Prop := ∀ a ∈ arcs, 0 <= a.1 /\ a.1 < n /\ 0 <= a.2.1 /\ a.2.1 < n
structure Fine (first : List Int) (arcs : List Ac) (p : Ac -> Int) : Prop where
 lo : ∀ v, v < first.length -> 0 <= first.getD v 0
 hi : ∀ v, v < first.length -> first.getD v 0 <= 1099511627776
 pl : ∀ a ∈ arcs, 0 <= p a /\ p a <= 1000
 en : EndsIn first.length arcs
def rel1 (p : Ac -> Int) (back : Bool) (x z : List Int) (a : Ac) : List Int :=
 let z1 := z.set a.2.1.toNat (min (vat z a.2.1) (vat x a.1 + p a))
 if back = true then z1.set a.1.toNat (min (vat z1 a.1) (vat x a.2.1 + p a)) else z1
def rnd (arcs : List Ac) (p : Ac -> Int) (back : Bool) (x : List Int) : List Int := arcs.foldl (rel1 p back x) x
def rnds (arcs : List Ac) (p : Ac -> Int) (back : Bool) : Nat -> List Int -> List Int
 | 0, x => x
 | k + 1, x => rnd arcs p back (rnds arcs p back k x)
def bothW (arcs : List Ac) : List Ac := arcs.flatMap fun a => [a, (a.2.1, a.1, a.2.2)]
def ways (back : Bool) (arcs : List Ac) : List Ac := if back = true then bothW arcs else arcs
theorem mem_both {arcs : List Ac} {b : Ac} : b ∈ bothW arcs ↔ ∃ a ∈ arcs, b = a \/ b = (a.2.1, a.1, a.2.2) := by simp [bothW]
def Even (p : Ac -> Int) : Prop := ∀ a : Ac, p (a.2.1, a.1, a.2.2) = p a
theorem rel1_length (p : Ac -> Int) (back : Bool) (x z : List Int) (a : Ac) : (rel1 p back x z a).length = z.length := by
 unfold rel1; cases back <;> simp
theorem foldl_rel1_length (p : Ac -> Int) (back : Bool) (x : List Int) : ∀ (l : List Ac) (z : List Int), (l.foldl (rel1 p back x) z).length = z.length
 | [], _ => rfl
 | a :: l, z => by rw [List.foldl_cons, foldl_rel1_length p back x l, rel1_length]
theorem rnd_length (arcs : List Ac) (p : Ac -> Int) (back : Bool) (x : List Int) : (rnd arcs p back x).length = x.length := foldl_rel1_length _ _ _ _ _
theorem rnds_length (arcs : List Ac) (p : Ac -> Int) (back : Bool) : ∀ (k : Nat) (x : List Int), (rnds arcs p back k x).length = x.length
 | 0, _ => rfl
 | k + 1, x => by rw [rnds, rnd_length, rnds_length arcs p back k]
theorem fold_take (arcs : List Ac) (p : Ac -> Int) (back : Bool) (x : List Int) (i : Nat) (hi : i < arcs.length) : (arcs.take (i + 1)).foldl (rel1 p back x) x = rel1 p back x ((arcs.take i).foldl (rel1 p back x) x) arcs[i] := by
 rw [List.take_succ_eq_append_getElem hi, List.foldl_append]; rfl
structure Rn (first : List Int) (arcs : List Ac) (p : Ac -> Int) (back : Bool) (x z : List Int) (i : Nat) : Prop where
 mid : Mid first (ways back arcs) p z
 le : ∀ v, v < first.length -> z.getD v 0 <= x.getD v 0
 told : ∀ j, (h : j < arcs.length) -> j < i -> vat z arcs[j].2.1 <= vat x arcs[j].1 + p arcs[j] /\ (back = true -> vat z arcs[j].1 <= vat x arcs[j].2.1 + p arcs[j])
theorem mem_ways {back : Bool} {arcs : List Ac} {a : Ac} (h : a ∈ arcs) : a ∈ ways back arcs /\ (back = true -> (a.2.1, a.1, a.2.2) ∈ ways back arcs) := by
 unfold ways
 cases back
 · exact ⟨h, fun h => by simp at h⟩
 · exact ⟨mem_both.2 ⟨a, h, .inl rfl⟩, fun _ => mem_both.2 ⟨a, h, .inr rfl⟩⟩
def firstL (al : List Bool) (f : Int -> Int) : List Int := (List.range al.length).map fun v => if al.getD v false = true then f v else 1099511627776
def fromF (from_ : Int) (v : Int) : Int := if v = from_ then 0 else 1099511627776
theorem firstL_length (al : List Bool) (f : Int -> Int) : (firstL al f).length = al.length := by simp [firstL]
theorem firstL_getD (al : List Bool) (f : Int -> Int) (v : Nat) (h : v < al.length) : (firstL al f).getD v 0 = if al.getD v false = true then f v else 1099511627776 := by
 unfold firstL
 rw [List.getD_eq_getElem?_getD, List.getElem?_map, List.getElem?_range h]; rfl
def priceOf (prog : Nat) (a : Ac) : Int := if prog = 1 then 1 else if prog = 2 then a.2.2 else 0
theorem PcAt.at3 {w : World} {b off : Nat} {m : List (Int × Int × Int)} {k : Nat} (hk : k < m.length) (hc : ∀ j, j < m.length -> w.cell? ⟨b, off + j * 3, none⟩ = some (.int .i64 (m.getD j (0, 0, 0)).1) /\ w.cell? ⟨b, off + j * 3 + 1, none⟩ = some (.int .i64 (m.getD j (0, 0, 0)).2.1) /\ w.cell? ⟨b, off + j * 3 + 2, none⟩ = some (.int .i64 (m.getD j (0, 0, 0)).2.2)) :
   w.cell? ⟨b, off + k * 3, none⟩ = some (.int .i64 m[k].1) /\ w.cell? ⟨b, off + k * 3 + 1, none⟩ = some (.int .i64 m[k].2.1) /\ w.cell? ⟨b, off + k * 3 + 2, none⟩ = some (.int .i64 m[k].2.2) := by
 have h := hc k hk
 simpa only [List.getD_eq_getElem?_getD, List.getElem?_eq_getElem hk, Option.getD_some] using h
open Go
def fwdB (ops : Array Oper) : Bool := (List.range ops.size).all fun j => match ops[j]? with
 | some o => o.guard.isNone && o.after.all fun e => !Region.binds .any e || decide (e.on < j)
 | none => true
def lastB (ops : Array Oper) (st : Oper) : Bool := st.guard.isNone && (st.after.all (fun e => !Region.binds .any e || decide (e.on < ops.size)) && (List.range ops.size).all fun j =>
 st.after.any (fun e => Region.binds .any e && e.on == j) || (List.range ops.size).any fun k => decide (j < k) && match ops[k]? with
   | some o => o.after.any fun e => Region.binds .any e && e.on == j
   | none => false)
theorem fwd_spec {ops : Array Oper} (h : fwdB ops = true) {j : Nat} {o : Oper} (hj : ops[j]? = some o) : o.guard = none /\ ∀ e ∈ o.after, Region.binds .any e = true -> e.on < j := by
 have hlt : j < ops.size := (Array.getElem?_eq_some_iff.1 hj).1
 have := List.all_eq_true.1 h j (List.mem_range.2 hlt)
 simp only [hj, Bool.and_eq_true, Option.isNone_iff_eq_none, Array.all_eq_true_iff_forall_mem] at this
 refine ⟨this.1, fun e he hb => ?_⟩
 have h2 := this.2 e he
 rw [hb] at h2
 simpa using h2
def Closed (ops : Array Oper) (listed : Array Bool) : Prop := ∀ (j : Nat) (o : Oper), ops[j]? = some o -> listed.getD j true = true -> ∀ e ∈ o.after, Region.binds .any e = true -> listed.getD e.on false = true
theorem all_listed {ops : Array Oper} {listed : Array Bool} (hf : fwdB ops = true) (hsz : listed.size = ops.size) (hr : Region.ready .any ops listed = []) : ∀ j, j < ops.size -> listed.getD j false = true := by
 intro j
 induction j using Nat.strongRecOn with
 | _ j ih =>
   intro hj
   have ho : ops[j]? = some ops[j] := Array.getElem?_eq_getElem hj
   cases hl : listed.getD j false with
   | true => rfl
   | false =>
     have hm : j ∈ Region.ready .any ops listed := by
       rw [mem_ready]
       have hj' : j < listed.size := by omega
       refine ⟨by simpa [hj'] using hl, _, ho, fun e he hb => ?_⟩
       have := (fwd_spec hf ho).2 e he hb
       exact ih e.on this (by omega)
     rw [hr] at hm
     cases hm
theorem arr_any {α : Type} {l : Array α} {p : α -> Bool} (h : l.any p = true) : ∃ e ∈ l, p e = true := by
 rw [<- Array.any_toList] at h
 obtain ⟨e, he, h2⟩ := List.any_eq_true.1 h
 exact ⟨e, by simpa using he, h2⟩
theorem last_waits {ops : Array Oper} {st : Oper} {listed : Array Bool} (hl : lastB ops st = true) (hc : Closed ops listed) (hsz : listed.size = ops.size) (hs : ∀ e ∈ st.after, Region.binds .any e = true -> e.on < ops.size -> listed.getD e.on false = true) : ∀ d j, j + d = ops.size -> j < ops.size -> listed.getD j false = true := by
 simp only [lastB, Bool.and_eq_true] at hl
 intro d
 induction d using Nat.strongRecOn with
 | _ d ih =>
   intro j hd hj
   have h1 := List.all_eq_true.1 hl.2.2 j (List.mem_range.2 hj)
   rw [Bool.or_eq_true] at h1
   rcases h1 with h1 | h1
   · obtain ⟨e, he, h2⟩ := arr_any h1
     rw [Bool.and_eq_true, beq_iff_eq] at h2
     rw [<- h2.2]
     exact hs e he h2.1 (by rw [h2.2]; exact hj)
   · obtain ⟨k, hk, h2⟩ := List.any_eq_true.1 h1
     rw [List.mem_range] at hk
     rw [Bool.and_eq_true, decide_eq_true_eq] at h2
     have ho : ops[k]? = some ops[k] := Array.getElem?_eq_getElem hk
     simp only [ho] at h2
     obtain ⟨e, he, h3⟩ := arr_any h2.2
     rw [Bool.and_eq_true, beq_iff_eq] at h3
     have hkl := ih (d - (k - j)) (by omega) k (by omega) hk
     rw [<- h3.2]
     refine hc k _ ho ?_ e he h3.1
     have hk' : k < listed.size := by omega
     simpa [hk'] using hkl
theorem getD_push {l : Array Bool} {j : Nat} (d : Bool) (h : j < l.size) : (l.push false).getD j d = l.getD j d := by
 have h' : j < (l.push false).size := by simp; omega
 unfold Array.getD
 rw [dif_pos h', dif_pos h]
 exact Array.getElem_push_lt h
theorem getElem_pushO {ops : Array Oper} {st : Oper} {j : Nat} (h : j < ops.size) : (ops.push st)[j]? = ops[j]? := by
 rw [Array.getElem?_push, if_neg (by omega)]
theorem ready_push {ops : Array Oper} {st : Oper} {listed : Array Bool} (hf : fwdB ops = true) (hl : lastB ops st = true) (hc : Closed ops listed) (hsz : listed.size = ops.size) (hne : Region.ready .any ops listed ≠ []) (i : Nat) :
   i ∈ Region.ready .any (ops.push st) (listed.push false) ↔ i ∈ Region.ready .any ops listed := by
 rw [mem_ready, mem_ready]
 rcases Nat.lt_trichotomy i ops.size with hi | hi | hi
 · rw [getD_push true (by omega), getElem_pushO hi]
   refine and_congr_right fun _ => exists_congr fun o => and_congr_right fun ho => forall_congr' fun e => forall_congr' fun he => forall_congr' fun hb => ?_
   have := (fwd_spec hf ho).2 e he hb
   rw [getD_push false (by omega)]
 · subst hi
   constructor
   · rintro ⟨_, o, ho, hall⟩
     have ho' : o = st := by
       rw [Array.getElem?_push, if_pos rfl] at ho
       exact (Option.some.inj ho).symm
     subst ho'
     exfalso
     apply hne
     have hall2 := last_waits hl hc hsz (fun e he hb hlt => by have := hall e he hb; rwa [getD_push false (by omega)] at this)
     apply List.eq_nil_iff_forall_not_mem.2
     intro j hj
     rw [mem_ready] at hj
     obtain ⟨h0, o, hoj, _⟩ := hj
     have hjlt : j < ops.size := (Array.getElem?_eq_some_iff.1 hoj).1
     have h1 := hall2 (ops.size - j) j (by omega) hjlt
     have hj' : j < listed.size := by omega
     simp [hj'] at h0 h1
     rw [h0] at h1
     cases h1
   · rintro ⟨_, o, ho, _⟩
     rw [Array.getElem?_eq_none (Nat.le_refl _)] at ho
     cases ho
 · constructor
   · rintro ⟨_, o, ho, _⟩
     rw [Array.getElem?_eq_none (by simp; omega)] at ho
     cases ho
   · rintro ⟨_, o, ho, _⟩
     rw [Array.getElem?_eq_none (by omega)] at ho
     cases ho
theorem ready_last {ops : Array Oper} {st : Oper} {listed : Array Bool} (hl : lastB ops st = true) (hsz : listed.size = ops.size) (hall : ∀ j, j < ops.size -> listed.getD j false = true) (i : Nat) :
   i ∈ Region.ready .any (ops.push st) (listed.push false) ↔ i = ops.size := by
 rw [mem_ready]
 simp only [lastB, Bool.and_eq_true] at hl
 rcases Nat.lt_trichotomy i ops.size with hi | hi | hi
 · have h1 := hall i hi
   have hi' : i < listed.size := by omega
   constructor
   · rintro ⟨h0, _⟩
     rw [getD_push true hi'] at h0
     simp [hi'] at h0 h1
     rw [h0] at h1
     cases h1
   · intro h; omega
 · subst hi
   refine ⟨fun _ => rfl, fun _ => ⟨by simp [<- hsz], st, by rw [Array.getElem?_push, if_pos rfl], fun e he hb => ?_⟩⟩
   have h2 := Array.all_eq_true_iff_forall_mem.1 hl.2.1 e he
   rw [hb] at h2
   have h3 : e.on < ops.size := by simpa using h2
   rw [getD_push false (by omega)]
   exact hall e.on h3
 · constructor
   · rintro ⟨_, o, ho, _⟩
     rw [Array.getElem?_eq_none (by simp; omega)] at ho
     cases ho
   · intro h; omega
theorem ready_done {ops : Array Oper} {st : Oper} {listed : Array Bool} (hsz : listed.size = ops.size) (hall : ∀ j, j < ops.size -> listed.getD j false = true) : Region.ready .any (ops.push st) ((listed.push false).setIfInBounds ops.size true) = [] := by
 apply List.eq_nil_iff_forall_not_mem.2
 intro j hj
 rw [mem_ready] at hj
 obtain ⟨h0, o, hoj, _⟩ := hj
 have hjlt : j < ops.size + 1 := by simpa using (Array.getElem?_eq_some_iff.1 hoj).1
 by_cases e : j = ops.size
 · subst e
   simp [hsz] at h0
 · have hj' : j < listed.size := by omega
   have h1 := hall j (by omega)
   have h2 : ((listed.push false).setIfInBounds ops.size true).getD j true = (listed.push false).getD j true := by
     exact getD_set_ne true (Ne.symm e)
   rw [h2, getD_push true hj'] at h0
   simp [hj'] at h0 h1
   rw [h0] at h1
   cases h1
def BackQ (P : Program) (st : Oper) (Q : Exit -> Act -> World -> Prop) : Exit -> Act -> World -> Prop
 | .normal, a, w => st.wp P a w (fun a' w' => Q .normal a' w') Q
 | e, a, w => Q e a w
theorem wp_back {P : Program} {o st : Oper} {Q : Exit -> Act -> World -> Prop} {K K' : Act -> World -> Prop} {a : Act} {w : World} (hK : ∀ a w, K a w -> K' a w) (h : o.wp P a w K (BackQ P st Q)) : o.wp P a w K' Q := by
 unfold Oper.wp at *
 generalize (execOp a.eval o).run P w = r at *
 cases r with
 | ok n w' =>
   cases n <;> simp only [Oper.upon] at h ⊢ <;>
     first
       | exact hK _ _ h
       | exact Calls.mono h (fun e w'' he => by cases e <;> first | exact hK _ _ he | exact he)
       | exact Rows.mono h (fun _ _ he => hK _ _ he)
 | halt x w' => cases x <;> simp only [Oper.upon] at h ⊢ <;> exact h
theorem pop_sound {P : Program} {ops : Array Oper} {st : Oper} {Q : Exit -> Act -> World -> Prop} (hf : fwdB ops = true) (hl : lastB ops st = true) : ∀ (fuel : Nat) (listed : Array Bool) (a : Act) (w : World), listed.size = ops.size -> Closed ops listed ->
   wpAny P .any ops (BackQ P st Q) fuel listed a w -> wpAny P .any (ops.push st) Q (fuel + 1) (listed.push false) a w := by
 have hgd : st.guard = none := by
   simp only [lastB, Bool.and_eq_true, Option.isNone_iff_eq_none] at hl
   exact hl.1
 have fin : ∀ (fuel : Nat) (listed : Array Bool) (a : Act) (w : World), listed.size = ops.size -> Region.ready .any ops listed = [] -> BackQ P st Q .normal a w -> wpAny P .any (ops.push st) Q (fuel + 1) (listed.push false) a w := by
   intro fuel listed a w hsz hr hq
   have hall := all_listed hf hsz hr
   refine ⟨fun h => ?_, fun i hi => ?_⟩
   · have := (ready_last (st := st) hl hsz hall ops.size).2 rfl
     rw [h] at this
     cases this
   · rw [ready_last hl hsz hall] at hi
     subst hi
     have ho : (ops.push st)[ops.size]? = some st := by rw [Array.getElem?_push, if_pos rfl]
     unfold wpOp
     simp only [ho, Region.wanted, hgd, if_true]
     refine .inl (Oper.wp_mono (fun a' w' h => ?_) hq)
     have hd := ready_done (st := st) hsz hall
     cases fuel with
     | zero => exact ⟨hd, h⟩
     | succ n => exact ⟨fun _ => h, by rw [hd]; simp⟩
 intro fuel
 induction fuel with
 | zero =>
   intro listed a w hsz hc h
   exact fin 0 listed a w hsz h.1 h.2
 | succ fuel ih =>
   intro listed a w hsz hc h
   by_cases hr : Region.ready .any ops listed = []
   · exact fin (fuel + 1) listed a w hsz hr (h.1 hr)
   · refine ⟨fun h0 => ?_, fun i hi => ?_⟩
     · exfalso
       apply hr
       apply List.eq_nil_iff_forall_not_mem.2
       intro j hj
       have := (ready_push hf hl hc hsz hr j).2 hj
       rw [h0] at this
       cases this
     · have hi' := (ready_push hf hl hc hsz hr i).1 hi
       have h1 := h.2 i hi'
       obtain ⟨hun, o, ho, hdep⟩ := mem_ready.1 hi'
       have hilt : i < ops.size := (Array.getElem?_eq_some_iff.1 ho).1
       have ho' : (ops.push st)[i]? = some o := by rw [getElem_pushO hilt]; exact ho
       have hg := (fwd_spec hf ho).1
       have eset : (listed.push false).setIfInBounds i true = (listed.setIfInBounds i true).push false := by
         apply Array.ext_getElem?
         intro k
         rw [Array.getElem?_setIfInBounds, Array.getElem?_push, Array.getElem?_push, Array.getElem?_setIfInBounds]
         have hil : i < listed.size := by omega
         by_cases h3 : i = k
         · subst h3
           simp [hil, Nat.ne_of_lt hil]
           omega
         · simp [h3]
       have hc' : Closed ops (listed.setIfInBounds i true) := by
         intro j oj hoj hlj e he hb
         by_cases hij : i = j
         · subst hij
           rw [ho] at hoj
           cases hoj
           exact getD_set_true (hdep e he hb)
         · rw [getD_set_ne true hij] at hlj
           exact getD_set_true (hc j oj hoj hlj e he hb)
       unfold wpOp at h1 ⊢
       simp only [ho, ho', Region.wanted, hg, if_true] at h1 ⊢
       rw [eset]
       refine h1.imp (fun hh => wp_back (fun a' w' hk => ih _ a' w' (by simpa using hsz) hc' hk) hh) (fun hh => ⟨hh.1, hh.2⟩)
theorem take_lit {P : Program} {l : List Oper} {Q : Exit -> Act -> World -> Prop} {md : Region.Mode} {S : World -> Prop} {i : Nat} {oi : Oper} {v : Value} {fuel : Nat} {listed : Array Bool} {a : Act} {w : World} (hi : l[i]? = some oi)
   (hs : Region.noSelect l.toArray = true) (hf : Region.free md l.toArray listed i = true) (hr : (Region.ready md l.toArray listed).contains i = true)
   (hQ : ∀ c a w, Q (.panic c) (a.put oi.dst v) w -> Q (.panic c) a w) (hy : YieldsIf P l.toArray S oi v a) (hS : S w)
   (h : wpAnyH P md l.toArray Q S fuel (listed.setIfInBounds i true) (a.put oi.dst v) w) : wpAnyH P md l.toArray Q S (fuel + 1) listed a w :=
 wpAnyH_take (by simpa using hi) hs hf hr hQ hy hS h
theorem next_lit {P : Program} {l : List Oper} {Q : Exit -> Act -> World -> Prop} {md : Region.Mode} {S : World -> Prop} {i : Nat} {o : Oper} {fuel : Nat} {listed : Array Bool} {a : Act} {w : World} (ho : l[i]? = some o) (hr : Region.ready md l.toArray listed = [i])
   (h : ∀ K' : Act -> World -> Prop, Shut (∀ a w, S w -> (S w -> wpAnyH P md l.toArray Q S fuel (listed.setIfInBounds i true) a w) -> K' a w) -> if Region.wanted o (yielded l.toArray a.tmps) = true then Oper.wp P o a w K' Q else K' (a.put o.dst undef) w) : wpAnyH P md l.toArray Q S (fuel + 1) listed a w :=
 wpAnyH_ready hr (by simp) (AllReadyH.cons (by simpa using ho) h AllReadyH.nil)
theorem back_last {P : Program} {st : Oper} {Q : Exit -> Act -> World -> Prop} {a : Act} {w : World} (h : ∀ K, Shut (∀ a w, Q .normal a w -> K a w) -> st.wp P a w K Q) : BackQ P st Q .normal a w :=
 h (fun a w => Q .normal a w) (fun _ _ h => h)
theorem ownsRow_setBox {w : World} {base e size : Nat} {v : Value} {n : Nat} {xs : List Value} {b j : Nat} {u : Value} (h : w.ownsRow base e size v n xs) (hne : v.ownBlock ≠ some b) : (w.setCell ⟨b, j, none⟩ u).ownsRow base e size v n xs :=
 h.kept (row := some b) ⟨rfl, rfl, rfl, by simp [World.setCell], fun k _ hk => Below.heap_setCell _ _ _ _ (fun e => hk (by simp [e]))⟩ (Or.inr hne)
structure HeldIn (w0 : World) where
 w : World
 h : Below w0.heap.size w0 w
theorem wp_region_held {P : Program} (w0 : World) {id : Nat} {Q : Exit -> Act -> World -> Prop} {a : Act} {w : World} {l : List Oper} (h0 : Below w0.heap.size w0 w) (hm : P.follows .mixedOrders = true) (hB : Region.lexB .any l.toArray = true)
   (h : wpQuiet P l.toArray (fun w' => ∃ s : HeldIn w0, w' = s.w) (fun a' => ∀ w', (∃ s : HeldIn w0, w' = s.w) -> Q .normal a' w') l a) : (Code.region id l.toArray true).wp P Q a w :=
 wp_region_quiet (C := fun w' => ∃ s : HeldIn w0, w' = s.w) hm hB ⟨⟨_, h0.drew⟩, rfl⟩ (by simpa using h)
theorem held_of {P : Program} {f : FuncId} {args : Array Value} {w0 : World} {s : HeldIn w0} {v : Value}
   (h : Calls P f args s.w fun e w' => e = .returned v /\ Below s.w.heap.size s.w w') : Calls P f args s.w fun e w'' => e = .returned v /\ ∃ s' : HeldIn w0, w'' = s'.w :=
 h.mono fun _ w' ⟨he, hb⟩ => ⟨he, ⟨w', s.h.trans (hb.mono s.h.size)⟩, rfl⟩
theorem held_same {P : Program} {f : FuncId} {args : Array Value} {w0 : World} {s : HeldIn w0} {v : Value}
   (h : Calls P f args s.w fun e w' => e = .returned v /\ w' = s.w) : Calls P f args s.w fun e w'' => e = .returned v /\ ∃ s' : HeldIn w0, w'' = s'.w :=
 h.mono fun _ _ ⟨he, hb⟩ => ⟨he, s, hb⟩
theorem wp_region_held_back {P : Program} (w0 : World) {id : Nat} {full : Array Oper} {Q : Exit -> Act -> World -> Prop} {a : Act} {w : World} (h0 : Below w0.heap.size w0 w) (hm : P.follows .mixedOrders = true) (hn : 0 < full.size) (hB : Region.lexB .any full.pop = true) (hf : fwdB full.pop = true) (hl : lastB full.pop full.back! = true)
   (h : wpQuiet P full.pop (fun w' => ∃ s : HeldIn w0, w' = s.w) (fun a' => ∀ w', (∃ s : HeldIn w0, w' = s.w) -> BackQ P full.back! Q .normal a' w') full.pop.toList a) : (Code.region id full true).wp P Q a w := by
 have e : full = full.pop.push full.back! := (Array.eq_push_pop_back!_of_size_ne_zero (by omega))
 generalize full.pop = ops at *
 generalize full.back! = st at *
 subst e
 simp only [Region.lexB, Bool.and_eq_true] at hB
 refine wp_region_any hm ?_
 have h1 : wpAny P .any ops (BackQ P st Q) ops.size (Array.replicate ops.size false) a w.drew := by
   refine wpAny_of_quiet (C := fun w' => ∃ s : HeldIn w0, w' = s.w) (Q := fun a' => ∀ w', (∃ s : HeldIn w0, w' = s.w) -> BackQ P st Q .normal a' w') (fun _ w' hw' h => h w' hw') _ _ _ _ ⟨⟨_, h0.drew⟩, rfl⟩ ?_
   have := wpAnyQ_lex (C := fun w' => ∃ s : HeldIn w0, w' = s.w) (md := .any) hB.1 ops.toList 0 (Array.replicate ops.size false) a (by simp) (by simpa using hB.2) h
   simpa using this
 have h2 := pop_sound hf hl ops.size _ a w.drew (by simp) (by
   intro j o hj hlj
   have : j < ops.size := (Array.getElem?_eq_some_iff.1 hj).1
   simp [this] at hlj) h1
 have e1 : (Array.replicate ops.size false).push false = Array.replicate (ops.push st).size false := by
   apply Array.ext
   · simp
   · intro k h1 h2
     simp [Array.getElem_push]
 rw [e1] at h2
 have e2 : (ops.push st).size = ops.size + 1 := by simp
 rw [e2] at h2 ⊢
 exact h2
def blkOf : Value -> Nat
 | .slice (some a) _ _ => a.block
 | _ => 0
structure RoundsIs (arcs : List Ac) (p : Ac -> Int) (back : Bool) (first x : List Int) (k : Nat) : Prop where
 is : x = rnds arcs p back k first
 stop : rnd arcs p back x = x
 on : ∀ j, j < k -> ¬ rnd arcs p back (rnds arcs p back j first) = rnds arcs p back j first
def begF (prog fr : Int) (v : Int) : Int := if prog = 3 then v else fromF fr v
def pricZ (prog : Nat) (a : Ac) : Int := if prog = 1 then 1 else if prog = 2 then a.2.2 else 0
abbrev P3 := Int × Int × Int
def updF {α : Type} (f : Nat -> α) (v : Nat) (x : α) : Nat -> α := fun i => if i = v then x else f i
theorem updF_same {α : Type} (f : Nat -> α) (v : Nat) (x : α) : updF f v x v = x := by simp [updF]
theorem updF_far {α : Type} (f : Nat -> α) {v i : Nat} (x : α) (h : i ≠ v) : updF f v x i = f i := by simp [updF, h]
theorem map_updF (n v : Nat) (val : Nat -> Value) (x : Value) : ((List.range n).map val).set v x = (List.range n).map (updF val v x) := by
 apply List.ext_getElem (by simp)
 intro i h1 h2
 simp only [List.getElem_set, List.getElem_map, List.getElem_range, updF]
 by_cases e : v = i
 · simp [e]
 · have e2 : ¬ i = v := fun h => e h.symm
   simp [e, e2]
theorem owns_apart {W : World} {base e size base' e' size' n n' : Nat} {v v' : Value} {xs xs' : List Value} (h : W.ownsRow base e size v n xs) (h' : W.ownsRow base' e' size' v' n' xs') (he : e ≠ e') : v.ownBlock = none \/ v.ownBlock ≠ v'.ownBlock := by
 rcases h.2 with ⟨rfl, _⟩ | ⟨g, cap, cur, rfl, _, hh, _⟩
 · exact .inl rfl
 · right
   intro e
   rcases h'.2 with ⟨rfl, _⟩ | ⟨g', cap', cur', rfl, _, hh', _⟩
   · cases e
   · have : g = g' := Option.some.inj e
     subst this
     rw [hh] at hh'
     simp only [Option.some.injEq, Obj.cells.injEq] at hh'
     exact he hh'.2.1
structure AM (W : World) (base go n : Nat) (val : Nat -> Value) (pcs : Nat -> List P3) : Prop where
 own : W.ownsRow base 42 1 (.slice (some ⟨go, 0, none⟩) n n) n ((List.range n).map val)
 inn : ∀ v, v < n -> W.ownsRow base 51 3 (val v) (pcs v).length (enc3 (pcs v))
 ap : ∀ v v', v < n -> v' < n -> v ≠ v' -> (val v).ownBlock = none \/ (val v).ownBlock ≠ (val v').ownBlock
theorem AM.below {W W' : World} {base go n : Nat} {val : Nat -> Value} {pcs : Nat -> List P3} (A : AM W base go n val pcs) (hb : Below W.heap.size W W') : AM W' base go n val pcs :=
 ⟨ownsRow_below A.own hb, fun v hv => ownsRow_below (A.inn v hv) hb, A.ap⟩
theorem AM.out {W : World} {base go n : Nat} {val : Nat -> Value} {pcs : Nat -> List P3} (A : AM W base go n val pcs) {v : Nat} (hv : v < n) : W.cell? ⟨go, v, none⟩ = some (val v) := by
 rw [World.ownsRow.cellAt A.own v (by omega)]; simp [hv]
theorem AM.far {W : World} {base go n : Nat} {val : Nat -> Value} {pcs : Nat -> List P3} (A : AM W base go n val pcs) {v : Nat} (hv : v < n) : (val v).ownBlock ≠ some go := by
 rcases owns_apart (A.inn v hv) A.own (by decide) with e | e
 · rw [e]; intro h; cases h
 · exact e
theorem lgFind_mem {t : Int} {ls : List Lg} {l : Lg} (h : lgFind t ls = some l) : l ∈ ls /\ l.1 <= t /\ t < l.2.1 := by
 induction ls with
 | nil => cases h
 | cons x ls ih =>
   rw [lgFind] at h
   split at h
   · rename_i hx; cases h; exact ⟨by simp, (hasB_iff _ _ _).1 hx⟩
   · have := ih h; exact ⟨by simp [this.1], this.2⟩
theorem rounds_unique {arcs : List Ac} {p : Ac -> Int} {back : Bool} {first x x' : List Int} {k k' : Nat} (R : RoundsIs arcs p back first x k) (R' : RoundsIs arcs p back first x' k') : x = x' /\ k = k' := by
 have e : k = k' := by
   rcases Nat.lt_trichotomy k k' with h | h | h
   · exact absurd (by have := R.stop; rw [R.is] at this; exact this) (R'.on k h)
   · exact h
   · exact absurd (by have := R'.stop; rw [R'.is] at this; exact this) (R.on k' h)
 subst e
 exact ⟨R.is.trans R'.is.symm, rfl⟩
def PlIs (g : Gr) (p : Nat) (fr : Int) (t : Nat) (x : List Int) (k : Nat) : Prop := RoundsIs (arcsL t g.lives g.edges) (pricZ p) (decide (p = 3)) (firstL (aliveL t g.lives) (begF p fr)) x k
open Classical in
noncomputable def plF (g : Gr) (p : Nat) (fr : Int) (t : Nat) : List Int × Nat := if h : ∃ q : List Int × Nat, PlIs g p fr t q.1 q.2 then Classical.choose h else ([], 0)
theorem plF_eq {g : Gr} {p : Nat} {fr : Int} {t : Nat} {x : List Int} {k : Nat} (h : PlIs g p fr t x k) : plF g p fr t = (x, k) := by
 have hx : ∃ q : List Int × Nat, PlIs g p fr t q.1 q.2 := ⟨(x, k), h⟩
 unfold plF
 rw [dif_pos hx]
 obtain ⟨e1, e2⟩ := rounds_unique (Classical.choose_spec hx) h
 exact Prod.ext e1 e2
def oneP (l : List P3) (t x : Int) : List P3 :=
 if x = 1099511627776 then l
 else
   match l.getLast? with
   | none => l ++ [(t, t + 1, x)]
   | some q => if q.2.1 = t /\ q.2.2 = x then l.dropLast ++ [(q.1, t + 1, x)] else l ++ [(t, t + 1, x)]
noncomputable def allP (g : Gr) (p : Nat) (fr : Int) (v : Nat) : Nat -> List P3
 | 0 => []
 | k + 1 => oneP (allP g p fr v k) k ((plF g p fr k).1.getD v 0)
noncomputable def allR (g : Gr) (p : Nat) (fr : Int) : Nat -> Int
 | 0 => 0
 | k + 1 => max (allR g p fr k) ((plF g p fr k).2 : Int)
theorem oneP_skip {l : List P3} {t x : Int} (h : x = 1099511627776) : oneP l t x = l := by unfold oneP; rw [if_pos h]
theorem oneP_nil {t x : Int} (h : x ≠ 1099511627776) : oneP [] t x = [] ++ [(t, t + 1, x)] := by unfold oneP; rw [if_neg h]; rfl
theorem oneP_more {l : List P3} {f t x : Int} (h : x ≠ 1099511627776) : oneP (l ++ [(f, t, x)]) t x = l ++ [(f, t + 1, x)] := by unfold oneP; rw [if_neg h]; simp
theorem oneP_new {l : List P3} {f t x t' x' : Int} (h : x ≠ 1099511627776) (hn : ¬ (t' = t /\ x' = x)) : oneP (l ++ [(f, t', x')]) t x = l ++ [(f, t', x')] ++ [(t, t + 1, x)] := by unfold oneP; rw [if_neg h]; simp [hn]
theorem new_cell0 {W : World} {cs : Array Value} {T : TypeId} {b j : Nat} {x : Value} (hb : b = W.heap.size) (hx : cs[j]? = some x) : (W.alloc (.cells cs T)).cell? ⟨b, j, none⟩ = some x := by subst hb; simp [hx]
def gPair : Gr := ⟨10, [(0, 10), (2, 9)], [(0, 1, [(1, 4, 3, 7)])]⟩
theorem pair_at (w : World) (o : Obj) (T1 T2 T3 : TypeId) : GAt ((((w.alloc o).alloc (.cells #[.int .i64 0, .int .i64 10, .int .i64 2, .int .i64 9] T1)).alloc (.cells #[.int .i64 1, .int .i64 4, .int .i64 3, .int .i64 7] T2)).alloc (.cells #[.int .i64 0, .int .i64 1, .slice (some ⟨w.heap.size + 1 + 1, 0, none⟩) 1 1] T3)) (some ⟨w.heap.size + 1, 0, none⟩) (some ⟨w.heap.size + 1 + 1 + 1, 0, none⟩) gPair := by
 refine ⟨.inr ⟨_, _, rfl, by simp <;> omega, fun j hj => ?_⟩, .inr ⟨_, _, rfl, by simp, fun j hj => ?_⟩, by simp [gPair], by simp [gPair]⟩
 · have hj' : j = 0 \/ j = 1 := by simp [gPair] at hj; omega
   rcases hj' with rfl | rfl
   · exact ⟨by rw [(gal _ _).cell (by simp <;> omega), (gal _ _).cell (by simp <;> omega)]; exact new_cell0 (by simp) rfl, by rw [(gal _ _).cell (by simp <;> omega), (gal _ _).cell (by simp <;> omega)]; exact new_cell0 (by simp) rfl⟩
   · exact ⟨by rw [(gal _ _).cell (by simp <;> omega), (gal _ _).cell (by simp <;> omega)]; exact new_cell0 (by simp) rfl, by rw [(gal _ _).cell (by simp <;> omega), (gal _ _).cell (by simp <;> omega)]; exact new_cell0 (by simp) rfl⟩
 · have hj' : j = 0 := by simp [gPair] at hj; omega
   subst hj'
   refine ⟨new_cell0 (by simp) rfl, new_cell0 (by simp) rfl, some ⟨w.heap.size + 1 + 1, 0, none⟩, 1, new_cell0 (by simp) rfl, .inr ⟨_, _, rfl, by simp <;> omega, fun k hk => ?_⟩, by simp [gPair], by omega⟩
   have hk' : k = 0 := by simp [gPair] at hk; omega
   subst hk'
   exact ⟨by rw [(gal _ _).cell (by simp <;> omega)]; exact new_cell0 (by simp) rfl, by rw [(gal _ _).cell (by simp <;> omega)]; exact new_cell0 (by simp) rfl, by rw [(gal _ _).cell (by simp <;> omega)]; exact new_cell0 (by simp) rfl, by rw [(gal _ _).cell (by simp <;> omega)]; exact new_cell0 (by simp) rfl⟩
set_option maxRecDepth 100000 in
set_option maxHeartbeats 2000000 in
theorem pair_any (w : World) : Calls Seq.prog 18 #[] w fun r w' => ∃ la ea, r = .returned (.agg #[.int .i64 gPair.hor, .slice la gPair.lives.length 2, .slice ea gPair.edges.length 1]) /\ GAt w' la ea gPair /\ Below w.heap.size w w' := by
 go_enter Seq.func18, Tryz.ntmps18
 go_wp2
 have hG := pair_at w (.cells #[.int .i64 10, .slice (some ⟨w.heap.size + 1, 0, none⟩) 2 2, .slice (some ⟨w.heap.size + 1 + 1 + 1, 0, none⟩) 1 1] 25) 88 61 59
 have q : ∀ j x, #[Value.int .i64 10, .slice (some ⟨w.heap.size + 1, 0, none⟩) 2 2, .slice (some ⟨w.heap.size + 1 + 1 + 1, 0, none⟩) 1 1][j]? = some x -> ((((w.alloc (.cells #[.int .i64 10, .slice (some ⟨w.heap.size + 1, 0, none⟩) 2 2, .slice (some ⟨w.heap.size + 1 + 1 + 1, 0, none⟩) 1 1] 25)).alloc (.cells #[.int .i64 0, .int .i64 10, .int .i64 2, .int .i64 9] 88)).alloc (.cells #[.int .i64 1, .int .i64 4, .int .i64 3, .int .i64 7] 61)).alloc (.cells #[.int .i64 0, .int .i64 1, .slice (some ⟨w.heap.size + 1 + 1, 0, none⟩) 1 1] 59)).cell? ⟨w.heap.size, j, none⟩ = some x := by
   intro j x hx
   rw [(gal _ _).cell (by simp <;> omega), (gal _ _).cell (by simp <;> omega), (gal _ _).cell (by simp <;> omega)]
   exact new_cell0 rfl hx
 have q0 := q 0 _ rfl
 have q1 := q 1 _ rfl
 have q2 := q 2 _ rfl
 refine bodyPost_ret (v := .agg #[.int .i64 gPair.hor, .slice (some ⟨w.heap.size + 1, 0, none⟩) gPair.lives.length 2, .slice (some ⟨w.heap.size + 1 + 1 + 1, 0, none⟩) gPair.edges.length 1]) (by simp [results, Tryz.results18, go_sem, q0, q1, q2, gPair]) rfl ⟨_, _, rfl, hG, ptg (ptg (ptg (gal _ _) (gal _ _)) (gal _ _)) (gal _ _)⟩
theorem pair_none (t : Nat) (h : t = 0 \/ t = 1 \/ t = 4 \/ t = 5 \/ t = 6 \/ t = 7 \/ t = 8 \/ t = 9) : plF gPair 2 0 t = ([0, 1099511627776], 0) := by
 refine plF_eq ?_
 unfold PlIs
 rcases h with rfl | rfl | rfl | rfl | rfl | rfl | rfl | rfl
 all_goals exact ⟨by decide, by decide, fun j hj => by omega⟩
theorem pair_seven (t : Nat) (h : t = 2 \/ t = 3) : plF gPair 2 0 t = ([0, 7], 1) := by
 refine plF_eq ?_
 unfold PlIs
 rcases h with rfl | rfl
 all_goals exact ⟨by decide, by decide, by decide⟩
theorem pair_one : allP gPair 2 0 0 10 = [(0, 10, 0)] := by
 simp only [allP, pair_none 0 (by decide), pair_none 1 (by decide), pair_seven 2 (by decide), pair_seven 3 (by decide), pair_none 4 (by decide), pair_none 5 (by decide), pair_none 6 (by decide), pair_none 7 (by decide), pair_none 8 (by decide), pair_none 9 (by decide)]
 decide
theorem pair_two : allP gPair 2 0 1 10 = [(2, 4, 7)] := by
 simp only [allP, pair_none 0 (by decide), pair_none 1 (by decide), pair_seven 2 (by decide), pair_seven 3 (by decide), pair_none 4 (by decide), pair_none 5 (by decide), pair_none 6 (by decide), pair_none 7 (by decide), pair_none 8 (by decide), pair_none 9 (by decide)]
 decide
theorem pair_rounds : allR gPair 2 0 10 = 1 := by
 simp only [allR, pair_none 0 (by decide), pair_none 1 (by decide), pair_seven 2 (by decide), pair_seven 3 (by decide), pair_none 4 (by decide), pair_none 5 (by decide), pair_none 6 (by decide), pair_none 7 (by decide), pair_none 8 (by decide), pair_none 9 (by decide)]
 decide
theorem wrap_nr (n : Int) (h0 : -9223372036854775808 <= n) (h1 : n < 9223372036854775808) : IntKind.i64.wrap n = n := by
 simp only [IntKind.wrap, IntKind.bits, IntKind.signed]
 simp
 omega
structure GBox (w W : World) (B : Nat) (g : Gr) (la ea : Option Addr) (lc ec : Nat) : Prop where
 c0 : W.cell? ⟨B, 0, none⟩ = some (.int .i64 g.hor)
 c1 : W.cell? ⟨B, 1, none⟩ = some (.slice la g.lives.length lc)
 c2 : W.cell? ⟨B, 2, none⟩ = some (.slice ea g.edges.length ec)
 bel : Below w.heap.size w W
 lt : B < W.heap.size
theorem gbox_start (w : World) (g : Gr) (la ea : Option Addr) (lc ec : Nat) (T : TypeId) : GBox w (w.alloc (.cells #[.int .i64 g.hor, .slice la g.lives.length lc, .slice ea g.edges.length ec] T)) w.heap.size g la ea lc ec :=
 ⟨by simp, by simp, by simp, gal w _, by simp⟩
theorem GBox.below {w W W' : World} {B : Nat} {g : Gr} {la ea : Option Addr} {lc ec : Nat} (h : GBox w W B g la ea lc ec) (hb : Below W.heap.size W W') : GBox w W' B g la ea lc ec :=
 ⟨(hb.cell (p := ⟨B, 0, none⟩) h.lt).trans h.c0, (hb.cell (p := ⟨B, 1, none⟩) h.lt).trans h.c1, (hb.cell (p := ⟨B, 2, none⟩) h.lt).trans h.c2, ptg h.bel hb, Nat.lt_of_lt_of_le h.lt hb.size⟩
theorem GBox.drewN {w W : World} {B : Nat} {g : Gr} {la ea : Option Addr} {lc ec : Nat} (h : GBox w W B g la ea lc ec) (n : Nat) : GBox w (W.drewN n) B g la ea lc ec := ⟨h.c0, h.c1, h.c2, below_drewN h.bel n, h.lt⟩
def askE (g : Gr) (p v : Int) : Int := if gChk g = 0 then if inR p 1 3 = true then if p = 3 then 0 else if inR v 0 ((g.lives.length : Int) - 1) = true then 0 else 4 else 1 else gChk g
theorem AM.base {W : World} {base base' go n : Nat} {val : Nat -> Value} {pcs : Nat -> List P3} (A : AM W base go n val pcs) (h : base' <= base) : AM W base' go n val pcs := ⟨owns_base2 A.own h, fun v hv => owns_base2 (A.inn v hv) h, A.ap⟩
theorem own_slice {W : World} {base e size n : Nat} {v : Value} {xs : List Value} (h : W.ownsRow base e size v n xs) (hn : 0 < n) : ∃ b c, v = .slice (some ⟨b, 0, none⟩) n c := by
 rcases h.2 with ⟨_, h0⟩ | ⟨b, c, cur, e, _⟩
 · omega
 · exact ⟨b, c, e⟩
theorem Tryz.infoPcs : (Seq.prog.info? 42).map (fun i => (i.zero, i.size, i.bytes)) = some (some (.slice none 0 0), 1, 24) := by kernel_rfl
theorem am_start {w0 : World} {base go n : Nat} (h : w0.ownsRow base 42 1 (.slice (some ⟨go, 0, none⟩) n n) n (madeCells (Value.slice none 0 0).cells (n * 1)).toList) : AM w0 base go n (fun _ => .slice none 0 0) (fun _ => []) := by
 have e1 : (madeCells (Value.slice none 0 0).cells (n * 1)).toList = (List.range n).map (fun _ => Value.slice none 0 0) := by
   rw [Nat.mul_one]
   show (madeCells #[Value.slice none 0 0] n).toList = _
   rw [toList_madeCells_one]
   simp [List.map_const']
 rw [e1] at h
 exact ⟨h, fun _ _ => World.ownsRow_nil _ _ _ _, fun _ _ _ _ _ => .inl rfl⟩
theorem Near_three (B : Nat) (x y z : Int) (w : World) (hB : B < w.heap.size) (c0 : w.cell? ⟨B, 0, none⟩ = some (.int .i64 x)) (c1 : w.cell? ⟨B, 1, none⟩ = some (.int .i64 y)) (c2 : w.cell? ⟨B, 2, none⟩ = some (.int .i64 z)) :
   Calls Seq.prog 50 #[.slice (some ⟨B, 0, none⟩) 3 3] w fun e w' => e = .returned (.bool (nrB x && (nrB y && nrB z))) /\ w' = w := by
 have h := Near_any (some ⟨B, 0, none⟩) 3 [x, y, z] w (.inr ⟨B, 0, rfl, hB, fun j hj => by
   match j, hj with
   | 0, _ => exact c0
   | 1, _ => exact c1
   | 2, _ => exact c2⟩) (by simp)
 simpa using h
def nr3 (x y z : Int) : Bool := nrB x && (nrB y && nrB z)
theorem nr3_iff (p : Int × Int × Int) : nr3 p.1 p.2.1 p.2.2 = true ↔ NearP p := by
 unfold nr3 NearP
 rw [Bool.and_eq_true, Bool.and_eq_true, nrB_iff, nrB_iff, nrB_iff]
theorem pnear_any (x y z : Int) (w : World) :
   Calls Seq.prog 33 #[.agg #[.int .i64 x, .int .i64 y, .int .i64 z]] w fun e w' => e = .returned (.bool (nr3 x y z)) /\ Below w.heap.size w w' := by
 go_enter Seq.func33, Tryz.ntmps33
 go_wp2_with fail
 refine (Near_three (w.heap.size + 1) x y z _ (by simp) (by simp) (by simp) (by simp)).mono ?_
 rintro e w1 ⟨rfl, rfl⟩
 go_wp2
 go_ret
 exact ⟨rfl, ptw (pal _ _) (pal _ _)⟩
def inB (a b x : Int) : Bool := decide (a <= x) && decide (x < b)
theorem phas_any (a b v t : Int) (w : World) :
   Calls Seq.prog 32 #[.agg #[.int .i64 a, .int .i64 b, .int .i64 v], .int .i64 t] w fun e w' => e = .returned (.bool (inB a b t)) /\ Below w.heap.size w w' := by
 have HB : Hid (∀ o, Below w.heap.size w (w.alloc o)) := fun o => pal w o
 by_cases g1 : a <= t
 · by_cases g2 : t < b
   · have HC : Hid (inB a b t = true) := by show _ = _; unfold inB; simp [g1, g2]
     go_enter Seq.func32, Tryz.ntmps32
     go_wp2
     go_ret
     exact ⟨ret_bool HC.out.symm, HB.out _⟩
   · have HC : Hid (inB a b t = false) := by show _ = _; unfold inB; simp [g2]
     go_enter Seq.func32, Tryz.ntmps32
     go_wp2
     go_ret
     exact ⟨ret_bool HC.out.symm, HB.out _⟩
 · have HC : Hid (inB a b t = false) := by show _ = _; unfold inB; simp [g1]
   go_enter Seq.func32, Tryz.ntmps32
   go_wp2
   go_ret
   exact ⟨ret_bool HC.out.symm, HB.out _⟩
def flB (b v a' v' : Int) : Bool := decide (b < a') || (b == a' && v != v')
theorem follows_any (a b v a' b' v' : Int) (w : World) :
   Calls Seq.prog 34 #[.agg #[.int .i64 a, .int .i64 b, .int .i64 v], .agg #[.int .i64 a', .int .i64 b', .int .i64 v']] w fun e w' => e = .returned (.bool (flB b v a' v')) /\ Below w.heap.size w w' := by
 have HB : Hid (∀ o o', Below w.heap.size w ((w.alloc o).alloc o')) := fun o o' => ptw (pal w o) (pal _ o')
 by_cases g1 : b < a'
 · have HC : Hid (flB b v a' v' = true) := by show _ = _; unfold flB; simp [g1]
   go_enter Seq.func34, Tryz.ntmps34
   go_wp2
   go_ret
   exact ⟨ret_bool HC.out.symm, HB.out _ _⟩
 · by_cases g2 : b = a'
   · by_cases g3 : v = v'
     · have HC : Hid (flB b v a' v' = false) := by show _ = _; unfold flB; simp [g2, g3]
       subst g2
       subst g3
       go_enter Seq.func34, Tryz.ntmps34
       go_wp2
       go_ret
       exact ⟨ret_bool (by first | (rw [HC.out]; simp; done) | rw [HC.out]), HB.out _ _⟩
     · have HC : Hid (flB b v a' v' = true) := by show _ = _; unfold flB; simp [g2, g3]
       have e3 : (v != v') = true := by simp [g3]
       subst g2
       go_enter Seq.func34, Tryz.ntmps34
       go_wp2
       go_ret
       exact ⟨ret_bool (by first | (rw [HC.out]; simp [e3]; done) | rw [HC.out]), HB.out _ _⟩
   · have HC : Hid (flB b v a' v' = false) := by show _ = _; unfold flB; simp [g1, g2]
     have e2 : (b == a') = false := by simp [g2]
     go_enter Seq.func34, Tryz.ntmps34
     go_wp2
     go_ret
     exact ⟨ret_bool (by rw [HC.out]), HB.out _ _⟩
theorem getD3 {m : List (Int × Int × Int)} {k : Nat} (h : k < m.length) : m.getD k (0, 0, 0) = m[k] := by simp [List.getD_eq_getElem?_getD, List.getElem?_eq_getElem h]
theorem PcAt.get {w : World} {b off : Nat} {m : List (Int × Int × Int)} {k : Nat} (hk : k < m.length) (hc : ∀ j, j < m.length -> w.cell? ⟨b, off + j * 3, none⟩ = some (.int .i64 (m.getD j (0, 0, 0)).1) /\ w.cell? ⟨b, off + j * 3 + 1, none⟩ = some (.int .i64 (m.getD j (0, 0, 0)).2.1) /\ w.cell? ⟨b, off + j * 3 + 2, none⟩ = some (.int .i64 (m.getD j (0, 0, 0)).2.2)) :
   w.cell? ⟨b, off + k * 3, none⟩ = some (.int .i64 m[k].1) /\ w.cell? ⟨b, off + k * 3 + 1, none⟩ = some (.int .i64 m[k].2.1) /\ w.cell? ⟨b, off + k * 3 + 2, none⟩ = some (.int .i64 m[k].2.2) := by
 have := hc k hk
 rwa [getD3 hk] at this
set_option maxHeartbeats 1000000 in
theorem PAt_any (ao : Option Addr) (cap : Nat) (m : List (Int × Int × Int)) (t : Int) (w : World) (hl : PcAt w ao m) (hn : m.length <= 9223372036854775807) :
   Calls Seq.prog 12 #[.slice ao m.length cap, .int .i64 t] w fun e w' => e = .returned (.tuple #[.int .i64 ((tel m t).getD 0), .bool (tel m t).isSome]) /\ Below w.heap.size w w' := by
 go_enter Seq.func12, Tryz.ntmps12
 go_wp2
 go_loopw [10] (fun i wr => ∃ k : Nat, k <= m.length /\ i = .int .i64 k /\ tel (m.take k) t = none /\ Below w.heap.size w wr) (fun i _ => m.length - (intOf i).toNat)
 case atStart => exact ⟨0, Nat.zero_le _, rfl, rfl, Below.refl _ _⟩
 case round =>
   obtain ⟨k, hk, rfl, hh, hb⟩ := hrel
   have HH : Hid (tel (m.take k) t = none) := hh
   clear hh
   by_cases hlt : k < m.length
   · rcases hl.below hb with h0 | ⟨b, off, rfl, hbw, hc⟩
     · subst h0; simp at hlt
     obtain ⟨c0, c1, c2⟩ := PcAt.get hlt hc
     have HB : Hid (Below w.heap.size w wr) := hb
     clear hc hl hb
     go_wp2_with fail
     refine (phas_any m[k].1 m[k].2.1 m[k].2.2 t _).mono ?_
     rintro e w1 ⟨rfl, hb1⟩
     have hb' : Below w.heap.size w w1 := ptw (ptw HB.out (pal _ _)) hb1
     have d2 := hb1.cell (p := ⟨wr.heap.size, 2, none⟩) (by simp)
     have d2 : w1.cell? ⟨wr.heap.size, 2, none⟩ = some (.int .i64 m[k].2.2) := d2.trans (by simp)
     clear hb1 c0 c1 c2
     cases hp : inP m[k] t with
     | true =>
       have e1 : inB m[k].1 m[k].2.1 t = true := hp
       have HC : Hid (tel m t = some m[k].2.2) := tel_take_yes hlt HH.out hp
       rw [e1]
       clear hp e1
       go_wp2
       go_ret2
       exact ⟨by rw [HC.out]; rfl, hb'⟩
     | false =>
       have e1 : inB m[k].1 m[k].2.1 t = false := hp
       have HC : Hid (tel (m.take (k + 1)) t = none) := tel_take_no hlt HH.out hp
       rw [e1]
       clear hp e1
       go_wp2
       go_roundw
       case rel => exact ⟨k + 1, by omega, by go_num, HC.out, hb'⟩
       case measure => simp [intOf]; omega
   · have hkl : k = m.length := by omega
     subst hkl
     have HC : Hid (tel m t = none) := by have := HH.out; rwa [List.take_length] at this
     go_wp2
     go_ret2
     exact ⟨by rw [HC.out]; rfl, hb⟩
structure Kp (w wr w1 : World) (b o : Nat) (p q : Int × Int × Int) : Prop where
 k0 : w1.cell? ⟨wr.heap.size, 0, none⟩ = some (.int .i64 p.1)
 k1 : w1.cell? ⟨wr.heap.size, 1, none⟩ = some (.int .i64 p.2.1)
 k2 : w1.cell? ⟨wr.heap.size, 2, none⟩ = some (.int .i64 p.2.2)
 q0 : w1.cell? ⟨b, o, none⟩ = some (.int .i64 q.1)
 q1 : w1.cell? ⟨b, o + 1, none⟩ = some (.int .i64 q.2.1)
 q2 : w1.cell? ⟨b, o + 2, none⟩ = some (.int .i64 q.2.2)
 bel : Below w.heap.size w w1
 sz : wr.heap.size + 1 <= w1.heap.size
 lt : b < wr.heap.size
theorem kp_start {w wr w1 : World} {b o : Nat} {p q : Int × Int × Int} {T : Nat} (hb : Below w.heap.size w wr) (hbw : b < wr.heap.size) (c0 : wr.cell? ⟨b, o, none⟩ = some (.int .i64 q.1)) (c1 : wr.cell? ⟨b, o + 1, none⟩ = some (.int .i64 q.2.1)) (c2 : wr.cell? ⟨b, o + 2, none⟩ = some (.int .i64 q.2.2))
   (h : Below (wr.alloc (.cells #[.int .i64 p.1, .int .i64 p.2.1, .int .i64 p.2.2] T)).heap.size (wr.alloc (.cells #[.int .i64 p.1, .int .i64 p.2.1, .int .i64 p.2.2] T)) w1) : Kp w wr w1 b o p q := by
 have hA : Below wr.heap.size wr w1 := ptw (pal _ _) h
 refine ⟨(h.cell (p := ⟨wr.heap.size, 0, none⟩) (by simp)).trans (by simp), (h.cell (p := ⟨wr.heap.size, 1, none⟩) (by simp)).trans (by simp), (h.cell (p := ⟨wr.heap.size, 2, none⟩) (by simp)).trans (by simp), ?_, ?_, ?_, ptw hb hA, by have := h.size; simpa using this, hbw⟩
 · rw [hA.cell (p := ⟨b, o, none⟩) hbw]; exact c0
 · rw [hA.cell (p := ⟨b, o + 1, none⟩) hbw]; exact c1
 · rw [hA.cell (p := ⟨b, o + 2, none⟩) hbw]; exact c2
def ext (out : List (Int × Int × Int)) (p : Int × Int × Int) : List (Int × Int × Int) :=
 match out.getLast? with
 | none => out ++ [p]
 | some q => if folB q p then out ++ [p] else out.dropLast ++ [(q.1, p.2.1, q.2.2)]
theorem ext_nil (p : Int × Int × Int) : ext [] p = [] ++ [p] := rfl
theorem ext_yes {o : List (Int × Int × Int)} {q p : Int × Int × Int} (h : folB q p = true) : ext (o ++ [q]) p = o ++ [q] ++ [p] := by unfold ext; simp [h]
theorem ext_no {o : List (Int × Int × Int)} {q p : Int × Int × Int} (h : folB q p = false) : ext (o ++ [q]) p = o ++ [(q.1, p.2.1, q.2.2)] := by unfold ext; simp [h]
set_option maxRecDepth 100000 in
set_option maxHeartbeats 4000000 in
theorem extend_any (base : Nat) (v : Value) (out : List (Int × Int × Int)) (p : Int × Int × Int) (w : World) (hown : w.ownsRow base 51 3 v out.length (enc3 out)) (hbase : base <= w.heap.size) (hlen : out.length <= 1000) :
   Calls Seq.prog 101 #[v, .agg #[.int .i64 p.1, .int .i64 p.2.1, .int .i64 p.2.2]] w fun e w' => ∃ v', e = .returned v' /\ w'.ownsRow base 51 3 v' (ext out p).length (enc3 (ext out p)) /\ Below base w w' := by
 obtain ⟨i0, hi, hz0, hz1, hz2⟩ := info_parts Tryz.infoPiece
 obtain ⟨vo, vc, hve, _⟩ := pcAt_of_owns hown
 rcases List.eq_nil_or_concat out with h0 | ⟨o, q, h0⟩
 · subst h0
   subst hve
   rw [ext_nil]
   simp only [List.length_nil] at hown
   go_enter Seq.func101, Tryz.ntmps101
   go_wp2
   go_quiet (fail)
   go_wp2_with (at_builtin; refine wpList_append_own _ rfl _ _ 42 rfl base 51 i0 (.agg #[.int .i64 0, .int .i64 0, .int .i64 0]) 3 24 ((Seq.pu 42).trans Tryz.underlying42) hi hz0 hz1 hz2 rfl (by decide) _ _ _ rfl (World.ownsRow.alloc (World.ownsRow.alloc (w := w) hown _) _) ⟨w.heap.size + 1, 0, none⟩ 1 1 [.int .i64 p.1, .int .i64 p.2.1, .int .i64 p.2.2] rfl rfl ?c1 ?c2 ?c3 ?c4 ?c5 ?_)
   case c1 => exact cells_three_new _ _ _ _ _ _ (by simp)
   case c2 => intro u hu; simp at hu; rcases hu with rfl | rfl | rfl <;> rfl
   case c3 => unfold maxLen; omega
   case c4 => omega
   case c5 => simp; omega
   intro v' w1 hown' hgrow _
   have R : w1.ownsRow base 51 3 v' ([] ++ [p]).length (enc3 ([] ++ [p])) := by
     rw [enc3_append, List.length_append]; exact hown'
   have hb' : Below base w w1 := ((below_drewN ((Below.refl base w).alloc hbase _) _).alloc (by simp; omega) _).grown hgrow (by simp; omega) (fun j hj => (hown.lt j hj).1)
   clear hown hown' hgrow
   go_wp2
   go_ret
   exact ⟨_, rfl, R, hb'⟩
 · rw [List.concat_eq_append] at h0
   have hom : out.length = o.length + 1 := by rw [h0]; simp
   have HO : Hid (out = o ++ [q]) := h0
   have fp := flat3_getD out o.length (by omega)
   have hgp : out.getD o.length (0, 0, 0) = q := by rw [h0]; simp
   rw [hgp] at fp
   rcases hown.2 with ⟨_, h9⟩ | ⟨g, vc', cur, e9, hbs, hh, h1, h2, h4, h5⟩
   · omega
   have hown' := hown
   rw [e9, hom] at hown'
   have hgl := hown'.lt g rfl
   have cq0 : w.cell? ⟨g, o.length * 3, none⟩ = some (.int .i64 q.1) := by rw [hown'.cellAt (o.length * 3) (by omega)]; simp [enc3, fp.1]
   have cq1 : w.cell? ⟨g, o.length * 3 + 1, none⟩ = some (.int .i64 q.2.1) := by rw [hown'.cellAt (o.length * 3 + 1) (by omega)]; simp [enc3, fp.2.1]
   have cq2 : w.cell? ⟨g, o.length * 3 + 2, none⟩ = some (.int .i64 q.2.2) := by rw [hown'.cellAt (o.length * 3 + 2) (by omega)]; simp [enc3, fp.2.2]
   have HOM : Hid (out.length = o.length + 1) := hom
   rw [e9, hom]
   rw [hom] at hlen
   have HOW : Hid (w.ownsRow base 51 3 (.slice (some ⟨g, 0, none⟩) (o.length + 1) vc') (o.length + 1) (enc3 out)) := hown'
   have hfz := fun W (h : Below w.heap.size w W) => (ownsRow_below hown' h).frozenAt (o.length * 3 + 1)
   have HFZ : Hid (∀ W, Below w.heap.size w W -> W.frozen? ⟨g, o.length * 3 + 1, none⟩ = false) := hfz
   clear e9 h0 hgp fp hh h4 h5 hom hown hown' hve hfz h1 h2
   generalize hm : o.length = m at *
   have HM : Hid (o.length = m) := hm
   clear hm
   have hm1 : (0 : Int) <= (m : Int) := by omega
   have hm2 : (m : Int) < (m : Int) + 1 := by omega
   have HK : Hid (∀ w1, Below (w.alloc (.cells #[.int .i64 p.1, .int .i64 p.2.1, .int .i64 p.2.2] 51)).heap.size (w.alloc (.cells #[.int .i64 p.1, .int .i64 p.2.1, .int .i64 p.2.2] 51)) w1 -> Kp w w w1 g (m * 3) p q) := fun w1 h => kp_start (Below.refl _ _) hgl.2 cq0 cq1 cq2 h
   have HFol : Hid (∀ W, Calls Seq.prog 34 #[.agg #[.int .i64 q.1, .int .i64 q.2.1, .int .i64 q.2.2], .agg #[.int .i64 p.1, .int .i64 p.2.1, .int .i64 p.2.2]] W fun e w' => e = .returned (.bool (folB q p)) /\ Below W.heap.size W w') := fun W => follows_any q.1 q.2.1 q.2.2 p.1 p.2.1 p.2.2 W
   cases hf : folB q p with
   | true =>
     have HE : Hid (ext out p = out ++ [p]) := by show _ = _; rw [HO.out, ext_yes hf]
     rw [hf] at HFol
     clear hf
     go_enter Seq.func101, Tryz.ntmps101
     go_wp2_with fail
     generalize w.alloc (.cells #[.int .i64 p.1, .int .i64 p.2.1, .int .i64 p.2.2] 51) = W0 at HK ⊢
     have f0 : ∀ s : HeldIn W0, s.w.cell? ⟨w.heap.size, 0, none⟩ = some (.int .i64 p.1) := fun s => (HK.out _ s.h).k0
     have f1 : ∀ s : HeldIn W0, s.w.cell? ⟨w.heap.size, 1, none⟩ = some (.int .i64 p.2.1) := fun s => (HK.out _ s.h).k1
     have f2 : ∀ s : HeldIn W0, s.w.cell? ⟨w.heap.size, 2, none⟩ = some (.int .i64 p.2.2) := fun s => (HK.out _ s.h).k2
     have q0 : ∀ s : HeldIn W0, s.w.cell? ⟨g, m * 3, none⟩ = some (.int .i64 q.1) := fun s => (HK.out _ s.h).q0
     have q1 : ∀ s : HeldIn W0, s.w.cell? ⟨g, m * 3 + 1, none⟩ = some (.int .i64 q.2.1) := fun s => (HK.out _ s.h).q1
     have q2 : ∀ s : HeldIn W0, s.w.cell? ⟨g, m * 3 + 2, none⟩ = some (.int .i64 q.2.2) := fun s => (HK.out _ s.h).q2
     have hne : Nonempty (HeldIn W0) := ⟨⟨W0, Below.refl _ _⟩⟩
     refine wp_region_held W0 (Below.refl _ _) (by kernel_rfl) (by kernel_rfl) ?_
     repeat (go_big_quiet_step ((go_at_call 34; exact held_of (HFol.out _))))
     refine wpQuiet_nil ?_
     rintro _ ⟨s, rfl⟩
     have KK := HK.out _ s.h
     have hbs := KK.bel
     have k0 := KK.k0
     have k1 := KK.k1
     have k2 := KK.k2
     generalize s.w = w1 at hbs k0 k1 k2 ⊢
     have hows := ownsRow_below HOW.out hbs
     have hsz := hbs.size
     clear f0 f1 f2 q0 q1 q2 KK hne cq0 cq1 cq2 HK HFol HFZ
     go_wp2_with (at_builtin; refine wpList_append_own _ rfl _ _ 42 rfl base 51 i0 (.agg #[.int .i64 0, .int .i64 0, .int .i64 0]) 3 24 ((Seq.pu 42).trans Tryz.underlying42) hi hz0 hz1 hz2 rfl (by decide) _ _ _ rfl (World.ownsRow.alloc (w := w1) hows _) ⟨w1.heap.size, 0, none⟩ 1 1 [.int .i64 p.1, .int .i64 p.2.1, .int .i64 p.2.2] rfl rfl ?c1 ?c2 ?c3 ?c4 ?c5 ?_)
     case c1 => exact cells_three_new _ _ _ _ _ _ (by simp)
     case c2 => intro u hu; simp at hu; rcases hu with rfl | rfl | rfl <;> rfl
     case c3 => unfold maxLen; omega
     case c4 => omega
     case c5 => simp; omega
     intro v' w2 hown2 hgrow _
     have R : w2.ownsRow base 51 3 v' (ext out p).length (enc3 (ext out p)) := by
       rw [HE.out, enc3_append, List.length_append, HOM.out]; exact hown2
     have hb' : Below base w w2 := ((hbs.mono hbase).alloc (by omega) _).grown hgrow (by simp; omega) (fun j hj => (hows.lt j hj).1)
     clear hows hown2 hgrow
     go_wp2
     go_ret
     exact ⟨_, rfl, R, hb'⟩
   | false =>
     have HE : Hid (ext out p = o ++ [(q.1, p.2.1, q.2.2)]) := by show _ = _; rw [HO.out, ext_no hf]
     rw [hf] at HFol
     clear hf
     go_enter Seq.func101, Tryz.ntmps101
     go_wp2_with fail
     generalize w.alloc (.cells #[.int .i64 p.1, .int .i64 p.2.1, .int .i64 p.2.2] 51) = W0 at HK ⊢
     have f0 : ∀ s : HeldIn W0, s.w.cell? ⟨w.heap.size, 0, none⟩ = some (.int .i64 p.1) := fun s => (HK.out _ s.h).k0
     have f1 : ∀ s : HeldIn W0, s.w.cell? ⟨w.heap.size, 1, none⟩ = some (.int .i64 p.2.1) := fun s => (HK.out _ s.h).k1
     have f2 : ∀ s : HeldIn W0, s.w.cell? ⟨w.heap.size, 2, none⟩ = some (.int .i64 p.2.2) := fun s => (HK.out _ s.h).k2
     have q0 : ∀ s : HeldIn W0, s.w.cell? ⟨g, m * 3, none⟩ = some (.int .i64 q.1) := fun s => (HK.out _ s.h).q0
     have q1 : ∀ s : HeldIn W0, s.w.cell? ⟨g, m * 3 + 1, none⟩ = some (.int .i64 q.2.1) := fun s => (HK.out _ s.h).q1
     have q2 : ∀ s : HeldIn W0, s.w.cell? ⟨g, m * 3 + 2, none⟩ = some (.int .i64 q.2.2) := fun s => (HK.out _ s.h).q2
     have hne : Nonempty (HeldIn W0) := ⟨⟨W0, Below.refl _ _⟩⟩
     refine wp_region_held W0 (Below.refl _ _) (by kernel_rfl) (by kernel_rfl) ?_
     repeat (go_big_quiet_step ((go_at_call 34; exact held_of (HFol.out _))))
     refine wpQuiet_nil ?_
     rintro _ ⟨s, rfl⟩
     have KK := HK.out _ s.h
     have hbs := KK.bel
     have k1 := KK.k1
     have c1 := KK.q1
     generalize s.w = w1 at hbs k1 c1 ⊢
     have hows := ownsRow_below HOW.out hbs
     have fz := HFZ.out w1 hbs
     have hsz := hbs.size
     have HR : Hid ((w1.setCell ⟨g, m * 3 + 1, none⟩ (.int .i64 p.2.1)).ownsRow base 51 3 (.slice (some ⟨g, 0, none⟩) (m + 1) vc') (ext out p).length (enc3 (ext out p)) /\ Below base w (w1.setCell ⟨g, m * 3 + 1, none⟩ (.int .i64 p.2.1))) := by
       have hst := (hows.stored (m * 3 + 1) (.int .i64 p.2.1)).1
       have he : (enc3 out).set (m * 3 + 1) (.int .i64 p.2.1) = enc3 (o ++ [(q.1, p.2.1, q.2.2)]) := by
         rw [HO.out, enc3_append, enc3_append, List.set_append_right _ _ (by rw [enc3_length, HM.out]; omega), enc3_length, HM.out, show m * 3 + 1 - m * 3 = 1 by omega]
         rfl
       rw [he] at hst
       have hlen' : (o ++ [(q.1, p.2.1, q.2.2)]).length = m + 1 := by simp [HM.out]
       rw [HE.out, hlen']
       exact ⟨hst, (hbs.mono hbase).setCell hgl.1 _⟩
     clear f0 f1 f2 q0 q1 q2 KK hne cq0 cq1 cq2 HK HFol hows
     go_wp2
     go_ret
     exact ⟨_, rfl, HR.out.1, HR.out.2⟩
def FitIs (out : List (Int × Int × Int)) (n : Int) (r : List (Int × Int × Int)) : Prop :=
 (¬ (∀ q ∈ out, NearP q) /\ n = 5 /\ r = []) \/ ((∀ q ∈ out, NearP q) /\ 200 < out.length /\ n = 2 /\ r = []) \/ ((∀ q ∈ out, NearP q) /\ out.length <= 200 /\ n = 0 /\ r = out)
theorem near_take_succ {m : List (Int × Int × Int)} {k : Nat} (hk : k < m.length) (h : ∀ q ∈ m.take k, NearP q) (h1 : NearP m[k]) : ∀ q ∈ m.take (k + 1), NearP q := by
 intro q hq
 rw [take_succ_get m k hk, List.mem_append, List.mem_singleton] at hq
 rcases hq with hq | rfl
 · exact h q hq
 · exact h1
set_option maxRecDepth 100000 in
set_option maxHeartbeats 2000000 in
theorem fit_any (base : Nat) (v : Value) (out : List (Int × Int × Int)) (w : World) (hown : w.ownsRow base 51 3 v out.length (enc3 out)) (hlen : out.length <= 1000) :
   Calls Seq.prog 102 #[v] w fun e w' => ∃ n r v', FitIs out n r /\ e = .returned (.tuple #[v', .int .i64 n]) /\ w'.ownsRow base 51 3 v' r.length (enc3 r) /\ Below w.heap.size w w' := by
 obtain ⟨vo, vc, hve, hl⟩ := pcAt_of_owns hown
 subst hve
 have HOW : Hid (w.ownsRow base 51 3 (.slice vo out.length vc) out.length (enc3 out)) := hown
 have HNil : Hid (∀ W : World, W.ownsRow base 51 3 (.slice none 0 0) ([] : List (Int × Int × Int)).length (enc3 [])) := fun W => World.ownsRow_nil _ _ _ _
 clear hown
 go_enter Seq.func102, Tryz.ntmps102
 go_wp2
 go_loopw [8] (fun i wr => ∃ k : Nat, k <= out.length /\ i = .int .i64 k /\ (∀ q ∈ out.take k, NearP q) /\ Below w.heap.size w wr) (fun i _ => out.length - (intOf i).toNat)
 case atStart => exact ⟨0, Nat.zero_le _, rfl, fun q hq => by simp at hq, Below.refl _ _⟩
 case round =>
   obtain ⟨k, hk, rfl, hn, hb⟩ := hrel
   have HN : Hid (∀ q ∈ out.take k, NearP q) := hn
   clear hn
   by_cases hlt : k < out.length
   · rcases hl.below hb with h0 | ⟨b, off, rfl, hbw, hc⟩
     · subst h0; simp at hlt
     obtain ⟨c0, c1, c2⟩ := PcAt.get hlt hc
     have hnr := fun W => pnear_any out[k].1 out[k].2.1 out[k].2.2 W
     have HB : Hid (∀ o w1, Below (wr.alloc o).heap.size (wr.alloc o) w1 -> Below w.heap.size w w1) := fun o w1 h => ptw (ptw hb (pal _ _)) h
     clear hc hl hb
     by_cases n1 : NearP out[k]
     · have HS : Hid (∀ q ∈ out.take (k + 1), NearP q) := near_take_succ hlt HN.out n1
       rw [(nr3_iff _).2 n1] at hnr
       clear n1
       go_wp2_with fail
       refine (hnr _).mono ?_
       rintro e w1 ⟨rfl, hb1⟩
       have hb' := HB.out _ _ hb1
       clear hb1
       go_wp2
       go_roundw
       case rel => exact ⟨k + 1, by omega, by go_num, HS.out, hb'⟩
       case measure => simp [intOf]; omega
     · have HC : Hid (FitIs out 5 []) := .inl ⟨fun h => n1 (h _ (List.getElem_mem hlt)), rfl, rfl⟩
       rw [show nr3 out[k].1 out[k].2.1 out[k].2.2 = false from by rw [<- Bool.not_eq_true, nr3_iff]; exact n1] at hnr
       clear n1
       go_wp2_with fail
       refine (hnr _).mono ?_
       rintro e w1 ⟨rfl, hb1⟩
       have hb' := HB.out _ _ hb1
       clear hb1
       go_wp2
       go_ret2
       exact ⟨_, _, _, HC.out, rfl, HNil.out _, hb'⟩
   · have hkl : k = out.length := by omega
     have hall : ∀ q ∈ out, NearP q := by have := HN.out; rwa [hkl, List.take_length] at this
     have HA : Hid (∀ q ∈ out, NearP q) := hall
     clear hall
     subst hkl
     by_cases h200 : 200 < out.length
     · have HC : Hid (FitIs out 2 []) := .inr (.inl ⟨HA.out, h200, rfl, rfl⟩)
       go_wp2
       go_ret2
       exact ⟨_, _, _, HC.out, rfl, HNil.out _, hb⟩
     · have HC : Hid (FitIs out 0 out) := .inr (.inr ⟨HA.out, by omega, rfl, rfl⟩)
       have HR : Hid (wr.ownsRow base 51 3 (.slice vo out.length vc) out.length (enc3 out)) := ownsRow_below HOW.out hb
       go_wp2
       go_ret2
       exact ⟨_, _, _, HC.out, rfl, HR.out, hb⟩
end Go.Proofs.YthgelfnflafoiaeGreat.Q
namespace Go.Proofs.YthgelfnflafoiaeGreat
open Sim (Seq.prog)
open Go.Shelf
def Seq.sortInt_ren : Go.Shelf.Ren := ⟨fun | 189 => 106 | 125 => 111 | 257 => 110 | 128 => 122 | 129 => 123 | 294 => 113 | 295 => 114 | 296 => 115 | 297 => 116 | 298 => 117 | 299 => 118 | 216 => 119 | 300 => 120 | 301 => 121 | 328 => 124 | 329 => 125 | 330 => 126 | 331 => 127 | 332 => 128 | 215 => 129 | 343 => 130 | n => n, fun | 28 => 38 | 3 => 3 | 46 => 126 | 0 => 0 | 51 => 103 | 53 => 100 | 4 => 4 | 183 => 167 | 182 => 166 | 131 => 43 | 5 => 5 | 9 => 9 | 218 => 175 | 222 => 178 | 228 => 180 | 229 => 181 | n => n, fun | n => n⟩
theorem Seq.sortInt : Go.Proofs.Lays.n189 Seq.prog Seq.sortInt_ren := {
  mixed := by kernel_rfl
  f125 := Seq.func111.trans (congrArg some (by kernel_rfl))
  f128 := Seq.func122.trans (congrArg some (by kernel_rfl))
  f129 := Seq.func123.trans (congrArg some (by kernel_rfl))
  f189 := Seq.func106.trans (congrArg some (by kernel_rfl))
  f215 := Seq.func129.trans (congrArg some (by kernel_rfl))
  f216 := Seq.func119.trans (congrArg some (by kernel_rfl))
  f257 := Seq.func110.trans (congrArg some (by kernel_rfl))
  f294 := Seq.func113.trans (congrArg some (by kernel_rfl))
  f295 := Seq.func114.trans (congrArg some (by kernel_rfl))
  f296 := Seq.func115.trans (congrArg some (by kernel_rfl))
  f297 := Seq.func116.trans (congrArg some (by kernel_rfl))
  f298 := Seq.func117.trans (congrArg some (by kernel_rfl))
  f299 := Seq.func118.trans (congrArg some (by kernel_rfl))
  f300 := Seq.func120.trans (congrArg some (by kernel_rfl))
  f301 := Seq.func121.trans (congrArg some (by kernel_rfl))
  f328 := Seq.func124.trans (congrArg some (by kernel_rfl))
  f329 := Seq.func125.trans (congrArg some (by kernel_rfl))
  f330 := Seq.func126.trans (congrArg some (by kernel_rfl))
  f331 := Seq.func127.trans (congrArg some (by kernel_rfl))
  f332 := Seq.func128.trans (congrArg some (by kernel_rfl))
  f343 := Seq.func130.trans (congrArg some (by kernel_rfl))
  t0 := ((Seq.pu 0).trans Tryz.underlying0)
  a0 := (fun w => (Seq.ag 0 w).trans (Tryz.isAgg0 w))
  z0 := (fun w => (Seq.so 0 w).trans (Tryz.sizeOf0 w))
  v0 := (fun w => (Seq.zv 0 w).trans (Tryz.zeroValue0 w))
  t3 := ((Seq.pu 3).trans Tryz.underlying3)
  a3 := (fun w => (Seq.ag 3 w).trans (Tryz.isAgg3 w))
  z3 := (fun w => (Seq.so 3 w).trans (Tryz.sizeOf3 w))
  v3 := (fun w => (Seq.zv 3 w).trans (Tryz.zeroValue3 w))
  t4 := ((Seq.pu 4).trans Tryz.underlying4)
  a4 := (fun w => (Seq.ag 4 w).trans (Tryz.isAgg4 w))
  z4 := (fun w => (Seq.so 4 w).trans (Tryz.sizeOf4 w))
  v4 := (fun w => (Seq.zv 4 w).trans (Tryz.zeroValue4 w))
  t5 := ((Seq.pu 5).trans Tryz.underlying5)
  a5 := (fun w => (Seq.ag 5 w).trans (Tryz.isAgg5 w))
  z5 := (fun w => (Seq.so 5 w).trans (Tryz.sizeOf5 w))
  v5 := (fun w => (Seq.zv 5 w).trans (Tryz.zeroValue5 w))
  t9 := ((Seq.pu 9).trans Tryz.underlying9)
  a9 := (fun w => (Seq.ag 9 w).trans (Tryz.isAgg9 w))
  z9 := (fun w => (Seq.so 9 w).trans (Tryz.sizeOf9 w))
  v9 := (fun w => (Seq.zv 9 w).trans (Tryz.zeroValue9 w))
  t28 := ((Seq.pu 38).trans Tryz.underlying38)
  a28 := (fun w => (Seq.ag 38 w).trans (Tryz.isAgg38 w))
  z28 := (fun w => (Seq.so 38 w).trans (Tryz.sizeOf38 w))
  v28 := (fun w => (Seq.zv 38 w).trans (Tryz.zeroValue38 w))
  t46 := ((Seq.pu 126).trans Tryz.underlying126)
  a46 := (fun w => (Seq.ag 126 w).trans (Tryz.isAgg126 w))
  z46 := (fun w => (Seq.so 126 w).trans (Tryz.sizeOf126 w))
  v46 := (fun w => (Seq.zv 126 w).trans (Tryz.zeroValue126 w))
  t51 := ((Seq.pu 103).trans Tryz.underlying103)
  a51 := (fun w => (Seq.ag 103 w).trans (Tryz.isAgg103 w))
  z51 := (fun w => (Seq.so 103 w).trans (Tryz.sizeOf103 w))
  v51 := (fun w => (Seq.zv 103 w).trans (Tryz.zeroValue103 w))
  t53 := ((Seq.pu 100).trans Tryz.underlying100)
  a53 := (fun w => (Seq.ag 100 w).trans (Tryz.isAgg100 w))
  z53 := (fun w => (Seq.so 100 w).trans (Tryz.sizeOf100 w))
  v53 := (fun w => (Seq.zv 100 w).trans (Tryz.zeroValue100 w))
  t131 := ((Seq.pu 43).trans Tryz.underlying43)
  a131 := (fun w => (Seq.ag 43 w).trans (Tryz.isAgg43 w))
  z131 := (fun w => (Seq.so 43 w).trans (Tryz.sizeOf43 w))
  v131 := (fun w => (Seq.zv 43 w).trans (Tryz.zeroValue43 w))
  t182 := ((Seq.pu 166).trans Tryz.underlying166)
  a182 := (fun w => (Seq.ag 166 w).trans (Tryz.isAgg166 w))
  z182 := (fun w => (Seq.so 166 w).trans (Tryz.sizeOf166 w))
  v182 := (fun w => (Seq.zv 166 w).trans (Tryz.zeroValue166 w))
  t183 := ((Seq.pu 167).trans Tryz.underlying167)
  a183 := (fun w => (Seq.ag 167 w).trans (Tryz.isAgg167 w))
  z183 := (fun w => (Seq.so 167 w).trans (Tryz.sizeOf167 w))
  v183 := (fun w => (Seq.zv 167 w).trans (Tryz.zeroValue167 w))
  t218 := ((Seq.pu 175).trans Tryz.underlying175)
  a218 := (fun w => (Seq.ag 175 w).trans (Tryz.isAgg175 w))
  z218 := (fun w => (Seq.so 175 w).trans (Tryz.sizeOf175 w))
  v218 := (fun w => (Seq.zv 175 w).trans (Tryz.zeroValue175 w))
  t222 := ((Seq.pu 178).trans Tryz.underlying178)
  a222 := (fun w => (Seq.ag 178 w).trans (Tryz.isAgg178 w))
  z222 := (fun w => (Seq.so 178 w).trans (Tryz.sizeOf178 w))
  v222 := (fun w => (Seq.zv 178 w).trans (Tryz.zeroValue178 w))
  t228 := ((Seq.pu 180).trans Tryz.underlying180)
  a228 := (fun w => (Seq.ag 180 w).trans (Tryz.isAgg180 w))
  z228 := (fun w => (Seq.so 180 w).trans (Tryz.sizeOf180 w))
  v228 := (fun w => (Seq.zv 180 w).trans (Tryz.zeroValue180 w))
  t229 := ((Seq.pu 181).trans Tryz.underlying181)
  a229 := (fun w => (Seq.ag 181 w).trans (Tryz.isAgg181 w))
  z229 := (fun w => (Seq.so 181 w).trans (Tryz.sizeOf181 w))
  v229 := (fun w => (Seq.zv 181 w).trans (Tryz.zeroValue181 w)) }
def Seq.compInt_ren : Go.Shelf.Ren := ⟨fun | 20 => 107 | n => n, fun | 22 => 38 | 3 => 3 | 4 => 4 | 0 => 0 | n => n, fun | n => n⟩
theorem Seq.compInt : Go.Proofs.Lays2.n20 Seq.prog Seq.compInt_ren := {
  mixed := by kernel_rfl
  f20 := Seq.func107.trans (congrArg some (by kernel_rfl))
  t0 := ((Seq.pu 0).trans Tryz.underlying0)
  a0 := (fun w => (Seq.ag 0 w).trans (Tryz.isAgg0 w))
  z0 := (fun w => (Seq.so 0 w).trans (Tryz.sizeOf0 w))
  v0 := (fun w => (Seq.zv 0 w).trans (Tryz.zeroValue0 w))
  t3 := ((Seq.pu 3).trans Tryz.underlying3)
  a3 := (fun w => (Seq.ag 3 w).trans (Tryz.isAgg3 w))
  z3 := (fun w => (Seq.so 3 w).trans (Tryz.sizeOf3 w))
  v3 := (fun w => (Seq.zv 3 w).trans (Tryz.zeroValue3 w))
  t4 := ((Seq.pu 4).trans Tryz.underlying4)
  a4 := (fun w => (Seq.ag 4 w).trans (Tryz.isAgg4 w))
  z4 := (fun w => (Seq.so 4 w).trans (Tryz.sizeOf4 w))
  v4 := (fun w => (Seq.zv 4 w).trans (Tryz.zeroValue4 w))
  t22 := ((Seq.pu 38).trans Tryz.underlying38)
  a22 := (fun w => (Seq.ag 38 w).trans (Tryz.isAgg38 w))
  z22 := (fun w => (Seq.so 38 w).trans (Tryz.sizeOf38 w))
  v22 := (fun w => (Seq.zv 38 w).trans (Tryz.zeroValue38 w))
  i3 := by kernel_rfl }
end Go.Proofs.YthgelfnflafoiaeGreat
namespace Go.Proofs.YthgelfnflafoiaeGreat.Q
open Sim (Seq.prog)
open Go.RowKit
theorem sortInts_any {w : World} {base e g cap : Nat} {A : List Int} (h : w.ownsRow base e 1 (.slice (some ⟨g, 0, none⟩) A.length cap) A.length (A.map (Value.int .i64))) (hlen : A.length < 4611686018427387904) :
   Calls Seq.prog 106 #[.slice (some ⟨g, 0, none⟩) A.length cap] w fun en w' => en = .returned (.tuple #[]) /\ ∃ Z : List Int, Z.Perm A /\ Z.Pairwise (· <= ·) /\ w'.ownsRow base e 1 (.slice (some ⟨g, 0, none⟩) A.length cap) A.length (Z.map (Value.int .i64)) /\ w.grownBy w' (some g) := by
 have hg := h.lt g rfl
 rcases h.2 with ⟨h0, _⟩ | ⟨g', cap', cur, hv, hbase, hh, h1, h2, h3, h4⟩
 · cases h0
 simp only [Value.slice.injEq, Option.some.injEq, Addr.mk.injEq, and_true, true_and] at hv
 obtain ⟨rfl, rfl⟩ := hv
 have hcon := Any.slices_Sort_int Seq.sortInt g 0 cap A w (holds_of_blockI hh (by rw [Nat.mul_one] at h4; exact h4)) hg.2 hlen
 change Calls Seq.prog 106 _ _ _ at hcon
 refine hcon.mono ?_
 rintro en w' ⟨rfl, n, os, rfl⟩
 refine ⟨rfl, A.mergeSort fun x y => decide (x <= y), List.mergeSort_perm _ _, ?_, ownsRow_sortedI (by simp) hbase hh h1 h2 h3, grownBy_sortedI _⟩
 have := List.pairwise_mergeSort (le := fun x y : Int => decide (x <= y)) (fun a b c h1 h2 => by simp only [decide_eq_true_eq] at *; omega) (fun a b => by simp only [Bool.or_eq_true, decide_eq_true_eq]; omega) A
 exact this.imp (fun h => by simpa using h)
theorem toArray_get {Z : List Int} {m : Nat} (hm : m < Z.length) : Z.toArray[m]! = Z[m] := by simp [hm]
theorem compact_inv {Z : List Int} (hZ : Z.Pairwise (· <= ·)) (m : Nat) (hm : m <= Z.length) :
   (Lib.compactUpTo Z.toArray m).Pairwise (· < ·) /\ (∀ x, x ∈ Lib.compactUpTo Z.toArray m ↔ x ∈ Z.take m) /\ (Lib.compactUpTo Z.toArray m).length <= m := by
 induction m with
 | zero => exact ⟨List.Pairwise.nil, fun x => by simp [Lib.compactUpTo], Nat.le_refl _⟩
 | succ m ih =>
   obtain ⟨h1, h2, h3⟩ := ih (by omega)
   have hlt : m < Z.length := by omega
   rw [Lib.compactUpTo_succ, toArray_get hlt]
   have hZ' := hZ
   rw [List.pairwise_iff_getElem] at hZ'
   by_cases hk : Lib.keeps Z.toArray m = true
   · rw [if_pos hk]
     refine ⟨?_, fun x => ?_, by simp only [List.length_append, List.length_singleton]; omega⟩
     · rw [List.pairwise_append]
       refine ⟨h1, List.pairwise_singleton _ _, fun a ha b hb => ?_⟩
       simp only [List.mem_singleton] at hb
       subst hb
       obtain ⟨j, hj, e⟩ := mem_take_lt ((h2 a).1 ha)
       obtain ⟨hjl, e⟩ := List.getElem?_eq_some_iff.1 e
       subst e
       have hne : Z[m] ≠ Z[m - 1] := by
         unfold Lib.keeps at hk
         simp only [decide_eq_true_eq] at hk
         rcases hk with hk | hk
         · omega
         · rwa [toArray_get hlt, toArray_get (by omega : m - 1 < Z.length)] at hk
       have h4 := hZ' (m - 1) m (by omega) hlt (by omega)
       have h5 : Z[j] <= Z[m - 1] := by
         by_cases e : j = m - 1
         · subst e; exact Int.le_refl _
         · exact hZ' j (m - 1) hjl (by omega) (by omega)
       omega
     · rw [take_succ_get Z m hlt, List.mem_append, List.mem_append, h2 x]
   · rw [if_neg hk, List.append_nil]
     refine ⟨h1, fun x => ?_, by omega⟩
     have h0 : 0 < m := by
       rcases Nat.eq_zero_or_pos m with e | e
       · subst e; exact absurd (Lib.keeps_lt_one _ 0 (by omega)) hk
       · exact e
     have he : Z[m] = Z[m - 1] := by
       rcases Decidable.em (Z[m] = Z[m - 1]) with e | e
       · exact e
       · exact absurd (Lib.keeps_pos (by rw [toArray_get hlt, toArray_get (by omega : m - 1 < Z.length)]; exact e)) hk
     rw [take_succ_get Z m hlt, List.mem_append, h2 x]
     constructor
     · exact .inl
     · rintro (h | h)
       · exact h
       · simp only [List.mem_singleton] at h
         rw [h, he]
         have : (Z.take m)[m - 1]? = some Z[m - 1] := by rw [List.getElem?_take_of_lt (by omega), List.getElem?_eq_getElem (by omega)]
         exact List.mem_of_getElem? this
theorem compact_len (Z : List Int) : (Lib.compact Z).length <= Z.length := by
 unfold Lib.compact Lib.compactUpTo
 rw [List.length_map]
 exact Nat.le_trans (List.length_filter_le _ _) (by simp)
theorem compact_ordered {A Z : List Int} (hp : Z.Perm A) (hZ : Z.Pairwise (· <= ·)) : Ordered A (Lib.compact Z) := by
 obtain ⟨h1, h2, h3⟩ := compact_inv hZ Z.length (Nat.le_refl _)
 exact ⟨h1, fun x => by rw [show Lib.compact Z = Lib.compactUpTo Z.toArray Z.length from rfl, h2 x, List.take_length]; exact hp.mem_iff, by have := hp.length_eq; unfold Lib.compact; omega⟩
theorem compact_any {w : World} {base e g cap n : Nat} {Z : List Int} (hn : Z.length = n) (h : w.ownsRow base e 1 (.slice (some ⟨g, 0, none⟩) n cap) n (Z.map (Value.int .i64))) (hlen : n < 4611686018427387904) :
   Calls Seq.prog 107 #[.slice (some ⟨g, 0, none⟩) n cap] w fun en w' => en = .returned (.slice (some ⟨g, 0, none⟩) (Lib.compact Z).length cap) /\ ZsAt w' (some ⟨g, 0, none⟩) (Lib.compact Z) /\ w.grownBy w' (some g) := by
 subst hn
 rcases h.2 with ⟨h0, _⟩ | ⟨g', cap', cur, hv, hbase, hh, h1, h2, h3, h4⟩
 · cases h0
 simp only [Value.slice.injEq, Option.some.injEq, Addr.mk.injEq, and_true, true_and] at hv
 obtain ⟨rfl, rfl⟩ := hv
 have hcon := Any.slices_Compact_int Seq.compInt g 0 cap Z w (holds_of_blockI hh (by rw [Nat.mul_one] at h4; exact h4)) (by omega) h1
 change Calls Seq.prog 107 _ _ _ at hcon
 refine hcon.mono ?_
 rintro en w' ⟨rfl, q, rfl⟩
 have hle : (Lib.compact Z).length <= Z.length := compact_len Z
 have ho := ownsRow_sortedI (n := q) (os := #[]) (ss := Z) (ts := Lib.compact Z ++ List.replicate (Z.length - (Lib.compact Z).length) 0) (by simp; omega) hbase hh h1 h2 h3
 have hgr := grownBy_sortedI (w := w) (g := g) (n := q) (os := #[]) (Lib.compact Z ++ List.replicate (Z.length - (Lib.compact Z).length) 0).toArray
 rw [Sort.grow_empty] at ho hgr
 refine ⟨rfl, ?_, hgr⟩
 by_cases h0 : Lib.compact Z = []
 · exact .inl h0
 refine .inr ⟨g, 0, rfl, (ho.lt g rfl).2, fun j hj => ?_⟩
 rw [Nat.zero_add, ho.cellAt j (by omega), List.getElem?_map, List.getElem?_append_left hj, List.getElem?_eq_getElem hj, List.getD_eq_getElem?_getD, List.getElem?_eq_getElem hj]
 rfl
theorem compact_nil (w : World) : Calls Seq.prog 107 #[.slice none 0 0] w fun en w' => en = .returned (.slice none 0 0) /\ w' = w := by
 go_enter Seq.func107, Tryz.ntmps107
 go_wp2
 go_ret
 exact ⟨rfl, rfl⟩
theorem sort_nil (w : World) : Calls Seq.prog 106 #[.slice none 0 0] w fun en w' => en = .returned (.tuple #[]) /\ w' = w := by
 have hcon := Any.slices_Sort_int_none Seq.sortInt none 0 w
 change Calls Seq.prog 106 _ _ _ at hcon
 exact hcon
theorem hideS {p : Prop} (h : p) : Hid p := h
set_option maxRecDepth 100000 in
set_option maxHeartbeats 4000000 in
theorem clone1_any (ao : Option Addr) (cap : Nat) (A : List Int) (w : World) (hz : ZsAt w ao A) (h8 : A.length <= 800) :
   Calls Seq.prog 105 #[.slice ao A.length cap] w fun e w' => ∃ v', e = .returned v' /\ w'.ownsRow w.heap.size 3 1 v' A.length (A.map (Value.int .i64)) /\ Below w.heap.size w w' := by
 obtain ⟨i0, hi, hz0, hz1, hz2⟩ := info_parts Tryz.infoInt
 have q22 : ∀ (w : World) (a : Option Addr) (n c n' c' : Nat), (binOp .eql 38 (.slice a n c) (.slice none n' c')).run Seq.prog w = .ok (.bool a.isNone) w := fun w a n c n' c' => Lib.run_eql_slice_nil w _ _ a n c n' c' ((Seq.pu 38).trans Tryz.underlying38)
 cases ao with
 | none =>
   have h0 : A = [] := by
     rcases hz with h | ⟨b, off, e, _⟩
     · exact h
     · cases e
   subst h0
   clear hz
   go_enter Seq.func105, Tryz.ntmps105
   go_wp2
   go_ret
   exact ⟨_, rfl, World.ownsRow_nil _ _ _ _, Below.refl _ _⟩
 | some a =>
   have hc : ∀ o, ∀ j u, (A.map (Value.int .i64))[j]? = some u -> (w.alloc o).cell? (a.add j) = some u := by
     intro o j u hu
     have hj : j < A.length := by have := (List.getElem?_eq_some_iff.1 hu).1; simpa using this
     rcases hz.below (pal w o) with h | ⟨b, off, e, _, hc⟩
     · rw [h] at hj; simp at hj
     · simp only [Option.some.injEq] at e
       subst e
       rw [Go.WideShapes.add_plain, hc j hj]
       rw [List.getElem?_map, List.getElem?_eq_getElem hj] at hu
       simp only [Option.map_some, Option.some.injEq] at hu
       rw [<- hu, List.getD_eq_getElem?_getD, List.getElem?_eq_getElem hj]
       rfl
   have HC := hideS hc
   have HONE : Hid (∀ u ∈ A.map (Value.int .i64), u.oneCell' = true) := by intro u hu; rw [List.mem_map] at hu; obtain ⟨z, _, rfl⟩ := hu; rfl
   have HEL : Hid ((A.map (Value.int .i64)).length = A.length * 1) := by show _ = _; simp
   clear hc hz
   go_enter Seq.func105, Tryz.ntmps105
   go_wp2_with (at_builtin; refine wpList_append_own _ rfl _ _ 38 rfl w.heap.size 3 i0 (.int .i64 0) 1 8 ((Seq.pu 38).trans Tryz.underlying38) hi hz0 hz1 hz2 rfl (by decide) _ _ _ rfl (World.ownsRow_made w #[] 0 (Nat.le_refl _) (Nat.zero_le _) rfl) a A.length cap (A.map (Value.int .i64)) rfl HEL.out (HC.out _) HONE.out (by unfold maxLen; omega) (by omega) (by simp) ?_; intro v' w1 hown hgrow hnil)
   have hb : Below w.heap.size w w1 := ((Below.refl _ w).alloc (Nat.le_refl _) _).grown hgrow (by simp) (fun k hk => by cases hk; exact Nat.le_refl _)
   have R : w1.ownsRow w.heap.size 3 1 v' A.length (A.map (Value.int .i64)) := by simpa using hown
   clear hown hgrow hnil
   go_wp2
   go_ret
   exact ⟨v', rfl, R, hb⟩
def spn (S : List Int) (j : Nat) : List (Int × Int) := (List.range j).map fun i => (S.getD i 0, S.getD (i + 1) 0)
theorem spn_length (S : List Int) (j : Nat) : (spn S j).length = j := by simp [spn]
theorem spn_get (S : List Int) (j k : Nat) (h : k < j) (hS : k + 1 < S.length) : (spn S j).getD k (0, 0) = (S[k], S[k + 1]) := by
 simp [spn, List.getD_eq_getElem?_getD, h, hS, show k < S.length by omega]
theorem encs_spn (S : List Int) (j : Nat) (h : j + 1 < S.length) : encs (spn S (j + 1)) = encs (spn S j) ++ [.int .i64 S[j], .int .i64 S[j + 1]] := by
 unfold spn
 rw [List.range_succ, List.map_append]
 unfold encs flat
 rw [List.flatMap_append, List.map_append]
 simp [List.getD_eq_getElem?_getD, h, show j < S.length by omega]
set_option maxRecDepth 100000 in
set_option maxHeartbeats 4000000 in
theorem spans_any (ao : Option Addr) (ca : Nat) (A : List Int) (w : World) (hz : ZsAt w ao A) (h8 : A.length <= 800) :
   Calls Seq.prog 98 #[.slice ao A.length ca] w fun e w' => ∃ S v, e = .returned v /\ Ordered A S /\ w'.ownsRow w.heap.size 88 2 v (S.length - 1) (encs (spn S (S.length - 1))) /\ Below w.heap.size w w' := by
 obtain ⟨i0, hi, hz0, hz1, hz2⟩ := info_parts Tryz.infoIvl
 have hcl := clone1_any ao ca A w hz h8
 clear hz
 go_enter Seq.func98, Tryz.ntmps98
 go_wp2_with fail
 refine hcl.mono ?_
 rintro e w0 ⟨v0, rfl, hown0, hb0⟩
 clear hcl
 have hcase := hown0.2
 rcases hcase with ⟨rfl, h0⟩ | ⟨g, cap, cur, rfl, _⟩
 · have hA : A = [] := List.eq_nil_of_length_eq_zero h0
   have hs := fun W => sort_nil W
   have hk := fun W => compact_nil W
   have HO : Hid (Ordered A []) := by rw [hA]; exact ⟨List.Pairwise.nil, fun x => Iff.rfl, Nat.le_refl _⟩
   clear hown0 h0 hA
   go_wp2_with (first | (go_at_call 106; refine (hs _).mono ?_; rintro e w' ⟨rfl, rfl⟩) | (go_at_call 107; refine (hk _).mono ?_; rintro e w' ⟨rfl, rfl⟩))
   refine wp_loop_rounds 1 ?_
   rw [rounds_succ]
   go_wp2
   go_ret
   exact ⟨[], _, rfl, HO.out, World.ownsRow_nil _ _ _ _, by assumption⟩
 · have hgW := (hown0.lt g rfl).1
   have hsort := sortInts_any hown0 (by omega)
   clear hown0
   go_wp2_with fail
   refine hsort.mono ?_
   rintro e w1 ⟨rfl, Z, hpZ, hZ, hown1, hg1⟩
   have hb1 : Below w.heap.size w w1 := hb0.grown hg1 hb0.size (fun k hk => by cases hk; exact hgW)
   have hcomp := compact_any hpZ.length_eq hown1 (by omega)
   have HO : Hid (Ordered A (Lib.compact Z)) := compact_ordered hpZ hZ
   clear hpZ hZ hown1 hg1 hsort hb0
   generalize Lib.compact Z = S at HO hcomp
   have hSl : S.length <= 800 := Nat.le_trans HO.out.len h8
   go_wp2_with fail
   refine hcomp.mono ?_
   rintro e w2 ⟨rfl, hz2', hg2⟩
   have hb2 : Below w.heap.size w w2 := hb1.grown hg2 hb1.size (fun k hk => by cases hk; exact hgW)
   clear hg2 hb1 hcomp
   go_wp2_with fail
   go_loopw [4, 5] (fun v vi wr => ∃ (j : Nat), vi = .int .i64 ((j : Int) + 1) /\ (j = 0 \/ j + 1 <= S.length) /\ wr.ownsRow w2.heap.size 88 2 v j (encs (spn S j)) /\ Below w2.heap.size w2 wr) (fun _ vi _ => S.length + 1 - (intOf vi).toNat)
   case atStart => exact ⟨0, rfl, .inl rfl, World.ownsRow_nil _ _ _ _, Below.refl _ _⟩
   case round =>
     obtain ⟨j, rfl, hil, hown, hb⟩ := hrel
     have hj8 : j <= 800 := by omega
     have hsz := hb.size
     by_cases hlt : j + 1 < S.length
     · rcases hz2' with h0 | ⟨b, off, e0, hbw, hc⟩
       · subst h0; simp at hlt
       simp only [Option.some.injEq, Addr.mk.injEq, and_true] at e0
       obtain ⟨rfl, rfl⟩ := e0
       have c0 : wr.cell? ⟨g, j, none⟩ = some (.int .i64 S[j]) := by
         have := hc j (by omega)
         rw [Nat.zero_add] at this
         rw [hb.cell (p := ⟨g, j, none⟩) hbw, this, List.getD_eq_getElem?_getD, List.getElem?_eq_getElem (by omega)]; rfl
       have c1 : wr.cell? ⟨g, j + 1, none⟩ = some (.int .i64 S[j + 1]) := by
         have := hc (j + 1) (by omega)
         rw [Nat.zero_add] at this
         rw [hb.cell (p := ⟨g, j + 1, none⟩) hbw, this, List.getD_eq_getElem?_getD, List.getElem?_eq_getElem (by omega)]; rfl
       have HE := hideS (encs_spn S j hlt)
       have hne : some g ≠ u4.ownBlock := fun h => by have := (hown.lt g h.symm).1; omega
       have hbr : g < wr.heap.size := by omega
       have hi1 : (j : Int) + 1 < (S.length : Int) := by omega
       have hi2 : (j : Int) < (S.length : Int) := by omega
       have hi3 : (0 : Int) <= (j : Int) := by omega
       have hi4 : (0 : Int) <= (j : Int) + 1 := by omega
       have hw1 : IntKind.i64.wrap ((j : Int) + 1 - 1) = (j : Int) := by rw [Int.add_sub_cancel]; exact wrap_small _ (by omega) (by omega)
       have hw2 : IntKind.i64.wrap (j : Int) = (j : Int) := wrap_small _ (by omega) (by omega)
       have HB : Hid (∀ (o : Obj) (w1 : World), ((wr.alloc o).drew).grownBy w1 u4.ownBlock -> Below w2.heap.size w2 w1) := fun o w1 hgr => ((hb.alloc hsz o).drew).grown hgr (by simp; omega) (fun j hj => (hown.lt j hj).1)
       clear hc
       go_wp2
       go_region_held3 (fun w' => w'.cell? ⟨g, j, none⟩ = some (.int .i64 S[j]) /\ w'.cell? ⟨g, j + 1, none⟩ = some (.int .i64 S[j + 1]))
         (first
           | go_keep
           | (go_split_ands
              refine ⟨?_, ?_⟩
              · (rw [hgrow.cell_far _ (by simp; omega) hne]; assumption)
              · (rw [hgrow.cell_far _ (by simp; omega) hne]; assumption)))
         ((refine step_append_lies _ (by rfl) _ _ _ (by rfl) w2.heap.size 88 i0 _ 2 16 ((Seq.pu 22).trans Tryz.underlying22) hi hz0 hz1 hz2 rfl (by omega) u4 j (encs (spn S j)) (by rfl) ((hown.alloc _).drew) ⟨wr.heap.size, 0, none⟩ 1 1 [.int .i64 S[j], .int .i64 S[j + 1]] (by rfl) (by rfl) (World.news_of_block (cs := #[.int .i64 S[j], .int .i64 S[j + 1]]) (t := 88) (fr := (0, 0)) (heap_alloc_new wr _)) (by simp [Value.oneCell']) (by omega) (by unfold maxLen; omega) (by omega) (by simp; omega) (wr.heap.size + 1) (by simp) ?_; intro gg cap1 w3 hown1 hgrow hat hltg))
       have hb' := HB.out _ _ hgrow
       rw [<- HE.out] at hown1
       clear hgrow hown hat hltg hne
       go_wp2
       go_roundw
       case rel => exact ⟨j + 1, by go_num, .inr (by omega), hown1, hb'⟩
       case measure => simp [intOf]; omega
     · have hil' : j = S.length - 1 := by omega
       have HR : Hid (wr.ownsRow w.heap.size 88 2 u4 (S.length - 1) (encs (spn S (S.length - 1)))) := by
         show World.ownsRow _ _ _ _ _ _ _
         rw [<- hil']; exact owns_base2 hown hb2.size
       have hbb := ptw hb2 hb
       have hi1 : ¬ ((j : Int) + 1 < (S.length : Int)) := by omega
       clear hown hil' hz2'
       go_wp2
       go_ret
       exact ⟨S, _, rfl, HO.out, HR.out, hbb⟩
end Go.Proofs.YthgelfnflafoiaeGreat.Q
