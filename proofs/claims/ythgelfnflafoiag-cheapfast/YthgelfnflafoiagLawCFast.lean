/-
  The law CheapFast, walked.
-/
import Derived.Test.YthgelfnflafoiagChLaw
import Derived.Test.YthgelfnflafoiagErC
import Derived.Test.YthgelfnflafoiagPair
import Derived.Test.YthgelfnflafoiagLawCSays0
namespace Go.Proofs.Ythgelfnflafoiag
open Go.RowKit

theorem pair_chkF : gChk gPair = 0 := by decide +kernel
theorem pair_rch {s x t : Int} (h : Rch gPair 0 s x t) : (x = 0 ∧ s ≤ t) ∨ (x = 1 ∧ ∃ d, 1 ≤ d ∧ s ≤ d ∧ d + 3 ≤ t) := by
  have R := gChk_right pair_chkF
  have hr : ∀ r ∈ ridesF gPair, r.2.2.1 = 0 ∧ r.2.2.2.1 = 1 ∧ 1 ≤ r.2.1 ∧ r.2.2.2.2.1 = r.2.1 + 3 := by decide +kernel
  induction h with
  | base _ => exact .inl ⟨rfl, Int.le_refl _⟩
  | wait _ _ ih =>
    rcases ih with ⟨h1, h2⟩ | ⟨h1, d, h2, h3, h4⟩
    · exact .inl ⟨h1, by omega⟩
    · exact .inr ⟨h1, d, h2, h3, by omega⟩
  | @ride t q i hi h hq ih =>
    have hm := hr _ (ride_mem R hi (h.place R (by omega)).2.2.1 hq)
    simp only at hm
    rcases ih with ⟨h1, h2⟩ | ⟨h1, d, h2, h3, h4⟩
    · exact .inr ⟨hm.2.1, t, hm.2.2.1, h2, by omega⟩
    · rw [hm.1] at h1; omega
theorem pair_fast : FastIs gPair 0 1 3 1 0 := by
  have R := gChk_right pair_chkF
  have hm : ((0 : Int), (1 : Int), (0 : Int), (1 : Int), (4 : Int), (7 : Int)) ∈ ridesF gPair := by decide +kernel
  refine .inr ⟨rfl, ?_, fun s t h => ?_, fun s h => ?_⟩
  · exact (mem_rides R hm).go (.base (by decide))
  · rcases pair_rch h with ⟨h1, _⟩ | ⟨_, d, h2, h3, h4⟩ <;> omega
  · rcases pair_rch h with ⟨h1, _⟩ | ⟨_, d, h2, h3, h4⟩ <;> omega
theorem pair_fastE {d a e : Int} (h : FastE gPair 0 1 d a e) : d = 3 ∧ a = 1 ∧ e = 0 := fast_unique (fastE_in h pair_chkF ⟨by decide, by decide⟩) pair_fast
/-- what is told of the fastest, held against what is told from one time -/
theorem fastE_split {g : Gr} {v q d a e : Int} (t : Int) (h : FastE g v q d a e) : (e ≠ 0 ∧ d = 0 ∧ a = 0 ∧ (placeE g v t ≠ 0 ∨ (placeE g v t = 0 ∧ (q < 0 ∨ (0 ≤ q ∧ (g.lives.length : Int) ≤ q) ∨ ((0 ≤ q ∧ q < (g.lives.length : Int)) ∧ (erF g v t).1.getD q.toNat 0 = 1099511627776))))) ∨
    (e = 0 ∧ (0 ≤ q ∧ q < (g.lives.length : Int)) ∧ placeE g v a = 0 ∧ (0 ≤ a ∧ a < 100) ∧ (0 ≤ d ∧ d < 100) ∧ (erF g v a).1.getD q.toNat 0 = a + d ∧ (placeE g v t = 0 → (erF g v t).1.getD q.toNat 0 < 1099511627776 → d ≤ (erF g v t).1.getD q.toNat 0 - t ∧ ((erF g v t).1.getD q.toNat 0 - t = d → a ≤ t))) := by
  rcases h with ⟨h0, rfl, rfl, rfl⟩ | ⟨h0, hn, rfl, rfl, rfl⟩ | ⟨h0, ⟨hv, hq⟩, hF⟩
  · exact .inl ⟨h0, rfl, rfl, .inl (by rw [placeE_chk h0]; exact h0)⟩
  · refine .inl ⟨by omega, rfl, rfl, ?_⟩
    by_cases e1 : placeE g v t = 0
    · obtain ⟨_, hv, _⟩ := placeE_zero e1
      have hq : ¬ (0 ≤ q ∧ q < (g.lives.length : Int)) := fun hq => hn ⟨hv, hq⟩
      exact .inr ⟨e1, by omega⟩
    · exact .inl e1
  · have R := gChk_right h0
    have hh := R.hor
    have eq : ((q.toNat : Nat) : Int) = q := by omega
    have hin : ∀ s, placeE g v s = 0 → (erF g v s).1.getD q.toNat 0 < 1099511627776 → Rch g v s q ((erF g v s).1.getD q.toNat 0) := fun s hs hlt => by
      by_cases ha : aliveB s g.lives v = true
      · rcases (erF_ok R hv.1 ha).1.is q.toNat (by omega) with k | k
        · omega
        · rw [eq] at k; exact k
      · rw [erF_away ha, rep_getD _ _ _ (by omega)] at hlt; omega
    rcases hF with ⟨rfl, rfl, rfl, hno⟩ | ⟨rfl, hr, hmin, hfst⟩
    · refine .inl ⟨by omega, rfl, rfl, ?_⟩
      by_cases e1 : placeE g v t = 0
      · refine .inr ⟨e1, .inr (.inr ⟨hq, ?_⟩)⟩
        have := (er_le R (t := t) hv.1 (x := q.toNat) (by omega)).2.1
        by_cases hlt : (erF g v t).1.getD q.toNat 0 < 1099511627776
        · exact absurd (hin t e1 hlt) (hno _ _)
        · omega
      · exact .inl e1
    · have ha := alive_hor R hr.src
      have hpl : placeE g v a = 0 := by
        unfold placeE
        rw [if_pos h0, if_pos ((inR_iff _ _ _).2 ⟨hv.1, by omega⟩), if_pos ((inR_iff _ _ _).2 ⟨ha.2.1, by omega⟩)]
      have hp2 := (hr.place R hv.1).2.2
      have hle := hr.le R
      have h1 := (erF_ok R hv.1 hr.src).2 _ _ hr
      have h2 := hmin _ _ (hin a hpl (by omega))
      refine .inr ⟨rfl, hq, hpl, ⟨by omega, by omega⟩, ⟨by omega, by omega⟩, by omega, fun e1 hlt => ?_⟩
      have h3 := hin t e1 hlt
      refine ⟨hmin _ _ h3, fun e2 => hfst t ?_⟩
      rw [show t + d = (erF g v t).1.getD q.toNat 0 by omega]; exact h3

set_option maxRecDepth 100000 in
set_option maxHeartbeats 1000000 in
theorem cheapFast_walk (g : Gr) (la ea : Option Addr) (lc ec : Nat) (v q t : Int) (w : World) (hG : GAt w la ea g) :
    Calls Try.prog 3 #[.agg #[.int .i64 g.hor, .slice la g.lives.length lc, .slice ea g.edges.length ec], .int .i64 v, .int .i64 q, .int .i64 t] w fun r w' => r = .returned (.bool true) ∧ Below w.heap.size w w' := by
  have B0 := gbx_start w g la ea lc ec 25
  have HPp := hideg (fun W => pair_any W)
  have HP1 := hideg (fun la ea W (hG : GAt W la ea gPair) => cFastest_any gPair la ea 2 1 0 1 W hG)
  have HPc : Hid (∀ d a e, FastE gPair 0 1 d a e → d = 3 ∧ a = 1 ∧ e = 0) := fun d a e h => pair_fastE h
  generalize gPair = gp at *
  have HF := hideg (fun W (hb : Below w.heap.size w W) => cFastest_any g la ea lc ec v q W (hG.below hb))
  have HA := hideg (fun s W (hb : Below w.heap.size w W) => eArr_any g la ea lc ec v s W (hG.below hb))
  have HAr : Hid (∀ s, placeE g v s = 0 → arrA g v s = (erF g v s).1 ∧ (arrA g v s).length = g.lives.length ∧ 0 < g.lives.length) := fun s hs => by
    have e : arrA g v s = (erF g v s).1 := by unfold arrA; rw [if_pos hs]
    obtain ⟨_, hv, _⟩ := placeE_zero hs
    exact ⟨e, by rw [e]; exact (erF_len g v s).1, by omega⟩
  have HLe : Hid (∀ x : Nat, placeE g v t = 0 → x < g.lives.length → 0 ≤ (erF g v t).1.getD x 0 ∧ (erF g v t).1.getD x 0 ≤ 1099511627776 ∧ 0 ≤ t ∧ t < 100) := fun x hs hx => by
    obtain ⟨h0, hv, ht⟩ := placeE_zero hs
    have R := gChk_right h0
    have hh := R.hor
    have := er_le R (t := t) hv.1 hx
    exact ⟨this.1, this.2.1, by omega, by omega⟩
  have hnl : g.lives.length ≤ 9223372036854775807 := hG.nl
  clear hG
  go_enter Try.func3, Try.ntmps3
  go_wp2_with fail
  refine (HPp.out _).mono ?_
  rintro r w1 ⟨la1, ea1, rfl, hG1, hb1⟩
  have B1 := B0.below hb1
  have h2 := HP1.out la1 ea1 w1 hG1
  clear hb1 B0 hG1 HPp HP1
  go_wp2_with fail
  refine h2.mono ?_
  rintro r w2 ⟨d2, a2, e2, rfl, hE2, hb2⟩
  obtain ⟨rfl, rfl, rfl⟩ := HPc.out d2 a2 e2 hE2
  have B2 := B1.below hb2
  have h3 := HF.out w2 B2.bel
  clear h2 hb2 B1 hE2 HPc HF
  have g0 := B2.c0
  have g1 := B2.c1
  have g2 := B2.c2
  go_wp2_with fail
  refine h3.mono ?_
  rintro r w3 ⟨d, a, e, rfl, hE3, hb3⟩
  have B3 := B2.below hb3
  have h4 := HA.out t w3 B3.bel
  have HS := hideg (fastE_split t hE3)
  clear h3 hb3 B2 hE3 g0 g1 g2
  have g0 := B3.c0
  have g1 := B3.c1
  have g2 := B3.c2
  go_wp2_with fail
  refine h4.mono ?_
  rintro r w4 ⟨uA, rfl, hoA, hb4⟩
  have B4 := B3.below hb4
  clear h4 hb4 B3 g0 g1 g2
  have hbF := B4.bel
  rcases HS.out with ⟨he, rfl, rfl, hS⟩ | ⟨rfl, hq, hpa, ⟨ha0, ha1⟩, ⟨hd0, hd1⟩, hT2, hS⟩
  · have de : (e != 0) = true := by simpa using he
    clear HS HA
    rcases hS with e1 | ⟨e1, hS⟩
    · have d1 : (placeE g v t != 0) = true := by simpa using e1
      generalize placeE g v t = n at *
      clear e1 hoA B4 HAr HLe
      go_wp2
      go_ret
      exact ⟨rfl, hbF⟩
    · obtain ⟨eA, hlA, hn0⟩ := HAr.out t e1
      rw [hlA] at hoA
      rcases hoA.2 with ⟨_, h0⟩ | ⟨gA, cA, curA, rfl, _⟩
      · omega
      rw [e1]
      rcases hS with hq | ⟨hq0, hq1⟩ | ⟨hq, hi⟩
      · have dq : decide (q < 0) = true := by simpa using hq
        clear hoA B4 HAr HLe
        go_wp2
        go_ret
        exact ⟨rfl, hbF⟩
      · have dq : decide (q < 0) = false := by simp; omega
        have dq2 : decide ((g.lives.length : Int) ≤ q) = true := by simpa using hq1
        clear hoA B4 HAr HLe
        go_wp2
        go_ret
        exact ⟨rfl, hbF⟩
      · obtain ⟨Q, rfl⟩ : ∃ Q : Nat, q = (Q : Int) := ⟨q.toNat, by omega⟩
        have hQ : Q < g.lives.length := by omega
        have hQi : (Q : Int) < (g.lives.length : Int) := by omega
        have cQ := Zo.cell hoA hQ
        rw [eA] at cQ
        simp only [Int.toNat_natCast] at hi
        rw [hi] at cQ
        clear hoA B4 HAr HLe hi
        go_wp2
        go_ret
        exact ⟨rfl, hbF⟩
  · obtain ⟨Q, rfl⟩ : ∃ Q : Nat, q = (Q : Int) := ⟨q.toNat, by omega⟩
    have hQ : Q < g.lives.length := by omega
    have hQi : (Q : Int) < (g.lives.length : Int) := by omega
    simp only [Int.toNat_natCast] at hT2 hS
    have h5 := HA.out a
    rw [hpa] at h5
    have H5 := hideg h5
    have HA2 := hideg (HAr.out a hpa)
    have hwad : IntKind.i64.wrap (a + d) = a + d := wrap_nj _ (by omega) (by omega)
    clear HS HA h5
    by_cases e1 : placeE g v t = 0
    · obtain ⟨eA, hlA, hn0⟩ := HAr.out t e1
      obtain ⟨hx0, hx1, ht0, ht1⟩ := HLe.out Q e1 hQ
      have hS := hS e1
      rw [hlA] at hoA
      rcases hoA.2 with ⟨_, h0⟩ | ⟨gA, cA, curA, rfl, _⟩
      · omega
      have cQ := Zo.cell hoA hQ
      rw [eA] at cQ
      rw [e1]
      generalize (erF g v t).1.getD Q 0 = x at *
      have hwx : IntKind.i64.wrap (x - t) = x - t := wrap_nj _ (by omega) (by omega)
      clear hoA HAr HLe eA hlA e1
      by_cases hx : x < 1099511627776
      · have dx : decide (x < 1099511627776) = true := by simpa using hx
        obtain ⟨k1, k2⟩ := hS hx
        have dd : decide (x - t < d) = false := by simp; omega
        by_cases hxd : x - t = d
        · have dxd : (x - t == d) = true := by simpa using hxd
          have dta : decide (t < a) = false := by have := k2 hxd; simp; omega
          clear hS k1 k2 hxd
          have g0 := B4.c0
          have g1 := B4.c1
          have g2 := B4.c2
          have h6 := H5.out w4 B4.bel
          clear H5
          go_wp2_with fail
          refine h6.mono ?_
          rintro r w6 ⟨u6, rfl, ho6, hb6⟩
          obtain ⟨eB, hlB, hn1⟩ := HA2.out
          rw [hlB] at ho6
          rcases ho6.2 with ⟨_, h0⟩ | ⟨gB, cB, curB, rfl, _⟩
          · omega
          have cB2 := Zo.cell ho6 hQ
          rw [eB, hT2] at cB2
          have hbG := (B4.below hb6).bel
          clear h6 hb6 ho6 B4 g0 g1 g2 HA2 eB hlB hbF
          go_wp2
          go_ret
          exact ⟨rfl, hbG⟩
        · have dxd : (x - t == d) = false := by simpa using hxd
          clear hS k1 k2 hxd
          have g0 := B4.c0
          have g1 := B4.c1
          have g2 := B4.c2
          have h6 := H5.out w4 B4.bel
          clear H5
          go_wp2_with fail
          refine h6.mono ?_
          rintro r w6 ⟨u6, rfl, ho6, hb6⟩
          obtain ⟨eB, hlB, hn1⟩ := HA2.out
          rw [hlB] at ho6
          rcases ho6.2 with ⟨_, h0⟩ | ⟨gB, cB, curB, rfl, _⟩
          · omega
          have cB2 := Zo.cell ho6 hQ
          rw [eB, hT2] at cB2
          have hbG := (B4.below hb6).bel
          clear h6 hb6 ho6 B4 g0 g1 g2 HA2 eB hlB hbF
          go_wp2
          go_ret
          exact ⟨rfl, hbG⟩
      · have dx : decide (x < 1099511627776) = false := by simp; omega
        clear hS
        have g0 := B4.c0
        have g1 := B4.c1
        have g2 := B4.c2
        have h6 := H5.out w4 B4.bel
        clear H5
        go_wp2_with fail
        refine h6.mono ?_
        rintro r w6 ⟨u6, rfl, ho6, hb6⟩
        obtain ⟨eB, hlB, hn1⟩ := HA2.out
        rw [hlB] at ho6
        rcases ho6.2 with ⟨_, h0⟩ | ⟨gB, cB, curB, rfl, _⟩
        · omega
        have cB2 := Zo.cell ho6 hQ
        rw [eB, hT2] at cB2
        have hbG := (B4.below hb6).bel
        clear h6 hb6 ho6 B4 g0 g1 g2 HA2 eB hlB hbF
        go_wp2
        go_ret
        exact ⟨rfl, hbG⟩
    · have d1 : (placeE g v t == 0) = false := by simpa using e1
      generalize placeE g v t = n at *
      clear e1 hoA HAr HLe hS
      have g0 := B4.c0
      have g1 := B4.c1
      have g2 := B4.c2
      have h6 := H5.out w4 B4.bel
      clear H5
      go_wp2_with fail
      refine h6.mono ?_
      rintro r w6 ⟨u6, rfl, ho6, hb6⟩
      obtain ⟨eB, hlB, hn1⟩ := HA2.out
      rw [hlB] at ho6
      rcases ho6.2 with ⟨_, h0⟩ | ⟨gB, cB, curB, rfl, _⟩
      · omega
      have cB2 := Zo.cell ho6 hQ
      rw [eB, hT2] at cB2
      have hbG := (B4.below hb6).bel
      clear h6 hb6 ho6 B4 g0 g1 g2 HA2 eB hlB hbF
      go_wp2
      go_ret
      exact ⟨rfl, hbG⟩

end Go.Proofs.Ythgelfnflafoiag
