/-
  SameGraph of the reference: of any two graphs.
-/
import Derived.Test.YteibdmfcclkjpadSame
namespace Go.Proofs.Yteibdmfcclkjpad
open Go.RowKit

instance lgSame : DecidableEq (List Lg) := inferInstance
instance lgSame2 : DecidableEq (Int × List Lg) := instDecidableEqProd
instance edSame : DecidableEq Ed := instDecidableEqProd

set_option maxHeartbeats 2000000 in
set_option maxRecDepth 100000 in
theorem sameEd2_any (A B A' B' : Int) (legs legs' : List Lg) (lo lp : Option Addr) (c1 c2 : Nat) (w : World) (hA : LgAt w lo legs) (hB : LgAt w lp legs') (hl : legs.length ≤ 9223372036854775807) :
    Calls Try.prog 38 #[.agg #[.int .i64 A, .int .i64 B, .slice lo legs.length c1], .agg #[.int .i64 A', .int .i64 B', .slice lp legs'.length c2]] w fun e w' => e = .returned (.bool (decide ((A, B, legs) = (A', B', legs')))) ∧ Below w.heap.size w w' := by
  have hE : Hid (∀ o o', Calls Try.prog 39 #[.slice lo legs.length c1, .slice lp legs'.length c2] ((w.alloc o).alloc o') fun e w' => e = .returned (.bool (decide (legs = legs'))) ∧ Below w.heap.size w w') := fun o o' => by
    have hb := ptg (gal w o) (gal _ o')
    refine (EqLg_any lo lp c1 c2 legs legs' _ (hA.below hb) (hB.below hb) hl).mono ?_
    rintro e w' ⟨rfl, h⟩
    exact ⟨rfl, ptg hb h⟩
  have hbb := fun o o' => ptg (gal w o) (gal _ o')
  have HBB := hideg hbb
  clear hA hB hbb
  by_cases e1 : A = A'
  · subst e1
    by_cases e2 : B = B'
    · subst e2
      have HQ : Hid (decide ((A, B, legs) = (A, B, legs')) = decide (legs = legs')) := by show _ = _; simp
      go_enter Try.func38, Try.ntmps38
      go_wp2_with fail
      refine (hE.out _ _).mono ?_
      rintro e w' ⟨rfl, hb⟩
      go_wp2
      go_ret
      exact ⟨ret_bool HQ.out.symm, hb⟩
    · have HQ : Hid (decide ((A, B, legs) = (A, B', legs')) = false) := by show _ = _; simp [e2]
      have d : (B == B') = false := by simpa using e2
      clear e2 hE
      go_enter Try.func38, Try.ntmps38
      go_wp2
      go_ret
      exact ⟨ret_bool HQ.out.symm, HBB.out _ _⟩
  · have HQ : Hid (decide ((A, B, legs) = (A', B', legs')) = false) := by show _ = _; simp [e1]
    have d : (A == A') = false := by simpa using e1
    clear e1 hE
    go_enter Try.func38, Try.ntmps38
    go_wp2
    go_ret
    exact ⟨ret_bool HQ.out.symm, HBB.out _ _⟩

set_option maxHeartbeats 2000000 in
set_option maxRecDepth 100000 in
theorem EqFunc2_any (ea eb : Option Addr) (ca cb : Nat) (es fs : List Ed) (w : World) (hA : EdAt w ea es) (hB : EdAt w eb fs) (hl : es.length ≤ 9223372036854775807) :
    Calls Try.prog 37 #[.slice ea es.length ca, .slice eb fs.length cb, .func (.func 38) #[] #[]] w fun e w' => e = .returned (.bool (decide (es = fs))) ∧ Below w.heap.size w w' := by
  by_cases hlen : es.length = fs.length
  · have HLN : Hid (es.length = fs.length) := hlen
    rw [← hlen]
    have hne : ((es.length : Int) != (es.length : Int)) = false := by simp
    clear hlen
    go_enter Try.func37, Try.ntmps37
    go_wp2
    go_loopw [17] (fun i wr => ∃ k : Nat, k ≤ es.length ∧ i = .int .i64 k ∧ es.take k = fs.take k ∧ Below w.heap.size w wr) (fun i _ => es.length - (intOf i).toNat)
    case atStart => exact ⟨0, Nat.zero_le _, rfl, rfl, Below.refl _ _⟩
    case round =>
      obtain ⟨k, hk, rfl, hh, hb⟩ := hrel
      have HH : Hid (es.take k = fs.take k) := hh
      clear hh
      by_cases hlt : k < es.length
      · have hlt' : k < fs.length := by have := HLN.out; omega
        rcases hA.below hb with h0 | ⟨b1, o1, rfl, hb1, hc1⟩
        · subst h0; simp at hlt
        rcases hB.below hb with h0 | ⟨b2, o2, rfl, hb2, hc2⟩
        · subst h0; simp at hlt'
        obtain ⟨p0, p1, lo, c1, p2, hL1, _, hm1⟩ := hc1 k hlt
        obtain ⟨q0, q1, lp, c2, q2, hL2, _, _⟩ := hc2 k hlt'
        have hll : es[k].2.2.length ≤ 9223372036854775807 := by omega
        have HY : Hid (es[k] = fs[k] → es.take (k + 1) = fs.take (k + 1)) := fun g => by rw [take_succ_get es k hlt, take_succ_get fs k hlt', HH.out, g]
        have HN : Hid (¬ es[k] = fs[k] → decide (es = fs) = false) := fun g => by
          rw [decide_eq_false_iff_not]
          intro h; subst h; exact g rfl
        have i1 : (k : Int) < (es.length : Int) := by omega
        have i2 : (0 : Int) ≤ (k : Int) := by omega
        clear hc1 hc2 hA hB
        generalize es[k] = e at *
        generalize fs[k] = f at *
        obtain ⟨A, B, legs⟩ := e
        obtain ⟨A', B', legs'⟩ := f
        simp only at p0 p1 p2 q0 q1 q2 hL1 hL2 hll
        have hE : Hid (∀ o o', Calls Try.prog 38 #[.agg #[.int .i64 A, .int .i64 B, .slice lo legs.length c1], .agg #[.int .i64 A', .int .i64 B', .slice lp legs'.length c2]] ((wr.alloc o).alloc o') fun e w' => e = .returned (.bool (decide ((A, B, legs) = (A', B', legs')))) ∧ Below w.heap.size w w') := fun o o' => by
          have hb' := ptg (gal wr o) (gal _ o')
          refine (sameEd2_any A B A' B' legs legs' lo lp c1 c2 _ (hL1.below hb') (hL2.below hb') hll).mono ?_
          rintro e w' ⟨rfl, h⟩
          exact ⟨rfl, ptg hb (ptg hb' h)⟩
        clear hL1 hL2
        by_cases g : (A, B, legs) = (A', B', legs')
        · have hg : decide ((A, B, legs) = (A', B', legs')) = true := by simpa using g
          rw [hg] at hE
          have HC := hideg (HY.out g)
          clear g hg HY HN
          go_wp2_with fail
          refine (hE.out _ _).mono ?_
          rintro e w' ⟨rfl, hb'⟩
          go_wp2
          go_roundw
          case rel => exact ⟨k + 1, by omega, by go_num, HC.out, hb'⟩
          case measure => simp [intOf]; omega
        · have hg : decide ((A, B, legs) = (A', B', legs')) = false := decide_eq_false g
          rw [hg] at hE
          have HC := hideg (HN.out g)
          clear g hg HY HN
          go_wp2_with fail
          refine (hE.out _ _).mono ?_
          rintro e w' ⟨rfl, hb'⟩
          go_wp2
          go_ret
          exact ⟨ret_bool HC.out.symm, hb'⟩
      · have hkl : k = es.length := by omega
        have HC : Hid (decide (es = fs) = true) := by
          show _ = _
          have := HH.out
          rw [hkl, List.take_length, HLN.out, List.take_length] at this
          rw [this]; simp
        go_wp2
        go_ret
        exact ⟨ret_bool HC.out.symm, hb⟩
  · have hne : ((es.length : Int) != (fs.length : Int)) = true := by simp; omega
    have HC : Hid (decide (es = fs) = false) := by
      show _ = _
      rw [decide_eq_false_iff_not]
      intro h; subst h; exact hlen rfl
    clear hlen
    go_enter Try.func37, Try.ntmps37
    go_wp2
    go_ret
    exact ⟨ret_bool HC.out.symm, Below.refl _ _⟩

set_option maxHeartbeats 2000000 in
set_option maxRecDepth 100000 in
theorem Same_other (g g' : Gr) (la ea lb eb : Option Addr) (lc ec ld ed : Nat) (w : World) (hA : GAt w la ea g) (hB : GAt w lb eb g') (hne : g ≠ g') :
    Calls Try.prog 10 #[.agg #[.int .i64 g.hor, .slice la g.lives.length lc, .slice ea g.edges.length ec], .agg #[.int .i64 g'.hor, .slice lb g'.lives.length ld, .slice eb g'.edges.length ed]] w fun e w' => e = .returned (.bool false) ∧ Below w.heap.size w w' := by
  obtain ⟨h, lives, edges⟩ := g
  obtain ⟨h', lives', edges'⟩ := g'
  have n1 := hA.nl
  have n2 := hA.ne
  simp only at n1 n2 ⊢
  have hE : Hid (∀ o o', Calls Try.prog 12 #[.slice la lives.length lc, .slice lb lives'.length ld] ((w.alloc o).alloc o') fun e w' => e = .returned (.bool (decide (lives = lives'))) ∧ Below ((w.alloc o).alloc o').heap.size ((w.alloc o).alloc o') w') := fun o o' => by
    have hb := ptg (gal w o) (gal _ o')
    exact Equal_any la lb lc ld lives lives' _ (hA.lv.below hb) (hB.lv.below hb) n1
  have hF : Hid (∀ o o' w', Below ((w.alloc o).alloc o').heap.size ((w.alloc o).alloc o') w' → Calls Try.prog 37 #[.slice ea edges.length ec, .slice eb edges'.length ed, .func (.func 38) #[] #[]] w' fun e w2 => e = .returned (.bool (decide (edges = edges'))) ∧ Below w.heap.size w w2) := fun o o' w' h => by
    have hb := ptg (ptg (gal w o) (gal _ o')) h
    refine (EqFunc2_any ea eb ec ed edges edges' _ (hA.ed.below hb) (hB.ed.below hb) n2).mono ?_
    rintro e w2 ⟨rfl, h2⟩
    exact ⟨rfl, ptg hb h2⟩
  have HBB := hideg (fun o o' => ptg (gal w o) (gal _ o'))
  have HB2 := hideg (fun o o' w' (h : Below ((w.alloc o).alloc o').heap.size ((w.alloc o).alloc o') w') => ptg (ptg (gal w o) (gal _ o')) h)
  clear hA hB
  by_cases e1 : h = h'
  · subst e1
    by_cases e2 : lives = lives'
    · subst e2
      have e3 : decide (edges = edges') = false := decide_eq_false fun e => hne (by rw [e])
      have e4 : decide (lives = lives) = true := by simp
      rw [e3] at hF
      rw [e4] at hE
      clear e3 e4 hne
      go_enter Try.func10, Try.ntmps10
      go_wp2_with fail
      refine (hE.out _ _).mono ?_
      rintro e w1 ⟨rfl, hb1⟩
      have p2 : w1.cell? ⟨w.heap.size, 2, none⟩ = some (.slice ea edges.length ec) := by rw [hb1.cell (p := ⟨w.heap.size, 2, none⟩) (by simp; omega)]; simp
      have q2 : w1.cell? ⟨w.heap.size + 1, 2, none⟩ = some (.slice eb edges'.length ed) := by rw [hb1.cell (p := ⟨w.heap.size + 1, 2, none⟩) (by simp)]; simp
      go_wp2_with fail
      refine (hF.out _ _ _ hb1).mono ?_
      rintro e w2 ⟨rfl, hb2⟩
      go_wp2
      go_ret
      exact ⟨rfl, hb2⟩
    · rw [decide_eq_false e2] at hE
      clear e2 hne hF
      go_enter Try.func10, Try.ntmps10
      go_wp2_with fail
      refine (hE.out _ _).mono ?_
      rintro e w1 ⟨rfl, hb1⟩
      go_wp2
      go_ret
      exact ⟨rfl, HB2.out _ _ _ hb1⟩
  · have d : (h == h') = false := by simpa using e1
    clear e1 hne hF hE
    go_enter Try.func10, Try.ntmps10
    go_wp2
    go_ret
    exact ⟨rfl, HBB.out _ _⟩

end Go.Proofs.Yteibdmfcclkjpad
