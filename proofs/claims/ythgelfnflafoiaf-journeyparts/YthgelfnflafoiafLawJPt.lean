/-
  The law JourneyParts, walked.
-/
import Derived.Test.YthgelfnflafoiafJWalk
namespace Go.Proofs.Ythgelfnflafoiaf
open Go.RowKit

theorem IvAt.takeN {w : World} {ao : Option Addr} {l : List (Int × Int)} (h : IvAt w ao l) (i : Nat) : IvAt w ao (l.take i) := by
  rcases h with h | ⟨b, off, rfl, hlt, hc⟩
  · exact .inl (by rw [h]; simp)
  · refine .inr ⟨b, off, rfl, hlt, fun j hj => ?_⟩
    rw [List.length_take] at hj
    have := hc j (by omega)
    have e : (l.take i).getD j (0, 0) = l.getD j (0, 0) := by rw [List.getD_eq_getElem?_getD, List.getD_eq_getElem?_getD, List.getElem?_take, if_pos (by omega)]
    rw [e]; exact this
theorem IvAt.dropN {w : World} {b off : Nat} {l : List (Int × Int)} (h : IvAt w (some ⟨b, off, none⟩) l) (i : Nat) : IvAt w (some ⟨b, off + i * 2, none⟩) (l.drop i) := by
  rcases h with h | ⟨b', off', he, hlt, hc⟩
  · exact .inl (by rw [h]; simp)
  · simp only [Option.some.injEq, Addr.mk.injEq] at he
    obtain ⟨rfl, rfl, _⟩ := he
    refine .inr ⟨b, off + i * 2, rfl, hlt, fun j hj => ?_⟩
    rw [List.length_drop] at hj
    have := hc (i + j) (by omega)
    have e : (l.drop i).getD j (0, 0) = l.getD (i + j) (0, 0) := by rw [List.getD_eq_getElem?_getD, List.getD_eq_getElem?_getD, List.getElem?_drop]
    rw [e, show off + i * 2 + j * 2 = off + (i + j) * 2 by omega]; exact this
/-- what a walk and its parts come to -/
theorem walk_ok {g : Gr} {v t a b n u cost : Int} {l : List Hp} (hW : WalkIs g v t l a b) (hl : l.length ≤ 20) (h : goAns g v t l = (n, u, cost, 0)) (i : Nat) :
    n = a ∧ u = b ∧ ∃ m x c d, goAns g v t (l.take i) = (m, x, c, 0) ∧ goAns g m x (l.drop i) = (n, u, d, 0) ∧ c + d = cost ∧ (0 ≤ c ∧ c ≤ 20000) ∧ 0 ≤ d ∧ d ≤ 20000 := by
  obtain ⟨h0, hT, _, h1⟩ := goAns_right h
  have R := gChk_right h0
  refine ⟨?_, ?_, ?_⟩
  · rcases hW with ⟨rfl, rfl, rfl⟩ | ⟨_, _, c, h2⟩
    · rw [goF_nil] at h1; cases h1; rfl
    · rw [h2] at h1; cases h1; rfl
  · rcases hW with ⟨rfl, rfl, rfl⟩ | ⟨_, _, c, h2⟩
    · rw [goF_nil] at h1; cases h1; rfl
    · rw [h2] at h1; cases h1; rfl
  · obtain ⟨m, x, c, d, k1, k2, k3⟩ := goF_parts i h1
    obtain ⟨j1, j2, j3, j4⟩ := goF_there R hT k1
    have hT2 : There g (m, x, 0) := ⟨j1.v0, j1.v1, j1.al⟩
    obtain ⟨i1, i2, i3, i4⟩ := goF_there R hT2 k2
    have e1 := goAns_ok (s := (v, t, 0)) h0 hT rfl (by rw [List.length_take]; omega) k1
    have e2 := goAns_ok (s := (m, x, 0)) h0 hT2 rfl (by rw [List.length_drop]; omega) k2
    have hl1 : ((l.take i).length : Int) ≤ 20 := by rw [List.length_take]; omega
    have hl2 : ((l.drop i).length : Int) ≤ 20 := by rw [List.length_drop]; omega
    simp only at j3 j4 i3 i4
    exact ⟨m, x, c, d, e1, e2, k3, ⟨j3, by omega⟩, i3, by omega⟩
theorem walk_bad {g : Gr} {v t a b : Int} {l : List Hp} (hW : WalkIs g v t l a b) (hl : l.length ≤ 20) (h : (goAns g v t l).2.2.2 ≠ 0) : l = [] ∧ (goAns g v t l).1 = 0 ∧ (goAns g v t l).2.1 = 0 := by
  refine ⟨?_, goAns_err h⟩
  rcases hW with ⟨h1, _⟩ | ⟨h0, hT, c, h2⟩
  · exact h1
  · exfalso
    apply h
    rw [goAns_ok (s := (v, t, 0)) h0 hT rfl (by omega) h2]

set_option maxRecDepth 100000 in
set_option maxHeartbeats 1000000 in
theorem journeyParts_walk (g : Gr) (la ea : Option Addr) (lc ec : Nat) (v t : Int) (po : Option Addr) (pc : Nat) (picks : List Int) (k : Int) (w : World) (hG : GAt w la ea g) (hP : ZsAt w po picks) (hpc : picks.length ≤ pc) (hpm : pc ≤ 9223372036854775807) :
    Calls Try.prog 3 #[.agg #[.int .i64 g.hor, .slice la g.lives.length lc, .slice ea g.edges.length ec], .int .i64 v, .int .i64 t, .slice po picks.length pc, .int .i64 k] w fun r w' => r = .returned (.bool true) ∧ Below w.heap.size w w' := by
  have B0 := gbx_start w g la ea lc ec 25
  have hgo := goes_any (w.alloc (.cells #[.int .i64 g.hor, .slice la g.lives.length lc, .slice ea g.edges.length ec] 25))
  have h1 := fun W (hb : Below w.heap.size w W) => walk_any g la ea lc ec v t po pc picks W (hG.below hb) (hP.below hb) hpc hpm
  have HG := hideg (fun W (hb : Below w.heap.size w W) => hG.below hb)
  clear hG hP
  go_enter Try.func3, Try.ntmps3
  go_wp2_with fail
  refine hgo.mono ?_
  rintro r w1 ⟨rfl, hb1⟩
  have B1 := B0.below hb1
  have g0 := B1.c0
  have g1 := B1.c1
  have g2 := B1.c2
  have hbx := B1.bel
  clear hgo hb1 B0
  go_wp2_with fail
  refine (h1 _ hbx).mono ?_
  rintro r w2 ⟨u, l, a, b, rfl, ho2, hl20, hWI, hb2⟩
  have B2 := B1.below hb2
  clear g0 g1 g2 hbx B1 h1
  have g0 := B2.c0
  have g1 := B2.c1
  have g2 := B2.c2
  have hbx := B2.bel
  obtain ⟨ao, ca, rfl, hA⟩ := ivAt_of_owns ho2
  have HGo := hideg (fun W (hb : Below w2.heap.size w2 W) (v' t' : Int) (ho : Option Addr) (c : Nat) (m : List Hp) (hm : IvAt W ho m) (hml : m.length ≤ 20) => jGo_any g la ea lc ec v' t' ho c m W (HG.out W (ptg hbx hb)) hm (by omega))
  have hGo := HGo.out w2 (Below.refl _ _) v t ao ca l hA hl20
  unfold goW at hGo
  by_cases he : (goAns g v t l).2.2.2 = 0
  · obtain ⟨n, x, c, hga⟩ : ∃ n x c, goAns g v t l = (n, x, c, 0) := ⟨_, _, _, Prod.ext rfl (Prod.ext rfl (Prod.ext rfl he))⟩
    rw [hga] at hGo
    simp only at hGo
    obtain ⟨rfl, rfl, _⟩ := walk_ok hWI hl20 hga 0
    have HParts := hideg (fun i => (walk_ok hWI hl20 hga i).2.2)
    have HA := hideg hA
    have hcap : (ao = none ∧ l = [] ∧ ca = 0) ∨ (∃ gb, ao = some ⟨gb, 0, none⟩ ∧ l.length ≤ ca) := by
      rcases ho2.2 with ⟨e, e0⟩ | ⟨gb, cap, cur, e, _, _, e2, _⟩
      · simp only [Value.slice.injEq] at e; exact .inl ⟨e.1, List.eq_nil_of_length_eq_zero e0, e.2.2⟩
      · simp only [Value.slice.injEq, true_and] at e; obtain ⟨rfl, rfl⟩ := e; exact .inr ⟨gb, rfl, e2⟩
    have hR := restN_any k ((l.length : Int) + 1) (by omega) (by omega)
    have hw1 : IntKind.i64.wrap ((l.length : Int) + 1) = (l.length : Int) + 1 := wrap_nj _ (by omega) (by omega)
    clear he hga hWI hA ho2 hb2
    go_wp2_with fail
    refine hGo.mono ?_
    rintro r w3 ⟨rfl, hb3⟩
    have B3 := B2.below hb3
    clear hGo g0 g1 g2 B2
    go_wp2_with fail
    refine (hR _).mono ?_
    rintro r w3' ⟨⟨y, hy0, hy1, rfl⟩, rfl⟩
    obtain ⟨I, rfl⟩ : ∃ I : Nat, y = (I : Int) := ⟨y.toNat, by omega⟩
    have hI : I ≤ l.length := by omega
    obtain ⟨m, z, c1, d1, e1, e2, e3, e4, e5⟩ := HParts.out I
    clear HParts hR
    rcases hcap with ⟨rfl, rfl, rfl⟩ | ⟨gb, rfl, hle⟩
    · have hI0 : I = 0 := by simpa using hI
      subst hI0
      have hGo1 := fun W (hb : Below w2.heap.size w2 W) => HGo.out W hb v t none 0 [] (.inl rfl) (by simp)
      rw [List.take_nil] at e1
      rw [List.drop_nil] at e2
      rw [e1] at hGo1
      have hGo2 := fun W (hb : Below w2.heap.size w2 W) => HGo.out W hb m z none 0 [] (.inl rfl) (by simp)
      rw [e2] at hGo2
      unfold goW at hGo1 hGo2
      simp only [List.length_nil] at hGo1 hGo2
      have hne : Nonempty (HeldIn w3') := ⟨⟨w3', Below.refl _ _⟩⟩
      have f0 : ∀ s : HeldIn w3', s.w.cell? ⟨w.heap.size, 0, none⟩ = some (.int .i64 g.hor) := fun s => (B3.below s.h).c0
      have f1 : ∀ s : HeldIn w3', s.w.cell? ⟨w.heap.size, 1, none⟩ = some (.slice la g.lives.length lc) := fun s => (B3.below s.h).c1
      have f2 : ∀ s : HeldIn w3', s.w.cell? ⟨w.heap.size, 2, none⟩ = some (.slice ea g.edges.length ec) := fun s => (B3.below s.h).c2
      have HB3 := hideg B3
      have HB23 := hideg hb3
      have hCall : ∀ s : HeldIn w3', Calls Try.prog 11 #[.agg #[.int .i64 g.hor, .slice la g.lives.length lc, .slice ea g.edges.length ec], .int .i64 v, .int .i64 t, .slice none 0 0] s.w fun r w' => r = .returned (.tuple #[.int .i64 m, .int .i64 z, .int .i64 c1, .int .i64 0]) ∧ Below s.w.heap.size s.w w' := fun s => hGo1 s.w (ptg hb3 s.h)
      have hw2 : IntKind.i64.wrap (c1 + d1) = c := by rw [wrap_nj _ (by omega) (by omega)]; exact e3
      clear B3 hb3 e1 e2 hGo1 HGo HA
      go_wp2_with fail
      refine wp_region_held w3' (Below.refl _ _) (by kernel_rfl) (by kernel_rfl) ?_
      repeat (go_big_quiet_step ((go_at_call 11; exact held_of (hCall _))))
      refine wpQuiet_nil ?_
      rintro _ ⟨s, rfl⟩
      have B4 := HB3.out.below s.h
      have hb24 := ptg HB23.out s.h
      clear f0 f1 f2 hne hCall HB3 HB23
      generalize s.w = w4 at *
      have hne : Nonempty (HeldIn w4) := ⟨⟨w4, Below.refl _ _⟩⟩
      have f0 : ∀ s : HeldIn w4, s.w.cell? ⟨w.heap.size, 0, none⟩ = some (.int .i64 g.hor) := fun s => (B4.below s.h).c0
      have f1 : ∀ s : HeldIn w4, s.w.cell? ⟨w.heap.size, 1, none⟩ = some (.slice la g.lives.length lc) := fun s => (B4.below s.h).c1
      have f2 : ∀ s : HeldIn w4, s.w.cell? ⟨w.heap.size, 2, none⟩ = some (.slice ea g.edges.length ec) := fun s => (B4.below s.h).c2
      have hCall : ∀ s : HeldIn w4, Calls Try.prog 11 #[.agg #[.int .i64 g.hor, .slice la g.lives.length lc, .slice ea g.edges.length ec], .int .i64 m, .int .i64 z, .slice none 0 0] s.w fun r w' => r = .returned (.tuple #[.int .i64 n, .int .i64 x, .int .i64 d1, .int .i64 0]) ∧ Below s.w.heap.size s.w w' := fun s => hGo2 s.w (ptg hb24 s.h)
      have HB4 := hideg B4
      clear B4 hb24 hGo2
      go_wp2_with fail
      refine wp_region_held w4 (Below.refl _ _) (by kernel_rfl) (by kernel_rfl) ?_
      repeat (go_big_quiet_step ((go_at_call 11; exact held_of (hCall _))))
      refine wpQuiet_nil ?_
      rintro _ ⟨s, rfl⟩
      have hbF := (HB4.out.below s.h).bel
      clear f0 f1 f2 hne hCall HB4
      generalize s.w = w5 at *
      go_wp2
      go_ret
      exact ⟨rfl, hbF⟩
    · have hGo1 := fun W (hb : Below w2.heap.size w2 W) => HGo.out W hb v t (some ⟨gb, 0, none⟩) ca (l.take I) ((HA.out.below hb).takeN I) (by rw [List.length_take]; omega)
      rw [e1, List.length_take, Nat.min_eq_left hI] at hGo1
      unfold goW at hGo1
      simp only at hGo1
      have hGo2 : ∀ W, Below w2.heap.size w2 W → ∀ cc, Calls Try.prog 11 #[.agg #[.int .i64 g.hor, .slice la g.lives.length lc, .slice ea g.edges.length ec], .int .i64 m, .int .i64 z, .slice (some (if ca = I then ⟨gb, 0, none⟩ else ⟨gb, I * 2, none⟩)) (l.length - I) cc] W fun r w' => r = .returned (.tuple #[.int .i64 n, .int .i64 x, .int .i64 d1, .int .i64 0]) ∧ Below W.heap.size W w' := by
        intro W hb cc
        have hI2 : IvAt W (some (if ca = I then ⟨gb, 0, none⟩ else ⟨gb, I * 2, none⟩)) (l.drop I) := by
          split
          · exact .inl (List.drop_eq_nil_of_le (by omega))
          · have := (HA.out.below hb).dropN I; rwa [Nat.zero_add] at this
        have := HGo.out W hb m z _ cc (l.drop I) hI2 (by rw [List.length_drop]; omega)
        rw [e2, List.length_drop] at this
        unfold goW at this
        exact this
      have i1 : (I : Int) ≤ (ca : Int) := by omega
      have i2 : (0 : Int) ≤ (I : Int) := by omega
      have i3 : (I : Int) ≤ (l.length : Int) := by omega
      have i4 : ((l.length : Int) - (I : Int)).toNat = l.length - I := by omega
      have i5 : ((ca : Int) - (I : Int)).toNat = ca - I := by omega
      have hne : Nonempty (HeldIn w3') := ⟨⟨w3', Below.refl _ _⟩⟩
      have f0 : ∀ s : HeldIn w3', s.w.cell? ⟨w.heap.size, 0, none⟩ = some (.int .i64 g.hor) := fun s => (B3.below s.h).c0
      have f1 : ∀ s : HeldIn w3', s.w.cell? ⟨w.heap.size, 1, none⟩ = some (.slice la g.lives.length lc) := fun s => (B3.below s.h).c1
      have f2 : ∀ s : HeldIn w3', s.w.cell? ⟨w.heap.size, 2, none⟩ = some (.slice ea g.edges.length ec) := fun s => (B3.below s.h).c2
      have HB3 := hideg B3
      have HB23 := hideg hb3
      have hCall : ∀ s : HeldIn w3', Calls Try.prog 11 #[.agg #[.int .i64 g.hor, .slice la g.lives.length lc, .slice ea g.edges.length ec], .int .i64 v, .int .i64 t, .slice (some ⟨gb, 0, none⟩) I ca] s.w fun r w' => r = .returned (.tuple #[.int .i64 m, .int .i64 z, .int .i64 c1, .int .i64 0]) ∧ Below s.w.heap.size s.w w' := fun s => hGo1 s.w (ptg hb3 s.h)
      clear B3 hb3 e1 e2 hGo1
      go_wp2_with fail
      refine wp_region_held w3' (Below.refl _ _) (by kernel_rfl) (by kernel_rfl) ?_
      repeat (go_big_quiet_step ((go_at_call 11; exact held_of (hCall _))))
      refine wpQuiet_nil ?_
      rintro _ ⟨s, rfl⟩
      have B4 := HB3.out.below s.h
      have hb24 := ptg HB23.out s.h
      clear f0 f1 f2 hne hCall HB3 HB23
      generalize s.w = w4 at *
      have hne : Nonempty (HeldIn w4) := ⟨⟨w4, Below.refl _ _⟩⟩
      have f0 : ∀ s : HeldIn w4, s.w.cell? ⟨w.heap.size, 0, none⟩ = some (.int .i64 g.hor) := fun s => (B4.below s.h).c0
      have f1 : ∀ s : HeldIn w4, s.w.cell? ⟨w.heap.size, 1, none⟩ = some (.slice la g.lives.length lc) := fun s => (B4.below s.h).c1
      have f2 : ∀ s : HeldIn w4, s.w.cell? ⟨w.heap.size, 2, none⟩ = some (.slice ea g.edges.length ec) := fun s => (B4.below s.h).c2
      have hCall0 : ∀ (s : HeldIn w4) cc, Calls Try.prog 11 #[.agg #[.int .i64 g.hor, .slice la g.lives.length lc, .slice ea g.edges.length ec], .int .i64 m, .int .i64 z, .slice (some (if ca = I then ⟨gb, 0, none⟩ else ⟨gb, I * 2, none⟩)) (l.length - I) cc] s.w fun r w' => r = .returned (.tuple #[.int .i64 n, .int .i64 x, .int .i64 d1, .int .i64 0]) ∧ Below s.w.heap.size s.w w' := fun s cc => hGo2 s.w (ptg hb24 s.h) cc
      have HB4 := hideg B4
      have hw2 : IntKind.i64.wrap (c1 + d1) = c := by rw [wrap_nj _ (by omega) (by omega)]; exact e3
      clear B4 hb24 hGo2 HGo HA
      by_cases i6 : ca = I
      · have hCall : ∀ (s : HeldIn w4) (N cc : Nat), N = 0 → Calls Try.prog 11 #[.agg #[.int .i64 g.hor, .slice la g.lives.length lc, .slice ea g.edges.length ec], .int .i64 m, .int .i64 z, .slice (some ⟨gb, 0, none⟩) N cc] s.w fun r w' => r = .returned (.tuple #[.int .i64 n, .int .i64 x, .int .i64 d1, .int .i64 0]) ∧ Below s.w.heap.size s.w w' := by
          intro s N cc hN
          have := hCall0 s cc
          rw [if_pos i6, show l.length - I = N by omega] at this
          exact this
        clear hCall0
        subst i6
        go_wp2_with fail
        refine wp_region_held w4 (Below.refl _ _) (by kernel_rfl) (by kernel_rfl) ?_
        repeat (go_big_quiet_step ((go_at_call 11; refine held_of (hCall _ _ _ ?_); omega)))
        refine wpQuiet_nil ?_
        rintro _ ⟨s, rfl⟩
        have hbF := (HB4.out.below s.h).bel
        clear f0 f1 f2 hne hCall HB4
        generalize s.w = w5 at *
        go_wp2
        go_ret
        exact ⟨rfl, hbF⟩
      · have hCall := fun s => hCall0 s (ca - I)
        simp only [if_neg i6] at hCall
        clear hCall0
        go_wp2_with fail
        refine wp_region_held w4 (Below.refl _ _) (by kernel_rfl) (by kernel_rfl) ?_
        repeat (go_big_quiet_step ((go_at_call 11; exact held_of (hCall _))))
        refine wpQuiet_nil ?_
        rintro _ ⟨s, rfl⟩
        have hbF := (HB4.out.below s.h).bel
        clear f0 f1 f2 hne hCall HB4
        generalize s.w = w5 at *
        go_wp2
        go_ret
        exact ⟨rfl, hbF⟩
  · obtain ⟨rfl, hn0, hx0⟩ := walk_bad hWI hl20 he
    have d1 : ((goAns g v t []).2.2.2 != 0) = true := by simpa using he
    rw [hn0, hx0] at hGo
    generalize (goAns g v t []).2.2.2 = ev at *
    generalize (goAns g v t []).2.2.1 = cv at *
    clear HGo he hWI hA ho2 hb2
    go_wp2_with fail
    refine hGo.mono ?_
    rintro r w3 ⟨rfl, hb3⟩
    have hbF := ptg hbx hb3
    clear hGo g0 g1 g2 B2
    go_wp2
    go_ret
    exact ⟨rfl, hbF⟩

end Go.Proofs.Ythgelfnflafoiaf
