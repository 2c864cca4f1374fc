/-
  The walk of the law IvlHas: it returns true, and nothing that was there is changed.
-/
import Derived.Test.YtianoalbcaphiadKeep
namespace Go.Proofs.Ytianoalbcaphiad
open Go.RowKit

theorem bt {a b c : World} (h1 : Below a.heap.size a b) (h2 : Below b.heap.size b c) : Below a.heap.size a c := h1.trans (h2.mono h1.size)
theorem ba (w : World) (o : Obj) : Below w.heap.size w (w.alloc o) := (Below.refl _ _).alloc (Nat.le_refl _) o

set_option maxRecDepth 100000 in
set_option maxHeartbeats 8000000 in
theorem ivlHas_walk (xo yo : Option Addr) (xc yc : Nat) (x y : List (Int × Int)) (t : Int) (w : World) (hx : IvAt w xo x) (hy : IvAt w yo y) (hxc : x.length ≤ xc) (hyc : y.length ≤ yc) (hxm : xc ≤ 9223372036854775807) (hym : yc ≤ 9223372036854775807) :
    Calls Try.prog 4 #[.slice xo x.length xc, .slice yo y.length yc, .int .i64 t] w fun e w' => e = .returned (.bool true) ∧ Below w.heap.size w w' := by
  obtain ⟨X, hX⟩ : ∃ X, x.take 60 = X := ⟨_, rfl⟩
  have H60 : Hid ((min 60 (x.length : Int)).toNat = X.length) := by show _ = _; rw [← hX]; exact take60 x
  have HXX : Hid (x.take 60 = X) := hX
  clear hX
  go_enter Try.func4, Try.ntmps4
  go_wp2_with fail
  refine (Has_any _ _ [(1, 3)] 2 _ (ivAt_one _ _ _ _ (by simp)) (by simp)).mono ?_
  rintro e w1 ⟨rfl, hb1⟩
  have g1 : Below w.heap.size w w1 := bt (ba _ _) hb1
  clear hb1
  rw [show has [(1, 3)] 2 = true from rfl]
  go_wp2_with fail
  refine (Has_any _ _ [(1, 3)] 3 _ (ivAt_one _ _ _ _ (by simp)) (by simp)).mono ?_
  rintro e w2 ⟨rfl, hb2⟩
  have g2 : Below w.heap.size w w2 := bt g1 (bt (ba _ _) hb2)
  clear hb2 g1
  rw [show has [(1, 3)] 3 = false from rfl]
  go_wp2_with fail
  refine (made_any xo xc x w2 (hx.below g2) hxc hxm).mono ?_
  rintro e w3 ⟨ao, ac, A, rfl, hA, zA3, hb3⟩
  have g3 : Below w.heap.size w w3 := bt g2 hb3
  have HA : Hid (MadeIs x A) := hA
  clear hb3 g2 hA
  go_wp2_with fail
  refine (made_any yo yc y w3 (hy.below g3) hyc hym).mono ?_
  rintro e w4 ⟨bo, bc, B, rfl, hB, zB4, hb4⟩
  have g4 : Below w.heap.size w w4 := bt g3 hb4
  have zA4 := zA3.below hb4
  have HB : Hid (MadeIs y B) := hB
  have lA := (made_good HA.out).len
  have lB := (made_good HB.out).len
  clear hb4 g3 hB zA3
  go_wp2_with fail
  refine (Has_any ao ac A t w4 zA4 (by omega)).mono ?_
  rintro e w5 ⟨rfl, hb5⟩
  have g5 : Below w.heap.size w w5 := bt g4 hb5
  have zA5 := zA4.below hb5
  have zB5 := zB4.below hb5
  clear hb5 g4 zA4 zB4
  go_wp2_with fail
  refine (Has_any bo bc B t w5 zB5 (by omega)).mono ?_
  rintro e w6 ⟨rfl, hb6⟩
  have g6 : Below w.heap.size w w6 := bt g5 hb6
  have zA6 := zA5.below hb6
  have zB6 := zB5.below hb6
  clear hb6 g5 zA5 zB5
  have hN := Norm_any xo xc X w6 (by rw [← HXX.out]; exact ivAt_take (hx.below g6) 60)
  go_wp2_with fail
  rw [H60.out]
  refine hN.mono ?_
  rintro e w7 ⟨n, r, hC, zo, zc, rfl, _, hb7⟩
  have g7 : Below w.heap.size w w7 := bt g6 hb7
  have zA7 := zA6.below hb7
  have zB7 := zB6.below hb7
  have HNR : Hid (NormRes X n r) := hC
  clear hb7 g6 zA6 zB6 hN hC
  rcases HNR.out with ⟨h1, h2, _⟩ | ⟨h1, h2, h3⟩
  · have hn0 : (n == 0) = false := by rw [beq_eq_false_iff_ne, h2]; exact h1
    clear h1 h2 HNR
    cases hp : has A t <;> cases hq : has B t
    all_goals
      have HP := hp
      have HQ := hq
      go_wp2_with fail
      refine (Union_any ao bo ac bc A B _ zA7 zB7).mono ?_
      rintro e u1 ⟨m1, r1, hC1, ro1, rc1, rfl, hz1, hv1⟩
      obtain ⟨rfl, hS1, hG1⟩ := comb_ok (made_good HA.out) (made_good HB.out) (by omega) (by omega) (by omega) hC1
      have e1 : has r1 t = wOr (has A t) (has B t) := hS1.pts t
      rw [hp, hq] at e1
      simp [wOr] at e1
      have l1 := hG1.len
      have q1 : Below w.heap.size w u1 := bt g7 hv1
      have zA1' := IvAt.below zA7 hv1
      have zB1' := IvAt.below zB7 hv1
      clear hC1 hS1 hG1
      go_wp2_with fail
      refine (got_ok ro1 rc1 r1 _).mono ?_
      rintro e u1' ⟨rfl, rfl⟩
      go_wp2_with fail
      refine (Has_any ro1 rc1 r1 t _ hz1 (by omega)).mono ?_
      rintro e v1 ⟨rfl, hx1⟩
      have p1 : Below w.heap.size w v1 := bt q1 hx1
      have zA1'' := IvAt.below zA1' hx1
      have zB1'' := IvAt.below zB1' hx1
      rw [e1]
      clear e1 hz1 hv1 hx1 zA1' zB1' q1
      go_wp2_with fail
      refine (Meet_any ao bo ac bc A B _ zA1'' zB1'').mono ?_
      rintro e u2 ⟨m2, r2, hC2, ro2, rc2, rfl, hz2, hv2⟩
      obtain ⟨rfl, hS2, hG2⟩ := comb_ok (made_good HA.out) (made_good HB.out) (by omega) (by omega) (by omega) hC2
      have e2 : has r2 t = wAnd (has A t) (has B t) := hS2.pts t
      rw [hp, hq] at e2
      simp [wAnd] at e2
      have l2 := hG2.len
      have q2 : Below w.heap.size w u2 := bt p1 hv2
      have zA2' := IvAt.below zA1'' hv2
      have zB2' := IvAt.below zB1'' hv2
      clear hC2 hS2 hG2
      go_wp2_with fail
      refine (got_ok ro2 rc2 r2 _).mono ?_
      rintro e u2' ⟨rfl, rfl⟩
      go_wp2_with fail
      refine (Has_any ro2 rc2 r2 t _ hz2 (by omega)).mono ?_
      rintro e v2 ⟨rfl, hx2⟩
      have p2 : Below w.heap.size w v2 := bt q2 hx2
      have zA2'' := IvAt.below zA2' hx2
      have zB2'' := IvAt.below zB2' hx2
      rw [e2]
      clear e2 hz2 hv2 hx2 zA2' zB2' q2
      go_wp2_with fail
      refine (Minus_any ao bo ac bc A B _ zA2'' zB2'').mono ?_
      rintro e u3 ⟨m3, r3, hC3, ro3, rc3, rfl, hz3, hv3⟩
      obtain ⟨rfl, hS3, hG3⟩ := comb_ok (made_good HA.out) (made_good HB.out) (by omega) (by omega) (by omega) hC3
      have e3 : has r3 t = wNot (has A t) (has B t) := hS3.pts t
      rw [hp, hq] at e3
      simp [wNot] at e3
      have l3 := hG3.len
      have q3 : Below w.heap.size w u3 := bt p2 hv3
      have zA3' := IvAt.below zA2'' hv3
      have zB3' := IvAt.below zB2'' hv3
      clear hC3 hS3 hG3
      go_wp2_with fail
      refine (got_ok ro3 rc3 r3 _).mono ?_
      rintro e u3' ⟨rfl, rfl⟩
      go_wp2_with fail
      refine (Has_any ro3 rc3 r3 t _ hz3 (by omega)).mono ?_
      rintro e v3 ⟨rfl, hx3⟩
      have p3 : Below w.heap.size w v3 := bt q3 hx3
      have zA3'' := IvAt.below zA3' hx3
      have zB3'' := IvAt.below zB3' hx3
      rw [e3]
      clear e3 hz3 hv3 hx3 zA3' zB3' q3
      go_wp2
      go_ret
      exact ⟨rfl, p3⟩
  · subst h2
    have hAx : has A t = has X t := by
      have hm := HA.out
      unfold MadeIs at hm
      rw [HXX.out] at hm
      rcases hm with ⟨h, _⟩ | ⟨_, h⟩
      · exact absurd h1 h
      · exact h.pts t
    have HAX : Hid (has X t = has A t) := hAx.symm
    have l60 : X.length ≤ 60 := by rw [← HXX.out]; exact List.length_take_le 60 x
    clear h1 h3 HNR hAx
    go_wp2_with fail
    refine (Has_any xo xc X t w7 (by rw [← HXX.out]; exact ivAt_take (hx.below g7) 60) (by omega)).mono ?_
    rintro e w8 ⟨rfl, hb8⟩
    rw [HAX.out]
    have g8 : Below w.heap.size w w8 := bt g7 hb8
    have zA8 := zA7.below hb8
    have zB8 := zB7.below hb8
    clear hb8 g7 zA7 zB7 l60
    cases hp : has A t <;> cases hq : has B t
    all_goals
      have HP := hp
      have HQ := hq
      go_wp2_with fail
      refine (Union_any ao bo ac bc A B _ zA8 zB8).mono ?_
      rintro e u1 ⟨m1, r1, hC1, ro1, rc1, rfl, hz1, hv1⟩
      obtain ⟨rfl, hS1, hG1⟩ := comb_ok (made_good HA.out) (made_good HB.out) (by omega) (by omega) (by omega) hC1
      have e1 : has r1 t = wOr (has A t) (has B t) := hS1.pts t
      rw [hp, hq] at e1
      simp [wOr] at e1
      have l1 := hG1.len
      have q1 : Below w.heap.size w u1 := bt g8 hv1
      have zA1' := IvAt.below zA8 hv1
      have zB1' := IvAt.below zB8 hv1
      clear hC1 hS1 hG1
      go_wp2_with fail
      refine (got_ok ro1 rc1 r1 _).mono ?_
      rintro e u1' ⟨rfl, rfl⟩
      go_wp2_with fail
      refine (Has_any ro1 rc1 r1 t _ hz1 (by omega)).mono ?_
      rintro e v1 ⟨rfl, hx1⟩
      have p1 : Below w.heap.size w v1 := bt q1 hx1
      have zA1'' := IvAt.below zA1' hx1
      have zB1'' := IvAt.below zB1' hx1
      rw [e1]
      clear e1 hz1 hv1 hx1 zA1' zB1' q1
      go_wp2_with fail
      refine (Meet_any ao bo ac bc A B _ zA1'' zB1'').mono ?_
      rintro e u2 ⟨m2, r2, hC2, ro2, rc2, rfl, hz2, hv2⟩
      obtain ⟨rfl, hS2, hG2⟩ := comb_ok (made_good HA.out) (made_good HB.out) (by omega) (by omega) (by omega) hC2
      have e2 : has r2 t = wAnd (has A t) (has B t) := hS2.pts t
      rw [hp, hq] at e2
      simp [wAnd] at e2
      have l2 := hG2.len
      have q2 : Below w.heap.size w u2 := bt p1 hv2
      have zA2' := IvAt.below zA1'' hv2
      have zB2' := IvAt.below zB1'' hv2
      clear hC2 hS2 hG2
      go_wp2_with fail
      refine (got_ok ro2 rc2 r2 _).mono ?_
      rintro e u2' ⟨rfl, rfl⟩
      go_wp2_with fail
      refine (Has_any ro2 rc2 r2 t _ hz2 (by omega)).mono ?_
      rintro e v2 ⟨rfl, hx2⟩
      have p2 : Below w.heap.size w v2 := bt q2 hx2
      have zA2'' := IvAt.below zA2' hx2
      have zB2'' := IvAt.below zB2' hx2
      rw [e2]
      clear e2 hz2 hv2 hx2 zA2' zB2' q2
      go_wp2_with fail
      refine (Minus_any ao bo ac bc A B _ zA2'' zB2'').mono ?_
      rintro e u3 ⟨m3, r3, hC3, ro3, rc3, rfl, hz3, hv3⟩
      obtain ⟨rfl, hS3, hG3⟩ := comb_ok (made_good HA.out) (made_good HB.out) (by omega) (by omega) (by omega) hC3
      have e3 : has r3 t = wNot (has A t) (has B t) := hS3.pts t
      rw [hp, hq] at e3
      simp [wNot] at e3
      have l3 := hG3.len
      have q3 : Below w.heap.size w u3 := bt p2 hv3
      have zA3' := IvAt.below zA2'' hv3
      have zB3' := IvAt.below zB2'' hv3
      clear hC3 hS3 hG3
      go_wp2_with fail
      refine (got_ok ro3 rc3 r3 _).mono ?_
      rintro e u3' ⟨rfl, rfl⟩
      go_wp2_with fail
      refine (Has_any ro3 rc3 r3 t _ hz3 (by omega)).mono ?_
      rintro e v3 ⟨rfl, hx3⟩
      have p3 : Below w.heap.size w v3 := bt q3 hx3
      have zA3'' := IvAt.below zA3' hx3
      have zB3'' := IvAt.below zB3' hx3
      rw [e3]
      clear e3 hz3 hv3 hx3 zA3' zB3' q3
      go_wp2
      go_ret
      exact ⟨rfl, p3⟩

end Go.Proofs.Ytianoalbcaphiad
