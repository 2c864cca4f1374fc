/-
  The law PlainSays: what is answered of snapshots is what the document says.
-/
import Derived.Test.YtnopdnajlbaccabPlDeg
import Derived.Test.YtnopdnajlbaccabRShot
import Derived.Test.YtnopdnajlbaccabRPlain
namespace Go.Proofs.Ytnopdnajlbaccab
open Go.RowKit

/-- a box of a snapshot, and all that was there -/
structure Bx1 (w W : World) (x y : Value) : Prop where
  c0 : W.cell? ⟨w.heap.size, 0, none⟩ = some x
  c1 : W.cell? ⟨w.heap.size, 1, none⟩ = some y
  bel : Below w.heap.size w W
  lt : w.heap.size < W.heap.size
theorem bx1_start (w : World) (x y : Value) (t : TypeId) : Bx1 w (w.alloc (.cells #[x, y] t)) x y := by
  refine ⟨?_, ?_, pal _ _, by simp⟩
  · rw [World.cell?_alloc_at _ _ _ _ rfl]; rfl
  · rw [World.cell?_alloc_at _ _ _ _ rfl]; rfl
theorem Bx1.below {w W W' : World} {x y : Value} (h : Bx1 w W x y) (hb : Below W.heap.size W W') : Bx1 w W' x y :=
  ⟨(hb.cell (p := ⟨w.heap.size, 0, none⟩) h.lt).trans h.c0, (hb.cell (p := ⟨w.heap.size, 1, none⟩) h.lt).trans h.c1, ptw h.bel hb, Nat.lt_of_lt_of_le h.lt hb.size⟩

theorem least_bad {al : List Bool} {arcs : List Ac} {fr : Int} {p : Ac → Int} {n : Int} {r : List Int} (h : LeastIs al arcs fr p n r) (h0 : ¬ shot al arcs = 0) : n = shot al arcs ∧ r = [] := by
  rcases h with ⟨_, h1, h2⟩ | ⟨h, _⟩ | ⟨h, _⟩
  · exact ⟨h1, h2⟩
  · exact absurd h h0
  · exact absurd h h0
theorem least_none {al : List Bool} {arcs : List Ac} {fr : Int} {p : Ac → Int} {n : Int} {r : List Int} (h : LeastIs al arcs fr p n r) (h0 : shot al arcs = 0) (hv : vtx al.length fr = false) : n = 4 ∧ r = [] := by
  rcases h with ⟨h, _⟩ | ⟨_, _, h1, h2⟩ | ⟨_, h, _⟩
  · exact absurd h0 h
  · exact ⟨h1, h2⟩
  · rw [hv] at h; cases h
theorem least_ok {al : List Bool} {arcs : List Ac} {fr : Int} {p : Ac → Int} {n : Int} {r : List Int} (h : LeastIs al arcs fr p n r) (h0 : shot al arcs = 0) (hv : vtx al.length fr = true) : n = 0 ∧ Best (firstL al (fromF fr)) arcs p r := by
  rcases h with ⟨h, _⟩ | ⟨_, h, _⟩ | ⟨_, _, h1, h2⟩
  · exact absurd h0 h
  · rw [hv] at h; cases h
  · exact ⟨h1, h2⟩
theorem labels_bad {al : List Bool} {arcs : List Ac} {n : Int} {r : List Int} (h : LabelsIs al arcs n r) (h0 : ¬ shot al arcs = 0) : n = shot al arcs ∧ r = [] := by
  rcases h with ⟨_, h1, h2⟩ | ⟨h, _⟩
  · exact ⟨h1, h2⟩
  · exact absurd h h0
theorem labels_ok {al : List Bool} {arcs : List Ac} {n : Int} {r : List Int} (h : LabelsIs al arcs n r) (h0 : shot al arcs = 0) : n = 0 ∧ Best (firstL al (fun v => v)) (both arcs) (fun _ => 0) r := by
  rcases h with ⟨h, _⟩ | ⟨_, h1, h2⟩
  · exact absurd h0 h
  · exact ⟨h1, h2⟩
theorem deg_bad {al : List Bool} {arcs : List Ac} {n : Int} {r : List Int} (h : DegIs al arcs n r) (h0 : ¬ shot al arcs = 0) : n = shot al arcs ∧ r = [] := by
  rcases h with ⟨_, h1, h2⟩ | ⟨h, _⟩
  · exact ⟨h1, h2⟩
  · exact absurd h h0
theorem deg_ok {al : List Bool} {arcs : List Ac} {n : Int} {r : List Int} (h : DegIs al arcs n r) (h0 : shot al arcs = 0) : n = 0 ∧ r = firstL al (degF arcs) := by
  rcases h with ⟨h, _⟩ | ⟨_, h1, h2⟩
  · exact absurd h0 h
  · exact ⟨h1, h2⟩

theorem begF_one (fr : Int) : begF (1 : Nat) fr = fromF fr := by funext v; unfold begF; rw [if_neg (by decide)]
theorem begF_two (fr : Int) : begF (2 : Nat) fr = fromF fr := by funext v; unfold begF; rw [if_neg (by decide)]
theorem begF_three (fr : Int) : begF (3 : Nat) fr = fun v => v := by funext v; unfold begF; rw [if_pos (by decide)]
theorem pricZ_one : pricZ 1 = fun _ => 1 := by funext a; rfl
theorem pricZ_two : pricZ 2 = fun a => a.2.2 := by funext a; rfl
theorem pricZ_three : pricZ 3 = fun _ => 0 := by funext a; rfl
/-- what the reference's rounds tell is the best -/
theorem rounds_one {al : List Bool} {arcs : List Ac} (S : Shot al arcs) {fr : Int} {x : List Int} {k : Nat} (R : RoundsIs arcs (pricZ 1) (decide (1 = 3)) (firstL al (begF (1 : Nat) fr)) x k) : Best (firstL al (fromF fr)) arcs (fun _ => 1) x := by
  have := rounds_best (fine_prog S fr (.inl rfl)).1 (fine_prog S fr (.inl rfl)).2 R
  rw [begF_one, pricZ_one] at this; exact this
theorem rounds_two {al : List Bool} {arcs : List Ac} (S : Shot al arcs) {fr : Int} {x : List Int} {k : Nat} (R : RoundsIs arcs (pricZ 2) (decide (2 = 3)) (firstL al (begF (2 : Nat) fr)) x k) : Best (firstL al (fromF fr)) arcs (fun a => a.2.2) x := by
  have := rounds_best (fine_prog S fr (.inr (.inl rfl))).1 (fine_prog S fr (.inr (.inl rfl))).2 R
  rw [begF_two, pricZ_two] at this; exact this
theorem rounds_three {al : List Bool} {arcs : List Ac} (S : Shot al arcs) {fr : Int} {x : List Int} {k : Nat} (R : RoundsIs arcs (pricZ 3) (decide (3 = 3)) (firstL al (begF (3 : Nat) fr)) x k) : Best (firstL al (fun v => v)) (both arcs) (fun _ => 0) x := by
  have := rounds_best (fine_prog S fr (.inr (.inr rfl))).1 (fine_prog S fr (.inr (.inr rfl))).2 R
  rw [begF_three, pricZ_three] at this; exact this

/-- a row of numbers that a call tells, as it lies -/
theorem row_at {w : World} {base : Nat} {v : Value} {n : Nat} {x : List Int} (h : w.ownsRow base 3 1 v n (x.map (Value.int .i64))) : ∃ ao cap, v = .slice ao x.length cap ∧ ZsAt w ao x := zsAt_of_owns h


set_option maxRecDepth 100000 in
set_option maxHeartbeats 8000000 in
theorem plainSays_bad (ao bo : Option Addr) (ca cb : Nat) (al : List Bool) (arcs : List Ac) (fr : Int) (w : World) (hA : BsAt w ao al) (hR : PcAt w bo arcs) (h0 : ¬ shot al arcs = 0) :
    Calls Try.prog 3 #[.agg #[.slice ao al.length ca, .slice bo arcs.length cb], .int .i64 fr] w fun e w' => e = .returned (.bool true) ∧ Below w.heap.size w w' := by
  have K1 : Hid (∀ W, Below w.heap.size w W → _) := fun W hW => rShot_any ao bo ca cb al arcs W (hA.below hW) (hR.below hW)
  have K2 : Hid (∀ W, Below w.heap.size w W → _) := fun W hW => plCheck_any ao bo ca cb al arcs W (hA.below hW) (hR.below hW)
  have K3 : Hid (∀ W, Below w.heap.size w W → _) := fun W hW => Hops_any ao bo ca cb al arcs fr W (hA.below hW) (hR.below hW)
  have K4 : Hid (∀ W, Below w.heap.size w W → _) := fun W hW => Costs_any ao bo ca cb al arcs fr W (hA.below hW) (hR.below hW)
  have K5 : Hid (∀ W, Below w.heap.size w W → _) := fun W hW => Labels_any ao bo ca cb al arcs W (hA.below hW) (hR.below hW)
  have K6 : Hid (∀ W, Below w.heap.size w W → _) := fun W hW => Degrees_any ao bo ca cb al arcs W (hA.below hW) (hR.below hW)
  have HS := hidep h0
  obtain ⟨e, he, hen⟩ := shot_bad h0
  have HE := hidep he
  rw [he] at K1 K2
  have n0 : (e == 0) = false := by rcases hen with rfl | rfl | rfl <;> rfl
  have n1 : (e != e) = false := by simp
  have n2 : (e == e) = true := by simp
  clear hen he h0
  clear hA hR
  have B := bx1_start w (.slice ao al.length ca) (.slice bo arcs.length cb) 25
  go_enter Try.func3, Try.ntmps3
  go_wp2_with fail
  refine (K1.out _ B.bel).mono ?_
  rintro _ w1 ⟨rfl, hb1⟩
  have B1 := B.below hb1
  have x0 := B1.c0
  have x1 := B1.c1
  have xl := B1.lt
  have xb := hidep B1.bel
  clear hb1
  clear B
  go_wp2_with fail
  refine (K2.out _ B1.bel).mono ?_
  rintro _ w2 ⟨rfl, hb2⟩
  have B2 := B1.below hb2
  have x0 := B2.c0
  have x1 := B2.c1
  have xl := B2.lt
  have xb := hidep B2.bel
  clear hb2
  clear B1
  go_wp2_with fail
  refine (K3.out _ B2.bel).mono ?_
  rintro _ w3 ⟨na, qa, Ia, va, rfl, oa, hb3⟩
  have B3 := B2.below hb3
  have x0 := B3.c0
  have x1 := B3.c1
  have xl := B3.lt
  have xb := hidep B3.bel
  obtain ⟨ga, rfl⟩ := least_bad Ia HS.out
  rw [HE.out] at ga
  subst ga
  clear Ia
  obtain ⟨ra, sa, rfl, za⟩ := row_at oa
  clear oa
  clear hb3
  clear B2
  go_wp2_with fail
  refine (K4.out _ B3.bel).mono ?_
  rintro _ w4 ⟨nb, qb, Ib, vb, rfl, ob, hb4⟩
  have B4 := B3.below hb4
  have x0 := B4.c0
  have x1 := B4.c1
  have xl := B4.lt
  have xb := hidep B4.bel
  have za := za.below hb4
  obtain ⟨gb, rfl⟩ := least_bad Ib HS.out
  rw [HE.out] at gb
  subst gb
  clear Ib
  obtain ⟨rb, sb, rfl, zb⟩ := row_at ob
  clear ob
  clear hb4
  clear B3
  go_wp2_with fail
  refine (K5.out _ B4.bel).mono ?_
  rintro _ w5 ⟨nc, qc, Ic, vc, rfl, oc, hb5⟩
  have B5 := B4.below hb5
  have x0 := B5.c0
  have x1 := B5.c1
  have xl := B5.lt
  have xb := hidep B5.bel
  have za := za.below hb5
  have zb := zb.below hb5
  obtain ⟨gc, rfl⟩ := labels_bad Ic HS.out
  rw [HE.out] at gc
  subst gc
  clear Ic
  obtain ⟨rc, sc, rfl, zc⟩ := row_at oc
  clear oc
  clear hb5
  clear B4
  go_wp2_with fail
  refine (K6.out _ B5.bel).mono ?_
  rintro _ w6 ⟨nd, qd, Id, vd, rfl, od, hb6⟩
  have B6 := B5.below hb6
  have x0 := B6.c0
  have x1 := B6.c1
  have xl := B6.lt
  have xb := hidep B6.bel
  have za := za.below hb6
  have zb := zb.below hb6
  have zc := zc.below hb6
  obtain ⟨gd, rfl⟩ := deg_bad Id HS.out
  rw [HE.out] at gd
  subst gd
  clear Id
  obtain ⟨rd, sd, rfl, zd⟩ := row_at od
  clear od
  clear hb6
  clear B5
  go_wp2_with fail
  refine (EqualI_any ra none sa 0 [] [] _ za (.inl rfl) (by decide)).mono ?_
  rintro _ w7 ⟨rfl, hb7⟩
  have B7 := B6.below hb7
  have x0 := B7.c0
  have x1 := B7.c1
  have xl := B7.lt
  have xb := hidep B7.bel
  have za := za.below hb7
  have zb := zb.below hb7
  have zc := zc.below hb7
  have zd := zd.below hb7
  clear hb7
  clear B6
  go_wp2_with fail
  refine (EqualI_any rb none sb 0 [] [] _ zb (.inl rfl) (by decide)).mono ?_
  rintro _ w8 ⟨rfl, hb8⟩
  have B8 := B7.below hb8
  have x0 := B8.c0
  have x1 := B8.c1
  have xl := B8.lt
  have xb := hidep B8.bel
  have za := za.below hb8
  have zb := zb.below hb8
  have zc := zc.below hb8
  have zd := zd.below hb8
  clear hb8
  clear B7
  go_wp2_with fail
  refine (EqualI_any rc none sc 0 [] [] _ zc (.inl rfl) (by decide)).mono ?_
  rintro _ w9 ⟨rfl, hb9⟩
  have B9 := B8.below hb9
  have x0 := B9.c0
  have x1 := B9.c1
  have xl := B9.lt
  have xb := hidep B9.bel
  have za := za.below hb9
  have zb := zb.below hb9
  have zc := zc.below hb9
  have zd := zd.below hb9
  clear hb9
  clear B8
  go_wp2_with fail
  refine (EqualI_any rd none sd 0 [] [] _ zd (.inl rfl) (by decide)).mono ?_
  rintro _ w10 ⟨rfl, hb10⟩
  have B10 := B9.below hb10
  have x0 := B10.c0
  have x1 := B10.c1
  have xl := B10.lt
  have xb := hidep B10.bel
  have za := za.below hb10
  have zb := zb.below hb10
  have zc := zc.below hb10
  have zd := zd.below hb10
  clear hb10
  clear B9
  go_wp2
  go_ret
  exact ⟨rfl, xb.out⟩

set_option maxRecDepth 100000 in
set_option maxHeartbeats 8000000 in
theorem plainSays_none (ao bo : Option Addr) (ca cb : Nat) (al : List Bool) (arcs : List Ac) (fr : Int) (w : World) (hA : BsAt w ao al) (hR : PcAt w bo arcs) (h0 : shot al arcs = 0) (hv : vtx al.length fr = false) :
    Calls Try.prog 3 #[.agg #[.slice ao al.length ca, .slice bo arcs.length cb], .int .i64 fr] w fun e w' => e = .returned (.bool true) ∧ Below w.heap.size w w' := by
  have K1 : Hid (∀ W, Below w.heap.size w W → _) := fun W hW => rShot_any ao bo ca cb al arcs W (hA.below hW) (hR.below hW)
  have K2 : Hid (∀ W, Below w.heap.size w W → _) := fun W hW => plCheck_any ao bo ca cb al arcs W (hA.below hW) (hR.below hW)
  have K3 : Hid (∀ W, Below w.heap.size w W → _) := fun W hW => Hops_any ao bo ca cb al arcs fr W (hA.below hW) (hR.below hW)
  have K4 : Hid (∀ W, Below w.heap.size w W → _) := fun W hW => Costs_any ao bo ca cb al arcs fr W (hA.below hW) (hR.below hW)
  have K5 : Hid (∀ W, Below w.heap.size w W → _) := fun W hW => Labels_any ao bo ca cb al arcs W (hA.below hW) (hR.below hW)
  have K6 : Hid (∀ W, Below w.heap.size w W → _) := fun W hW => Degrees_any ao bo ca cb al arcs W (hA.below hW) (hR.below hW)
  have S := shot_right h0
  have HSR := hidep S
  have HS := hidep h0
  have HV := hidep hv
  have hl12 := S.nv
  rw [h0] at K1 K2
  have hw0 : IntKind.i64.wrap ((al.length : Int) - 1) = (al.length : Int) - 1 := wrap_near _ (by omega) (by omega)
  have KI : Hid (∀ W, Calls Try.prog 8 #[.int .i64 fr, .int .i64 0, .int .i64 ((al.length : Int) - 1)] W fun e w' => e = .returned (.bool false) ∧ w' = W) := fun W => by
    have := rIn_any fr 0 ((al.length : Int) - 1) W
    rw [inZ_vtx, hv] at this
    exact this
  have P3 : Hid (∀ W, Below w.heap.size w W → Calls Try.prog 6 #[.agg #[.slice ao al.length ca, .slice bo arcs.length cb], .int .i64 3, .int .i64 0] W fun e w' => ∃ v x k, e = .returned (.tuple #[v, .int .i64 (k : Nat)]) ∧ RoundsIs arcs (pricZ 3) (decide (3 = 3)) (firstL al (begF (3 : Nat) 0)) x k ∧ w'.ownsRow W.heap.size 3 1 v al.length (x.map (Value.int .i64)) ∧ Below W.heap.size W w') := fun W hW => rPlain_any ao bo ca cb al arcs 0 3 (.inr (.inr rfl)) W (hA.below hW) (hR.below hW) S
  have KD : Hid (∀ W, Below w.heap.size w W → _) := fun W hW => rDegrees_any ao bo ca cb al arcs W (hA.below hW) (hR.below hW) S.nv S.na
  clear h0 hv S
  clear hA hR
  have B := bx1_start w (.slice ao al.length ca) (.slice bo arcs.length cb) 25
  go_enter Try.func3, Try.ntmps3
  go_wp2_with fail
  refine (K1.out _ B.bel).mono ?_
  rintro _ w1 ⟨rfl, hb1⟩
  have B1 := B.below hb1
  have x0 := B1.c0
  have x1 := B1.c1
  have xl := B1.lt
  have xb := hidep B1.bel
  clear hb1
  clear B
  go_wp2_with fail
  refine (K2.out _ B1.bel).mono ?_
  rintro _ w2 ⟨rfl, hb2⟩
  have B2 := B1.below hb2
  have x0 := B2.c0
  have x1 := B2.c1
  have xl := B2.lt
  have xb := hidep B2.bel
  clear hb2
  clear B1
  go_wp2_with fail
  refine (P3.out _ B2.bel).mono ?_
  rintro _ w3 ⟨v3, y3, k3, rfl, R3, o3, hb3⟩
  have B3 := B2.below hb3
  have x0 := B3.c0
  have x1 := B3.c1
  have xl := B3.lt
  have xb := hidep B3.bel
  have Y3 := hidep (rounds_three HSR.out R3)
  have hl3 : y3.length ≤ 9223372036854775807 := by have h := Y3.out.mid.len; rw [firstL_length] at h; omega
  obtain ⟨r3, s3, rfl, z3⟩ := row_at o3
  clear R3 o3
  clear hb3
  clear B2
  go_wp2_with fail
  refine (KD.out _ B3.bel).mono ?_
  rintro _ w4 ⟨v4, rfl, o4, hb4⟩
  have B4 := B3.below hb4
  have x0 := B4.c0
  have x1 := B4.c1
  have xl := B4.lt
  have xb := hidep B4.bel
  have z3 := z3.below hb4
  obtain ⟨r4, s4, rfl, z4⟩ := row_at o4
  clear o4
  clear hb4
  clear B3
  go_wp2_with fail
  refine (KI.out _).mono ?_
  rintro _ wi ⟨rfl, hwi⟩
  subst hwi
  go_wp2_with fail
  refine (K3.out _ B4.bel).mono ?_
  rintro _ w5 ⟨na, qa, Ia, va, rfl, oa, hb5⟩
  have B5 := B4.below hb5
  have x0 := B5.c0
  have x1 := B5.c1
  have xl := B5.lt
  have xb := hidep B5.bel
  have z3 := z3.below hb5
  have z4 := z4.below hb5
  obtain ⟨rfl, rfl⟩ := least_none Ia HS.out HV.out
  clear Ia
  obtain ⟨ra, sa, rfl, za⟩ := row_at oa
  clear oa
  clear hb5
  clear B4
  go_wp2_with fail
  refine (K4.out _ B5.bel).mono ?_
  rintro _ w6 ⟨nb, qb, Ib, vb, rfl, ob, hb6⟩
  have B6 := B5.below hb6
  have x0 := B6.c0
  have x1 := B6.c1
  have xl := B6.lt
  have xb := hidep B6.bel
  have z3 := z3.below hb6
  have z4 := z4.below hb6
  have za := za.below hb6
  obtain ⟨rfl, rfl⟩ := least_none Ib HS.out HV.out
  clear Ib
  obtain ⟨rb, sb, rfl, zb⟩ := row_at ob
  clear ob
  clear hb6
  clear B5
  go_wp2_with fail
  refine (K5.out _ B6.bel).mono ?_
  rintro _ w7 ⟨nc, qc, Ic, vc, rfl, oc, hb7⟩
  have B7 := B6.below hb7
  have x0 := B7.c0
  have x1 := B7.c1
  have xl := B7.lt
  have xb := hidep B7.bel
  have z3 := z3.below hb7
  have z4 := z4.below hb7
  have za := za.below hb7
  have zb := zb.below hb7
  obtain ⟨rfl, Xc⟩ := labels_ok Ic HS.out
  obtain rfl := best_unique Xc Y3.out
  clear Ic Xc
  obtain ⟨rc, sc, rfl, zc⟩ := row_at oc
  clear oc
  clear hb7
  clear B6
  go_wp2_with fail
  refine (K6.out _ B7.bel).mono ?_
  rintro _ w8 ⟨nd, qd, Id, vd, rfl, od, hb8⟩
  have B8 := B7.below hb8
  have x0 := B8.c0
  have x1 := B8.c1
  have xl := B8.lt
  have xb := hidep B8.bel
  have z3 := z3.below hb8
  have z4 := z4.below hb8
  have za := za.below hb8
  have zb := zb.below hb8
  have zc := zc.below hb8
  obtain ⟨rfl, rfl⟩ := deg_ok Id HS.out
  clear Id
  obtain ⟨rd, sd, rfl, zd⟩ := row_at od
  clear od
  clear hb8
  clear B7
  have hl4 : (firstL al (degF arcs)).length ≤ 9223372036854775807 := by rw [firstL_length]; omega
  go_wp2_with fail
  refine (EqualI_any ra none sa 0 [] [] _ za (.inl rfl) (by decide)).mono ?_
  rintro _ w9 ⟨rfl, hb9⟩
  have B9 := B8.below hb9
  have x0 := B9.c0
  have x1 := B9.c1
  have xl := B9.lt
  have xb := hidep B9.bel
  have z3 := z3.below hb9
  have z4 := z4.below hb9
  have za := za.below hb9
  have zb := zb.below hb9
  have zc := zc.below hb9
  have zd := zd.below hb9
  clear hb9
  clear B8
  go_wp2_with fail
  refine (EqualI_any rb none sb 0 [] [] _ zb (.inl rfl) (by decide)).mono ?_
  rintro _ w10 ⟨rfl, hb10⟩
  have B10 := B9.below hb10
  have x0 := B10.c0
  have x1 := B10.c1
  have xl := B10.lt
  have xb := hidep B10.bel
  have z3 := z3.below hb10
  have z4 := z4.below hb10
  have za := za.below hb10
  have zb := zb.below hb10
  have zc := zc.below hb10
  have zd := zd.below hb10
  clear hb10
  clear B9
  go_wp2_with fail
  refine (EqualI_any rc r3 sc s3 _ _ _ zc z3 hl3).mono ?_
  rintro _ w11 ⟨rfl, hb11⟩
  have B11 := B10.below hb11
  have x0 := B11.c0
  have x1 := B11.c1
  have xl := B11.lt
  have xb := hidep B11.bel
  have z3 := z3.below hb11
  have z4 := z4.below hb11
  have za := za.below hb11
  have zb := zb.below hb11
  have zc := zc.below hb11
  have zd := zd.below hb11
  clear hb11
  clear B10
  go_wp2_with fail
  refine (EqualI_any rd r4 sd s4 _ _ _ zd z4 hl4).mono ?_
  rintro _ w12 ⟨rfl, hb12⟩
  have B12 := B11.below hb12
  have x0 := B12.c0
  have x1 := B12.c1
  have xl := B12.lt
  have xb := hidep B12.bel
  have z3 := z3.below hb12
  have z4 := z4.below hb12
  have za := za.below hb12
  have zb := zb.below hb12
  have zc := zc.below hb12
  have zd := zd.below hb12
  clear hb12
  clear B11
  go_wp2
  go_ret
  exact ⟨rfl, xb.out⟩

set_option maxRecDepth 100000 in
set_option maxHeartbeats 8000000 in
theorem plainSays_ok (ao bo : Option Addr) (ca cb : Nat) (al : List Bool) (arcs : List Ac) (fr : Int) (w : World) (hA : BsAt w ao al) (hR : PcAt w bo arcs) (h0 : shot al arcs = 0) (hv : vtx al.length fr = true) :
    Calls Try.prog 3 #[.agg #[.slice ao al.length ca, .slice bo arcs.length cb], .int .i64 fr] w fun e w' => e = .returned (.bool true) ∧ Below w.heap.size w w' := by
  have K1 : Hid (∀ W, Below w.heap.size w W → _) := fun W hW => rShot_any ao bo ca cb al arcs W (hA.below hW) (hR.below hW)
  have K2 : Hid (∀ W, Below w.heap.size w W → _) := fun W hW => plCheck_any ao bo ca cb al arcs W (hA.below hW) (hR.below hW)
  have K3 : Hid (∀ W, Below w.heap.size w W → _) := fun W hW => Hops_any ao bo ca cb al arcs fr W (hA.below hW) (hR.below hW)
  have K4 : Hid (∀ W, Below w.heap.size w W → _) := fun W hW => Costs_any ao bo ca cb al arcs fr W (hA.below hW) (hR.below hW)
  have K5 : Hid (∀ W, Below w.heap.size w W → _) := fun W hW => Labels_any ao bo ca cb al arcs W (hA.below hW) (hR.below hW)
  have K6 : Hid (∀ W, Below w.heap.size w W → _) := fun W hW => Degrees_any ao bo ca cb al arcs W (hA.below hW) (hR.below hW)
  have S := shot_right h0
  have HSR := hidep S
  have HS := hidep h0
  have HV := hidep hv
  have hl12 := S.nv
  rw [h0] at K1 K2
  have hw0 : IntKind.i64.wrap ((al.length : Int) - 1) = (al.length : Int) - 1 := wrap_near _ (by omega) (by omega)
  have KI : Hid (∀ W, Calls Try.prog 8 #[.int .i64 fr, .int .i64 0, .int .i64 ((al.length : Int) - 1)] W fun e w' => e = .returned (.bool true) ∧ w' = W) := fun W => by
    have := rIn_any fr 0 ((al.length : Int) - 1) W
    rw [inZ_vtx, hv] at this
    exact this
  have P3 : Hid (∀ W, Below w.heap.size w W → Calls Try.prog 6 #[.agg #[.slice ao al.length ca, .slice bo arcs.length cb], .int .i64 3, .int .i64 0] W fun e w' => ∃ v x k, e = .returned (.tuple #[v, .int .i64 (k : Nat)]) ∧ RoundsIs arcs (pricZ 3) (decide (3 = 3)) (firstL al (begF (3 : Nat) 0)) x k ∧ w'.ownsRow W.heap.size 3 1 v al.length (x.map (Value.int .i64)) ∧ Below W.heap.size W w') := fun W hW => rPlain_any ao bo ca cb al arcs 0 3 (.inr (.inr rfl)) W (hA.below hW) (hR.below hW) S
  have P1 : Hid (∀ W, Below w.heap.size w W → Calls Try.prog 6 #[.agg #[.slice ao al.length ca, .slice bo arcs.length cb], .int .i64 1, .int .i64 fr] W fun e w' => ∃ v x k, e = .returned (.tuple #[v, .int .i64 (k : Nat)]) ∧ RoundsIs arcs (pricZ 1) (decide (1 = 3)) (firstL al (begF (1 : Nat) fr)) x k ∧ w'.ownsRow W.heap.size 3 1 v al.length (x.map (Value.int .i64)) ∧ Below W.heap.size W w') := fun W hW => rPlain_any ao bo ca cb al arcs fr 1 (.inl rfl) W (hA.below hW) (hR.below hW) S
  have P2 : Hid (∀ W, Below w.heap.size w W → Calls Try.prog 6 #[.agg #[.slice ao al.length ca, .slice bo arcs.length cb], .int .i64 2, .int .i64 fr] W fun e w' => ∃ v x k, e = .returned (.tuple #[v, .int .i64 (k : Nat)]) ∧ RoundsIs arcs (pricZ 2) (decide (2 = 3)) (firstL al (begF (2 : Nat) fr)) x k ∧ w'.ownsRow W.heap.size 3 1 v al.length (x.map (Value.int .i64)) ∧ Below W.heap.size W w') := fun W hW => rPlain_any ao bo ca cb al arcs fr 2 (.inr (.inl rfl)) W (hA.below hW) (hR.below hW) S
  have KD : Hid (∀ W, Below w.heap.size w W → _) := fun W hW => rDegrees_any ao bo ca cb al arcs W (hA.below hW) (hR.below hW) S.nv S.na
  clear h0 hv S
  clear hA hR
  have B := bx1_start w (.slice ao al.length ca) (.slice bo arcs.length cb) 25
  go_enter Try.func3, Try.ntmps3
  go_wp2_with fail
  refine (K1.out _ B.bel).mono ?_
  rintro _ w1 ⟨rfl, hb1⟩
  have B1 := B.below hb1
  have x0 := B1.c0
  have x1 := B1.c1
  have xl := B1.lt
  have xb := hidep B1.bel
  clear hb1
  clear B
  go_wp2_with fail
  refine (K2.out _ B1.bel).mono ?_
  rintro _ w2 ⟨rfl, hb2⟩
  have B2 := B1.below hb2
  have x0 := B2.c0
  have x1 := B2.c1
  have xl := B2.lt
  have xb := hidep B2.bel
  clear hb2
  clear B1
  go_wp2_with fail
  refine (P3.out _ B2.bel).mono ?_
  rintro _ w3 ⟨v3, y3, k3, rfl, R3, o3, hb3⟩
  have B3 := B2.below hb3
  have x0 := B3.c0
  have x1 := B3.c1
  have xl := B3.lt
  have xb := hidep B3.bel
  have Y3 := hidep (rounds_three HSR.out R3)
  have hl3 : y3.length ≤ 9223372036854775807 := by have h := Y3.out.mid.len; rw [firstL_length] at h; omega
  obtain ⟨r3, s3, rfl, z3⟩ := row_at o3
  clear R3 o3
  clear hb3
  clear B2
  go_wp2_with fail
  refine (KD.out _ B3.bel).mono ?_
  rintro _ w4 ⟨v4, rfl, o4, hb4⟩
  have B4 := B3.below hb4
  have x0 := B4.c0
  have x1 := B4.c1
  have xl := B4.lt
  have xb := hidep B4.bel
  have z3 := z3.below hb4
  obtain ⟨r4, s4, rfl, z4⟩ := row_at o4
  clear o4
  clear hb4
  clear B3
  go_wp2_with fail
  refine (KI.out _).mono ?_
  rintro _ wi ⟨rfl, hwi⟩
  subst hwi
  go_wp2_with fail
  refine (P1.out _ B4.bel).mono ?_
  rintro _ w5 ⟨v1, y1, k1, rfl, R1, o1, hb5⟩
  have B5 := B4.below hb5
  have x0 := B5.c0
  have x1 := B5.c1
  have xl := B5.lt
  have xb := hidep B5.bel
  have z3 := z3.below hb5
  have z4 := z4.below hb5
  have Y1 := hidep (rounds_one HSR.out R1)
  have hl1 : y1.length ≤ 9223372036854775807 := by have h := Y1.out.mid.len; rw [firstL_length] at h; omega
  obtain ⟨r1, s1, rfl, z1⟩ := row_at o1
  clear R1 o1
  clear hb5
  clear B4
  go_wp2_with fail
  refine (P2.out _ B5.bel).mono ?_
  rintro _ w6 ⟨v2, y2, k2, rfl, R2, o2, hb6⟩
  have B6 := B5.below hb6
  have x0 := B6.c0
  have x1 := B6.c1
  have xl := B6.lt
  have xb := hidep B6.bel
  have z3 := z3.below hb6
  have z4 := z4.below hb6
  have z1 := z1.below hb6
  have Y2 := hidep (rounds_two HSR.out R2)
  have hl2 : y2.length ≤ 9223372036854775807 := by have h := Y2.out.mid.len; rw [firstL_length] at h; omega
  obtain ⟨r2, s2, rfl, z2⟩ := row_at o2
  clear R2 o2
  clear hb6
  clear B5
  go_wp2_with fail
  refine (K3.out _ B6.bel).mono ?_
  rintro _ w7 ⟨na, qa, Ia, va, rfl, oa, hb7⟩
  have B7 := B6.below hb7
  have x0 := B7.c0
  have x1 := B7.c1
  have xl := B7.lt
  have xb := hidep B7.bel
  have z3 := z3.below hb7
  have z4 := z4.below hb7
  have z1 := z1.below hb7
  have z2 := z2.below hb7
  obtain ⟨rfl, Xa⟩ := least_ok Ia HS.out HV.out
  obtain rfl := best_unique Xa Y1.out
  clear Ia Xa
  obtain ⟨ra, sa, rfl, za⟩ := row_at oa
  clear oa
  clear hb7
  clear B6
  go_wp2_with fail
  refine (K4.out _ B7.bel).mono ?_
  rintro _ w8 ⟨nb, qb, Ib, vb, rfl, ob, hb8⟩
  have B8 := B7.below hb8
  have x0 := B8.c0
  have x1 := B8.c1
  have xl := B8.lt
  have xb := hidep B8.bel
  have z3 := z3.below hb8
  have z4 := z4.below hb8
  have z1 := z1.below hb8
  have z2 := z2.below hb8
  have za := za.below hb8
  obtain ⟨rfl, Xb⟩ := least_ok Ib HS.out HV.out
  obtain rfl := best_unique Xb Y2.out
  clear Ib Xb
  obtain ⟨rb, sb, rfl, zb⟩ := row_at ob
  clear ob
  clear hb8
  clear B7
  go_wp2_with fail
  refine (K5.out _ B8.bel).mono ?_
  rintro _ w9 ⟨nc, qc, Ic, vc, rfl, oc, hb9⟩
  have B9 := B8.below hb9
  have x0 := B9.c0
  have x1 := B9.c1
  have xl := B9.lt
  have xb := hidep B9.bel
  have z3 := z3.below hb9
  have z4 := z4.below hb9
  have z1 := z1.below hb9
  have z2 := z2.below hb9
  have za := za.below hb9
  have zb := zb.below hb9
  obtain ⟨rfl, Xc⟩ := labels_ok Ic HS.out
  obtain rfl := best_unique Xc Y3.out
  clear Ic Xc
  obtain ⟨rc, sc, rfl, zc⟩ := row_at oc
  clear oc
  clear hb9
  clear B8
  go_wp2_with fail
  refine (K6.out _ B9.bel).mono ?_
  rintro _ w10 ⟨nd, qd, Id, vd, rfl, od, hb10⟩
  have B10 := B9.below hb10
  have x0 := B10.c0
  have x1 := B10.c1
  have xl := B10.lt
  have xb := hidep B10.bel
  have z3 := z3.below hb10
  have z4 := z4.below hb10
  have z1 := z1.below hb10
  have z2 := z2.below hb10
  have za := za.below hb10
  have zb := zb.below hb10
  have zc := zc.below hb10
  obtain ⟨rfl, rfl⟩ := deg_ok Id HS.out
  clear Id
  obtain ⟨rd, sd, rfl, zd⟩ := row_at od
  clear od
  clear hb10
  clear B9
  have hl4 : (firstL al (degF arcs)).length ≤ 9223372036854775807 := by rw [firstL_length]; omega
  go_wp2_with fail
  refine (EqualI_any ra r1 sa s1 _ _ _ za z1 hl1).mono ?_
  rintro _ w11 ⟨rfl, hb11⟩
  have B11 := B10.below hb11
  have x0 := B11.c0
  have x1 := B11.c1
  have xl := B11.lt
  have xb := hidep B11.bel
  have z3 := z3.below hb11
  have z4 := z4.below hb11
  have z1 := z1.below hb11
  have z2 := z2.below hb11
  have za := za.below hb11
  have zb := zb.below hb11
  have zc := zc.below hb11
  have zd := zd.below hb11
  clear hb11
  clear B10
  go_wp2_with fail
  refine (EqualI_any rb r2 sb s2 _ _ _ zb z2 hl2).mono ?_
  rintro _ w12 ⟨rfl, hb12⟩
  have B12 := B11.below hb12
  have x0 := B12.c0
  have x1 := B12.c1
  have xl := B12.lt
  have xb := hidep B12.bel
  have z3 := z3.below hb12
  have z4 := z4.below hb12
  have z1 := z1.below hb12
  have z2 := z2.below hb12
  have za := za.below hb12
  have zb := zb.below hb12
  have zc := zc.below hb12
  have zd := zd.below hb12
  clear hb12
  clear B11
  go_wp2_with fail
  refine (EqualI_any rc r3 sc s3 _ _ _ zc z3 hl3).mono ?_
  rintro _ w13 ⟨rfl, hb13⟩
  have B13 := B12.below hb13
  have x0 := B13.c0
  have x1 := B13.c1
  have xl := B13.lt
  have xb := hidep B13.bel
  have z3 := z3.below hb13
  have z4 := z4.below hb13
  have z1 := z1.below hb13
  have z2 := z2.below hb13
  have za := za.below hb13
  have zb := zb.below hb13
  have zc := zc.below hb13
  have zd := zd.below hb13
  clear hb13
  clear B12
  go_wp2_with fail
  refine (EqualI_any rd r4 sd s4 _ _ _ zd z4 hl4).mono ?_
  rintro _ w14 ⟨rfl, hb14⟩
  have B14 := B13.below hb14
  have x0 := B14.c0
  have x1 := B14.c1
  have xl := B14.lt
  have xb := hidep B14.bel
  have z3 := z3.below hb14
  have z4 := z4.below hb14
  have z1 := z1.below hb14
  have z2 := z2.below hb14
  have za := za.below hb14
  have zb := zb.below hb14
  have zc := zc.below hb14
  have zd := zd.below hb14
  clear hb14
  clear B13
  go_wp2
  go_ret
  exact ⟨rfl, xb.out⟩


theorem plainSays_walk (ao bo : Option Addr) (ca cb : Nat) (al : List Bool) (arcs : List Ac) (fr : Int) (w : World) (hA : BsAt w ao al) (hR : PcAt w bo arcs) :
    Calls Try.prog 3 #[.agg #[.slice ao al.length ca, .slice bo arcs.length cb], .int .i64 fr] w fun e w' => e = .returned (.bool true) ∧ Below w.heap.size w w' := by
  by_cases h0 : shot al arcs = 0
  · cases hv : vtx al.length fr with
    | false => exact plainSays_none ao bo ca cb al arcs fr w hA hR h0 hv
    | true => exact plainSays_ok ao bo ca cb al arcs fr w hA hR h0 hv
  · exact plainSays_bad ao bo ca cb al arcs fr w hA hR h0

end Go.Proofs.Ytnopdnajlbaccab
