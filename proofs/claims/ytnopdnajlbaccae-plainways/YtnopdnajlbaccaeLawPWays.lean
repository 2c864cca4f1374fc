/-
  The law PlainWays: no arc makes a way shorter than is told; what is told is told along some arc; all that hang together have one label; arcs are counted once.
-/
import Derived.Test.YtnopdnajlbaccaeWMath
namespace Go.Proofs.Ytnopdnajlbaccae
open Go.RowKit

/-- a box of a snapshot, and all that was there -/
structure Bx1w (w W : World) (x y : Value) : Prop where
  c0 : W.cell? ⟨w.heap.size, 0, none⟩ = some x
  c1 : W.cell? ⟨w.heap.size, 1, none⟩ = some y
  bel : Below w.heap.size w W
  lt : w.heap.size < W.heap.size
theorem bx1w_start (w : World) (x y : Value) (t : TypeId) : Bx1w w (w.alloc (.cells #[x, y] t)) x y := by
  refine ⟨?_, ?_, pal _ _, by simp⟩
  · rw [World.cell?_alloc_at _ _ _ _ rfl]; rfl
  · rw [World.cell?_alloc_at _ _ _ _ rfl]; rfl
theorem Bx1w.below {w W W' : World} {x y : Value} (h : Bx1w w W x y) (hb : Below W.heap.size W W') : Bx1w w W' x y :=
  ⟨(hb.cell (p := ⟨w.heap.size, 0, none⟩) h.lt).trans h.c0, (hb.cell (p := ⟨w.heap.size, 1, none⟩) h.lt).trans h.c1, ptw h.bel hb, Nat.lt_of_lt_of_le h.lt hb.size⟩
theorem rowW_at {w : World} {base : Nat} {v : Value} {n : Nat} {x : List Int} (h : w.ownsRow base 3 1 v n (x.map (Value.int .i64))) : ∃ ao cap, v = .slice ao x.length cap ∧ ZsAt w ao x := zsAt_of_owns h
/-- three numbers in a new block -/
theorem zs_three (w : World) (x y z : Int) (t : TypeId) : ZsAt (w.alloc (.cells #[.int .i64 x, .int .i64 y, .int .i64 z] t)) (some ⟨w.heap.size, 0, none⟩) [x, y, z] := by
  refine .inr ⟨_, 0, rfl, by simp, fun j hj => ?_⟩
  match j, hj with
  | 0, _ => rw [World.cell?_alloc_at _ _ _ _ rfl]; rfl
  | 1, _ => rw [World.cell?_alloc_at _ _ _ _ rfl]; rfl
  | 2, _ => rw [World.cell?_alloc_at _ _ _ _ rfl]; rfl
theorem zs_get {w : World} {ao : Option Addr} {l : List Int} {k : Nat} (h : ZsAt w ao l) (hk : k < l.length) : ∃ b off, ao = some ⟨b, off, none⟩ ∧ b < w.heap.size ∧ ∀ j, j < l.length → w.cell? ⟨b, off + j, none⟩ = some (.int .i64 (l.getD j 0)) := by
  rcases h with h0 | h
  · subst h0; simp at hk
  · exact h
/-- a box of one value, behind all that was there -/
theorem box_new (w : World) (v : Value) (t : TypeId) : (w.alloc (.cells #[v] t)).cell? ⟨w.heap.size, 0, none⟩ = some v := by
  rw [World.cell?_alloc_at _ _ _ _ rfl]; rfl


set_option maxRecDepth 100000 in
set_option maxHeartbeats 16000000 in
theorem plainWays_bad (ao bo : Option Addr) (ca cb : Nat) (al : List Bool) (arcs : List Ac) (fr : Int) (w : World) (hA : BsAt w ao al) (hR : PcAt w bo arcs) (h0 : ¬ shot al arcs = 0) :
    Calls Try.prog 4 #[.agg #[.slice ao al.length ca, .slice bo arcs.length cb], .int .i64 fr] w fun e w' => e = .returned (.bool true) ∧ Below w.heap.size w w' := by
  have KC : Hid (∀ W, Below w.heap.size w W → _) := fun W hW => Costs_any ao bo ca cb al arcs fr W (hA.below hW) (hR.below hW)
  have KH : Hid (∀ W, Below w.heap.size w W → _) := fun W hW => Hops_any ao bo ca cb al arcs fr W (hA.below hW) (hR.below hW)
  have KL : Hid (∀ W, Below w.heap.size w W → _) := fun W hW => Labels_any ao bo ca cb al arcs W (hA.below hW) (hR.below hW)
  have KD : Hid (∀ W, Below w.heap.size w W → _) := fun W hW => Degrees_any ao bo ca cb al arcs W (hA.below hW) (hR.below hW)
  have HS := hidep h0
  clear hA h0 hR
  have B := bx1w_start w (.slice ao al.length ca) (.slice bo arcs.length cb) 39
  go_enter Try.func4, Try.ntmps4
  go_wp2_with fail
  refine (row_any _).mono ?_
  rintro _ w1 ⟨ra, rb, rfl, hra, hrb, hb1⟩
  have B1 := B.below hb1
  clear B hb1
  have KR := Costs_any ra rb 3 2 [true, true, true] [(0, 1, 4), (1, 2, 5)] 0 w1 hra hrb
  have x0 := B1.c0
  have x1 := B1.c1
  have xl := B1.lt
  go_wp2_with fail
  refine KR.mono ?_
  rintro _ w2 ⟨n2, q2, I2, v2, rfl, o2, hb2⟩
  obtain ⟨rfl, rfl⟩ := row_costs I2
  obtain ⟨r2, s2, rfl, z2⟩ := rowW_at o2
  have B2 := B1.below hb2
  have x0 := B2.c0
  have x1 := B2.c1
  have xl := B2.lt
  clear B1 hb2 KR hra hrb I2 o2
  have hz3 : ([0, 4, 9] : List Int).length = 3 := rfl
  have KE := fun t => EqualI_any r2 (some ⟨w2.heap.size, 0, none⟩) s2 3 [0, 4, 9] [0, 4, 9] (w2.alloc (.cells #[.int .i64 0, .int .i64 4, .int .i64 9] t)) (z2.below (pal w2 _)) (zs_three w2 0 4 9 t) (by decide)
  rw [hz3] at KE
  simp only [hz3]
  go_wp2_with fail
  refine (KE _).mono ?_
  rintro _ w3 ⟨rfl, hb3⟩
  have B3 := B2.below (ptw (pal w2 _) hb3)
  have x0 := B3.c0
  have x1 := B3.c1
  have xl := B3.lt
  clear B2 hb3 KE z2 hz3
  simp only [decide_true]
  go_wp2_with fail
  refine (KC.out _ B3.bel).mono ?_
  rintro _ w4 ⟨nC, C, IC, vC, rfl, oC, hb4⟩
  obtain ⟨rC, sC, rfl, zC⟩ := rowW_at oC
  have HIC := hidep IC
  have B4 := B3.below hb4
  clear B3 hb4 IC oC
  have BX := B4.below (pal w4 (.cells #[.slice rC C.length sC] 40))
  have cb7 := box_new w4 (.slice rC C.length sC) 40
  have lb7 : w4.heap.size < (w4.alloc (.cells #[.slice rC C.length sC] 40)).heap.size := by simp
  have zC := zC.below (pal w4 (.cells #[.slice rC C.length sC] 40))
  have x0 := B4.c0
  have x1 := B4.c1
  have xl := B4.lt
  go_wp2_with fail
  generalize hW5 : w4.alloc (.cells #[.slice rC C.length sC] 40) = w5 at *
  clear hW5 x0 x1 xl B4
  refine (KH.out _ BX.bel).mono ?_
  rintro _ w6 ⟨nH, H, IH, vH, rfl, oH, hb6⟩
  obtain ⟨rH, sH, rfl, zH⟩ := rowW_at oH
  have HIH := hidep IH
  have B6 := BX.below hb6
  have cb7 := (hb6.cell (p := ⟨w4.heap.size, 0, none⟩) lb7).trans cb7
  have lb7 := Nat.lt_of_lt_of_le lb7 hb6.size
  have zC := zC.below hb6
  have x0 := B6.c0
  have x1 := B6.c1
  have xl := B6.lt
  clear BX hb6
  clear IH oH
  go_wp2_with fail
  refine (KL.out _ B6.bel).mono ?_
  rintro _ w7 ⟨nL, L, IL, vL, rfl, oL, hb7⟩
  obtain ⟨rL, sL, rfl, zL⟩ := rowW_at oL
  have HIL := hidep IL
  have B7 := B6.below hb7
  have cb7 := (hb7.cell (p := ⟨w4.heap.size, 0, none⟩) lb7).trans cb7
  have lb7 := Nat.lt_of_lt_of_le lb7 hb7.size
  have zC := zC.below hb7
  have zH := zH.below hb7
  have x0 := B7.c0
  have x1 := B7.c1
  have xl := B7.lt
  clear B6 hb7
  clear IL oL
  go_wp2_with fail
  refine (KD.out _ B7.bel).mono ?_
  rintro _ w8 ⟨nD, D, ID, vD, rfl, oD, hb8⟩
  obtain ⟨rD, sD, rfl, zD⟩ := rowW_at oD
  have HID := hidep ID
  have B8 := B7.below hb8
  have cb7 := (hb8.cell (p := ⟨w4.heap.size, 0, none⟩) lb7).trans cb7
  have lb7 := Nat.lt_of_lt_of_le lb7 hb8.size
  have zC := zC.below hb8
  have zH := zH.below hb8
  have zL := zL.below hb8
  have x0 := B8.c0
  have x1 := B8.c1
  have xl := B8.lt
  clear B7 hb8
  clear ID oD KC KH KL KD
  have eC := least_bad' HIC.out HS.out
  have eH := least_bad' HIH.out HS.out
  have eL := labels_bad' HIL.out HS.out
  have eD := degs_bad' HID.out HS.out
  obtain ⟨e, he, hen⟩ := shot_bad HS.out
  rw [he] at eC eH eL eD
  subst eC eH eL eD
  clear he HIC HIH HIL HID HS
  have HB := hidep B8.bel
  rcases hen with rfl | rfl | rfl
  all_goals
    go_wp2
    go_ret
    exact ⟨rfl, HB.out⟩

set_option maxRecDepth 100000 in
set_option maxHeartbeats 16000000 in
theorem plainWays_ok (ao bo : Option Addr) (ca cb : Nat) (al : List Bool) (arcs : List Ac) (fr : Int) (w : World) (hA : BsAt w ao al) (hR : PcAt w bo arcs) (h0 : shot al arcs = 0) :
    Calls Try.prog 4 #[.agg #[.slice ao al.length ca, .slice bo arcs.length cb], .int .i64 fr] w fun e w' => e = .returned (.bool true) ∧ Below w.heap.size w w' := by
  have KC : Hid (∀ W, Below w.heap.size w W → _) := fun W hW => Costs_any ao bo ca cb al arcs fr W (hA.below hW) (hR.below hW)
  have KH : Hid (∀ W, Below w.heap.size w W → _) := fun W hW => Hops_any ao bo ca cb al arcs fr W (hA.below hW) (hR.below hW)
  have KL : Hid (∀ W, Below w.heap.size w W → _) := fun W hW => Labels_any ao bo ca cb al arcs W (hA.below hW) (hR.below hW)
  have KD : Hid (∀ W, Below w.heap.size w W → _) := fun W hW => Degrees_any ao bo ca cb al arcs W (hA.below hW) (hR.below hW)
  have HS := hidep h0
  clear hA h0
  have B := bx1w_start w (.slice ao al.length ca) (.slice bo arcs.length cb) 39
  go_enter Try.func4, Try.ntmps4
  go_wp2_with fail
  refine (row_any _).mono ?_
  rintro _ w1 ⟨ra, rb, rfl, hra, hrb, hb1⟩
  have B1 := B.below hb1
  clear B hb1
  have KR := Costs_any ra rb 3 2 [true, true, true] [(0, 1, 4), (1, 2, 5)] 0 w1 hra hrb
  have x0 := B1.c0
  have x1 := B1.c1
  have xl := B1.lt
  go_wp2_with fail
  refine KR.mono ?_
  rintro _ w2 ⟨n2, q2, I2, v2, rfl, o2, hb2⟩
  obtain ⟨rfl, rfl⟩ := row_costs I2
  obtain ⟨r2, s2, rfl, z2⟩ := rowW_at o2
  have B2 := B1.below hb2
  have x0 := B2.c0
  have x1 := B2.c1
  have xl := B2.lt
  clear B1 hb2 KR hra hrb I2 o2
  have hz3 : ([0, 4, 9] : List Int).length = 3 := rfl
  have KE := fun t => EqualI_any r2 (some ⟨w2.heap.size, 0, none⟩) s2 3 [0, 4, 9] [0, 4, 9] (w2.alloc (.cells #[.int .i64 0, .int .i64 4, .int .i64 9] t)) (z2.below (pal w2 _)) (zs_three w2 0 4 9 t) (by decide)
  rw [hz3] at KE
  simp only [hz3]
  go_wp2_with fail
  refine (KE _).mono ?_
  rintro _ w3 ⟨rfl, hb3⟩
  have B3 := B2.below (ptw (pal w2 _) hb3)
  have x0 := B3.c0
  have x1 := B3.c1
  have xl := B3.lt
  clear B2 hb3 KE z2 hz3
  simp only [decide_true]
  go_wp2_with fail
  refine (KC.out _ B3.bel).mono ?_
  rintro _ w4 ⟨nC, C, IC, vC, rfl, oC, hb4⟩
  obtain ⟨rC, sC, rfl, zC⟩ := rowW_at oC
  have HIC := hidep IC
  have B4 := B3.below hb4
  clear B3 hb4 IC oC
  have BX := B4.below (pal w4 (.cells #[.slice rC C.length sC] 40))
  have cb7 := box_new w4 (.slice rC C.length sC) 40
  have lb7 : w4.heap.size < (w4.alloc (.cells #[.slice rC C.length sC] 40)).heap.size := by simp
  have zC := zC.below (pal w4 (.cells #[.slice rC C.length sC] 40))
  have x0 := B4.c0
  have x1 := B4.c1
  have xl := B4.lt
  go_wp2_with fail
  generalize hW5 : w4.alloc (.cells #[.slice rC C.length sC] 40) = w5 at *
  clear hW5 x0 x1 xl B4
  refine (KH.out _ BX.bel).mono ?_
  rintro _ w6 ⟨nH, H, IH, vH, rfl, oH, hb6⟩
  obtain ⟨rH, sH, rfl, zH⟩ := rowW_at oH
  have HIH := hidep IH
  have B6 := BX.below hb6
  have cb7 := (hb6.cell (p := ⟨w4.heap.size, 0, none⟩) lb7).trans cb7
  have lb7 := Nat.lt_of_lt_of_le lb7 hb6.size
  have zC := zC.below hb6
  have x0 := B6.c0
  have x1 := B6.c1
  have xl := B6.lt
  clear BX hb6
  clear IH oH
  go_wp2_with fail
  refine (KL.out _ B6.bel).mono ?_
  rintro _ w7 ⟨nL, L, IL, vL, rfl, oL, hb7⟩
  obtain ⟨rL, sL, rfl, zL⟩ := rowW_at oL
  have HIL := hidep IL
  have B7 := B6.below hb7
  have cb7 := (hb7.cell (p := ⟨w4.heap.size, 0, none⟩) lb7).trans cb7
  have lb7 := Nat.lt_of_lt_of_le lb7 hb7.size
  have zC := zC.below hb7
  have zH := zH.below hb7
  have x0 := B7.c0
  have x1 := B7.c1
  have xl := B7.lt
  clear B6 hb7
  clear IL oL
  go_wp2_with fail
  refine (KD.out _ B7.bel).mono ?_
  rintro _ w8 ⟨nD, D, ID, vD, rfl, oD, hb8⟩
  obtain ⟨rD, sD, rfl, zD⟩ := rowW_at oD
  have HID := hidep ID
  have B8 := B7.below hb8
  have cb7 := (hb8.cell (p := ⟨w4.heap.size, 0, none⟩) lb7).trans cb7
  have lb7 := Nat.lt_of_lt_of_le lb7 hb8.size
  have zC := zC.below hb8
  have zH := zH.below hb8
  have zL := zL.below hb8
  have x0 := B8.c0
  have x1 := B8.c1
  have xl := B8.lt
  clear B7 hb8
  clear ID oD KC KH KL KD
  have S := shot_right HS.out
  have HSS := hidep S
  obtain ⟨rfl, BL⟩ := labels_best HIL.out HS.out
  obtain ⟨rfl, rfl⟩ := degs_is HID.out HS.out
  have HQ1 : Hid (vtx al.length fr = true → nC = 0 ∧ nH = 0) := fun h => ⟨by rw [least_err HIC.out HS.out, if_pos h], by rw [least_err HIH.out HS.out, if_pos h]⟩
  have HQ2 : Hid (vtx al.length fr = false → nC = 4 ∧ nH = 4) := fun h => ⟨by rw [least_err HIC.out HS.out, if_neg (by rw [h]; decide)], by rw [least_err HIH.out HS.out, if_neg (by rw [h]; decide)]⟩
  have HBL := hidep BL
  have nv := S.nv
  have na := S.na
  have HLl : Hid (L.length = al.length) := BL.mid.len.trans (firstL_length _ _)
  have HDl : Hid ((firstL al (degF arcs)).length = al.length) := firstL_length _ _
  have HW1 : Hid (∀ k, k < al.length → ((firstL al (degF arcs)).getD k 0 = 1099511627776 ∧ L.getD k 0 = 1099511627776) ∨ (0 ≤ (firstL al (degF arcs)).getD k 0 ∧ (firstL al (degF arcs)).getD k 0 ≤ 30 ∧ 0 ≤ L.getD k 0 ∧ L.getD k 0 ≤ (k : Int))) := fun k hk => ways_one S BL hk
  have HDB := hidep (deg_dsum_bounds S)
  have HDS := hidep (deg_sum S)
  clear BL HIL HID S
  generalize firstL al (degF arcs) = D at *
  have HB8 := hidep B8
  have hl8 := B8.lt
  clear B8
  go_wp2
  go_loopw [15, 16, 17, 81] (fun vn _ _ i wr => ∃ k : Nat, k ≤ D.length ∧ i = .int .i64 k ∧ vn = .int .i64 (dsum (D.take k)) ∧ wr = w8) (fun _ _ _ i _ => D.length - (intOf i).toNat)
  case atStart => exact ⟨0, Nat.zero_le _, rfl, rfl, rfl⟩
  case round =>
    obtain ⟨k, hk, rfl, rfl, rfl⟩ := hrel
    have hDl12 : D.length ≤ 12 := by rw [HDl.out]; exact nv
    by_cases hlt : k < D.length
    · have hlt2 : k < L.length := by rw [HLl.out, ← HDl.out]; exact hlt
      obtain ⟨db, dof, rfl, hdb, hdc⟩ := zs_get zD hlt
      obtain ⟨lb, lof, rfl, hlb, hlc⟩ := zs_get zL hlt2
      have c0 := hdc k hlt
      have c1 := hlc k hlt2
      have hki : (k : Int) < (D.length : Int) := by omega
      have hki2 : (k : Int) < (L.length : Int) := by omega
      have HS1 := hidep (dsum_take hlt)
      rw [← getD_get hlt] at HS1
      have hsb := HDB.out k
      have hw := HW1.out k (by rw [← HDl.out]; exact hlt)
      clear hdc hlc zC zH zD zL
      generalize dsum (D.take k) = sk at *
      generalize D.getD k 0 = dk at *
      generalize L.getD k 0 = lk at *
      rcases hw with ⟨rfl, rfl⟩ | ⟨u1, u2, u3, u4⟩
      · simp only [if_true, Int.add_zero] at HS1
        go_wp2
        go_roundw
        case rel => exact ⟨k + 1, by omega, by go_num, by rw [HS1.out], by trivial⟩
        case measure => simp [intOf]; omega
      · rw [if_neg (by omega)] at HS1
        have d1 : (dk != 1099511627776) = true := by rw [bne_iff_ne]; omega
        have d2 : (dk == 1099511627776) = false := by rw [beq_eq_false_iff_ne]; omega
        have d3 : (lk == 1099511627776) = false := by rw [beq_eq_false_iff_ne]; omega
        have d4 : (lk != 1099511627776) = true := by rw [bne_iff_ne]; omega
        have hw1 : IntKind.i64.wrap (sk + dk) = sk + dk := wrap_small _ (by omega) (by omega)
        go_wp2
        go_roundw
        case rel => exact ⟨k + 1, by omega, by go_num, by rw [HS1.out], by trivial⟩
        case measure => simp [intOf]; omega
    · have hkl : k = D.length := by omega
      subst hkl
      rw [List.take_length, HDS.out]
      clear HW1 HDB zD HDS hlt hk hDl12
      obtain ⟨wo, rfl⟩ : ∃ x, x = wr := ⟨_, rfl⟩
      go_wp2
      go_loopw [19, 123] (fun _ i wr => ∃ k : Nat, k ≤ arcs.length ∧ i = .int .i64 k ∧ Below wo.heap.size wo wr) (fun _ i _ => arcs.length - (intOf i).toNat)
      case atStart => exact ⟨0, Nat.zero_le _, rfl, Below.refl _ _⟩
      case round =>
        obtain ⟨k, hk, rfl, hb⟩ := hrel
        have hzb := hb.size
        by_cases hlt : k < arcs.length
        · rcases hR.below (ptw HB8.out.bel hb) with h0 | ⟨b, off, rfl, hbr, hc⟩
          · subst h0; simp at hlt
          obtain ⟨c0, c1, c2⟩ := PcAt.at3 hlt hc
          obtain ⟨A, B, hA, hB, eA, eB⟩ := arc_parts HSS.out.en hlt
          rw [← HLl.out] at hA hB
          have hlab := label_arc HBL.out (List.getElem_mem hlt)
          obtain ⟨lb, lof, rfl, hlb, hlc⟩ := zs_get (zL.below hb) hA
          have e0 := hlc A hA
          have e1 := hlc B hB
          unfold vat at hlab
          rw [eA, eB] at hlab
          simp only [Int.toNat_natCast] at hlab
          rw [← hlab] at e1
          rw [eA] at c0
          rw [eB] at c1
          have hiA : (A : Int) < (L.length : Int) := by omega
          have hiB : (B : Int) < (L.length : Int) := by omega
          have HNX : Hid (∀ o, Below wo.heap.size wo (wr.alloc o)) := fun o => ptw hb (pal wr o)
          clear hc hlc hlab eA eB zC zH zL hR
          generalize L.getD A 0 = lab at *
          generalize arcs[k].2.2 = ac at *
          go_wp2
          go_quiet (fail)
          go_wp2
          go_roundw
          case rel => exact ⟨k + 1, by omega, by go_num, below_drewN (HNX.out _) _⟩
          case measure => simp [intOf]; omega
        · have hkl : k = arcs.length := by omega
          subst hkl
          have B9 := HB8.out.below hb
          have cb7 := (hb.cell (p := ⟨w4.heap.size, 0, none⟩) lb7).trans cb7
          have lb7 := Nat.lt_of_lt_of_le lb7 hb.size
          have zC := zC.below hb
          have zH := zH.below hb
          have zL := zL.below hb
          have x0 := B9.c0
          have x1 := B9.c1
          have hl9 := B9.lt
          have HB9 := hidep B9
          clear hb hzb hlt hk B9 HB8 hl8
          obtain ⟨wp, rfl⟩ : ∃ x, x = wr := ⟨_, rfl⟩
          cases hv : vtx al.length fr with
          | false =>
            obtain ⟨rfl, rfl⟩ := HQ2.out hv
            clear HQ1 HQ2 hv zC zH zL
            go_wp2
            go_ret
            exact ⟨rfl, HB9.out.bel⟩
          | true =>
            obtain ⟨rfl, rfl⟩ := HQ1.out hv
            have HV := hidep hv
            obtain ⟨F, hF⟩ : ∃ F : Nat, fr = (F : Int) := ⟨fr.toNat, by have := (vtx_iff _ _).1 hv; omega⟩
            subst hF
            have HFl : Hid (F < al.length) := by have := (vtx_iff _ _).1 hv; show _ < _; omega
            have BC := hidep (least_best HIC.out HS.out hv)
            have BH := hidep (least_best HIH.out HS.out hv)
            clear HQ1 HQ2 hv
            have HCl : Hid (C.length = al.length) := BC.out.mid.len.trans (firstL_length _ _)
            have HHl : Hid (H.length = al.length) := BH.out.mid.len.trans (firstL_length _ _)
            go_wp2
            go_loopw [21, 151] (fun _ i wr => ∃ k : Nat, k ≤ arcs.length ∧ i = .int .i64 k ∧ Below wp.heap.size wp wr) (fun _ i _ => arcs.length - (intOf i).toNat)
            case atStart => exact ⟨0, Nat.zero_le _, rfl, Below.refl _ _⟩
            case round =>
              obtain ⟨k, hk, rfl, hb⟩ := hrel
              have hzb := hb.size
              by_cases hlt : k < arcs.length
              · rcases hR.below (ptw HB9.out.bel hb) with h0 | ⟨b, off, rfl, hbr, hc⟩
                · subst h0; simp at hlt
                obtain ⟨c0, c1, c2⟩ := PcAt.at3 hlt hc
                obtain ⟨A, B, hA, hB, eA, eB⟩ := arc_parts HSS.out.en hlt
                have hm := List.getElem_mem hlt
                have k1 := BC.out.cl _ hm
                have k2 := BH.out.cl _ hm
                have hcst := HSS.out.cost _ hm
                have FC : Fine (firstL al (fromF F)) arcs (fun a => a.2.2) := HSS.out.fine (fun v _ => fromF_bounds F v) HSS.out.cost
                have FH : Fine (firstL al (fromF F)) arcs (fun _ => 1) := HSS.out.fine (fun v _ => fromF_bounds F v) (fun a _ => by omega)
                have b1 := BC.out.mid.lo FC A (by rw [firstL_length]; exact hA)
                have b2 := BC.out.mid.hi FC A (by rw [firstL_length]; exact hA)
                have b3 := BH.out.mid.lo FH A (by rw [firstL_length]; exact hA)
                have b4 := BH.out.mid.hi FH A (by rw [firstL_length]; exact hA)
                unfold vat at k1 k2
                rw [eA, eB] at k1 k2
                simp only [Int.toNat_natCast] at k1 k2
                have hA2 : A < C.length := by rw [HCl.out]; exact hA
                have hB2 : B < C.length := by rw [HCl.out]; exact hB
                have hA3 : A < H.length := by rw [HHl.out]; exact hA
                have hB3 : B < H.length := by rw [HHl.out]; exact hB
                obtain ⟨gb, gof, rfl, hgb, hgc⟩ := zs_get (zC.below hb) hA2
                obtain ⟨hb', hof, rfl, hhb, hhc⟩ := zs_get (zH.below hb) hA3
                have e0 := hgc A hA2
                have e1 := hgc B hB2
                have e2 := hhc A hA3
                have e3 := hhc B hB3
                have q7 := (hb.cell (p := ⟨w4.heap.size, 0, none⟩) lb7).trans cb7
                have lq7 := Nat.lt_of_lt_of_le lb7 hb.size
                rw [eA] at c0
                rw [eB] at c1
                have hiA : (A : Int) < (C.length : Int) := by omega
                have hiB : (B : Int) < (C.length : Int) := by omega
                have hiA3 : (A : Int) < (H.length : Int) := by omega
                have hiB3 : (B : Int) < (H.length : Int) := by omega
                have HNX : Hid (∀ o, Below wp.heap.size wp (wr.alloc o)) := fun o => ptw hb (pal wr o)
                clear hc hgc hhc eA eB zC zH zL hR FC FH hm hA hB hA2 hB2 hA3 hB3 cb7 lb7 x0 x1 hl9
                generalize C.getD A 0 = cA at *
                generalize C.getD B 0 = cB at *
                generalize H.getD A 0 = hA at *
                generalize H.getD B 0 = hB at *
                generalize arcs[k].2.2 = ac at *
                have w1' : IntKind.i64.wrap (cA + ac) = cA + ac := wrap_small _ (by omega) (by omega)
                have w2' : IntKind.i64.wrap (hA + 1) = hA + 1 := wrap_small _ (by omega) (by omega)
                have d1 : decide (cA + ac < cB) = false := by rw [decide_eq_false_iff_not]; omega
                have d2 : decide (hA + 1 < hB) = false := by rw [decide_eq_false_iff_not]; omega
                clear k1 k2
                go_wp2
                go_quiet (fail)
                go_wp2
                go_roundw
                case rel => exact ⟨k + 1, by omega, by go_num, below_drewN (HNX.out _) _⟩
                case measure => simp [intOf]; omega
              · have hkl : k = arcs.length := by omega
                subst hkl
                have B10 := HB9.out.below hb
                have cb7 := (hb.cell (p := ⟨w4.heap.size, 0, none⟩) lb7).trans cb7
                have lb7 := Nat.lt_of_lt_of_le lb7 hb.size
                have zC := zC.below hb
                have zH := zH.below hb
                have zL := zL.below hb
                have HB10 := hidep B10
                clear hb hzb hlt hk HB9 x0 x1 hl9
                have x0 := B10.c0
                have x1 := B10.c1
                have hl10 := B10.lt
                clear B10
                obtain ⟨wq, rfl⟩ : ∃ x, x = wr := ⟨_, rfl⟩
                go_wp2
                go_loopw [22, 23, 24, 186] (fun _ _ _ i wr => ∃ k : Nat, k ≤ C.length ∧ i = .int .i64 k ∧ Below wq.heap.size wq wr) (fun _ _ _ i _ => C.length - (intOf i).toNat)
                case atStart => exact ⟨0, Nat.zero_le _, rfl, Below.refl _ _⟩
                case round =>
                  obtain ⟨k, hk, rfl, hb⟩ := hrel
                  have hzb := hb.size
                  by_cases hlt : k < C.length
                  · have hlt1 : k < al.length := by rw [← HCl.out]; exact hlt
                    have hlt2 : k < H.length := by rw [HHl.out]; exact hlt1
                    have hlt3 : k < L.length := by rw [HLl.out]; exact hlt1
                    have hlt4 : F < L.length := by rw [HLl.out]; exact HFl.out
                    obtain ⟨gb, gof, rfl, hgb, hgc⟩ := zs_get (zC.below hb) hlt
                    obtain ⟨hb', hof, rfl, hhb, hhc⟩ := zs_get (zH.below hb) hlt2
                    obtain ⟨lb, lof, rfl, hlb, hlc⟩ := zs_get (zL.below hb) hlt3
                    have e0 := hgc k hlt
                    have HW4 := hidep (ways_four HSS.out BC.out BH.out HBL.out hlt1)
                    have y0 := (hb.cell (p := ⟨w.heap.size, 0, none⟩) hl10).trans x0
                    have y1 := (hb.cell (p := ⟨w.heap.size, 1, none⟩) hl10).trans x1
                    have yl := Nat.lt_of_lt_of_le hl10 hb.size
                    have q7 := (hb.cell (p := ⟨w4.heap.size, 0, none⟩) lb7).trans cb7
                    have lq7 := Nat.lt_of_lt_of_le lb7 hb.size
                    have hki : (k : Int) < (C.length : Int) := by omega
                    have hki2 : (k : Int) < (H.length : Int) := by omega
                    have hki3 : (k : Int) < (L.length : Int) := by omega
                    have hFi : (F : Int) < (L.length : Int) := by omega
                    obtain ⟨x, hx⟩ : ∃ x, x = C.getD k 0 := ⟨_, rfl⟩
                    rw [← hx] at e0 HW4
                    have HBW := hidep (ptw HB10.out.bel hb)
                    have eg1 : ∀ args w, (callFunc 19 args).run Try.prog w = .ok (.enter 19 args) w := fun args w => rfl
                    have HT2 : Hid (∀ W, Below ((wr.alloc (.cells #[.int .i64 (k : Int)] 3)).alloc (.cells #[.int .i64 x] 3)).heap.size ((wr.alloc (.cells #[.int .i64 (k : Int)] 3)).alloc (.cells #[.int .i64 x] 3)) W → W.cell? ⟨wr.heap.size, 0, none⟩ = some (.int .i64 (k : Int)) ∧ W.cell? ⟨wr.heap.size + 1, 0, none⟩ = some (.int .i64 x) ∧ Below wr.heap.size wr W ∧ wr.heap.size + 1 < W.heap.size) := by
                      intro W h
                      have hz := h.size
                      simp only [World.size_alloc] at hz
                      refine ⟨?_, ?_, ptw (ptw (pal _ _) (pal _ _)) h, by omega⟩
                      · rw [h.cell (p := ⟨wr.heap.size, 0, none⟩) (by simp; omega), World.cell?_alloc_past _ _ _ (by simp), World.cell?_alloc_at _ _ _ _ rfl]; rfl
                      · rw [h.cell (p := ⟨wr.heap.size + 1, 0, none⟩) (by simp), World.cell?_alloc_at _ _ _ _ (by simp)]; rfl
                    have KF := containsArc_any 19 #[.pointer (some ⟨wr.heap.size, 0, none⟩), .pointer (some ⟨w4.heap.size, 0, none⟩), .pointer (some ⟨wr.heap.size + 1, 0, none⟩)] (byB C k x) eg1 bo cb arcs ((wr.alloc (.cells #[.int .i64 (k : Int)] 3)).alloc (.cells #[.int .i64 x] 3)) (hR.below (ptw HBW.out (HT2.out _ (Below.refl _ _)).2.2.1)) HSS.out.na (fun a ha wz hz => by
                      obtain ⟨t0, t1, t2, t3⟩ := HT2.out _ hz
                      have hen := HSS.out.en a ha
                      have FC : Fine (firstL al (fromF F)) arcs (fun a => a.2.2) := HSS.out.fine (fun v _ => fromF_bounds F v) HSS.out.cost
                      exact ways1_any C C.length sC wr.heap.size w4.heap.size (wr.heap.size + 1) gb gof k x a a.1.toNat wz (by omega) (by rw [HCl.out]; omega) (HSS.out.cost a ha) ⟨BC.out.mid.lo FC _ (by rw [firstL_length]; omega), BC.out.mid.hi FC _ (by rw [firstL_length]; omega)⟩ t0 ((t2.cell (p := ⟨w4.heap.size, 0, none⟩) lq7).trans q7) t1 ((t2.cell (p := ⟨gb, gof + a.1.toNat, none⟩) hgb).trans (hgc _ (by rw [HCl.out]; omega))) (by omega) (Nat.lt_of_lt_of_le lq7 t2.size) (by omega) (Nat.lt_of_lt_of_le hgb t2.size))
                    have HHK := hidep (hhc k hlt2)
                    have HLK := hidep (hlc k hlt3)
                    have HLF := hidep (hlc F hlt4)
                    have HHB := hidep hhb
                    have HLB := hidep hlb
                    have HBB := hidep hb
                    clear hgc hhc hlc zC zH zL hx hb cb7 lb7 x0 x1 hl10
                    go_wp2_with fail
                    refine KF.mono ?_
                    rintro _ wz ⟨rfl, hbz⟩
                    obtain ⟨t0, t1, t2, t3⟩ := HT2.out _ hbz
                    have m0 := (t2.cell (p := ⟨hb', hof + k, none⟩) HHB.out).trans HHK.out
                    have m1 := (t2.cell (p := ⟨lb, lof + k, none⟩) HLB.out).trans HLK.out
                    have m2 := (t2.cell (p := ⟨lb, lof + F, none⟩) HLB.out).trans HLF.out
                    have m3 := (t2.cell (p := ⟨w.heap.size, 0, none⟩) yl).trans y0
                    have n0 := Nat.lt_of_lt_of_le HHB.out t2.size
                    have n1 := Nat.lt_of_lt_of_le HLB.out t2.size
                    have n3 := Nat.lt_of_lt_of_le yl t2.size
                    have n4 : wr.heap.size < wz.heap.size := by omega
                    have HBZ := hidep (ptw HBB.out t2)
                    have hvf : vat L (F : Int) = L.getD F 0 := rfl
                    rw [hvf] at HW4
                    clear KF hbz t2 HT2 HHK HLK HLF e0 y0 y1 yl q7 lq7 hgb hvf
                    generalize arcs.any (byB C k x) = bv at *
                    generalize H.getD k 0 = hk' at *
                    generalize L.getD k 0 = lk at *
                    generalize L.getD F 0 = lF at *
                    rcases HW4.out with ⟨rfl, rfl⟩ | ⟨u1, u2, u3, rfl, u5⟩
                    · clear HW4
                      go_wp2
                      go_quiet (fail)
                      go_wp2
                      go_roundw
                      case rel => exact ⟨k + 1, by omega, by go_num, below_drewN HBZ.out _⟩
                      case measure => simp [intOf]; omega
                    · have d1 : (x == 1099511627776) = false := by rw [beq_eq_false_iff_ne]; omega
                      have d2 : (hk' == 1099511627776) = false := by rw [beq_eq_false_iff_ne]; omega
                      have d3 : decide (x < 1099511627776) = true := by rw [decide_eq_true_eq]; exact u1
                      have d4 : decide ((al.length : Int) ≤ hk') = false := by rw [decide_eq_false_iff_not]; omega
                      clear HW4
                      by_cases gf : (k : Int) = (F : Int)
                      · have d5 : ((k : Int) != (F : Int)) = false := by simpa using gf
                        clear gf u5
                        go_wp2
                        go_quiet (fail)
                        go_wp2
                        go_roundw
                        case rel => exact ⟨k + 1, by omega, by go_num, below_drewN HBZ.out _⟩
                        case measure => simp [intOf]; omega
                      · have d5 : ((k : Int) != (F : Int)) = true := by simpa using gf
                        have d6 : bv = true := u5.resolve_left gf
                        subst d6
                        clear gf u5
                        go_wp2
                        go_quiet (fail)
                        go_wp2
                        go_roundw
                        case rel => exact ⟨k + 1, by omega, by go_num, below_drewN HBZ.out _⟩
                        case measure => simp [intOf]; omega
                  · go_wp2
                    go_ret
                    exact ⟨rfl, ptw HB10.out.bel hb⟩


theorem plainWays_walk (ao bo : Option Addr) (ca cb : Nat) (al : List Bool) (arcs : List Ac) (fr : Int) (w : World) (hA : BsAt w ao al) (hR : PcAt w bo arcs) :
    Calls Try.prog 4 #[.agg #[.slice ao al.length ca, .slice bo arcs.length cb], .int .i64 fr] w fun e w' => e = .returned (.bool true) ∧ Below w.heap.size w w' := by
  by_cases h0 : shot al arcs = 0
  · exact plainWays_ok ao bo ca cb al arcs fr w hA hR h0
  · exact plainWays_bad ao bo ca cb al arcs fr w hA hR h0

end Go.Proofs.Ytnopdnajlbaccae
