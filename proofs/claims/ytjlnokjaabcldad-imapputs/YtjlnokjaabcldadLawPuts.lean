/-
  The walk of the law ImapPuts: it returns true, and nothing that was there is changed.
-/
import Derived.Test.YtjlnokjaabcldadBegun
namespace Go.Proofs.Ytjlnokjaabcldad
open Go.RowKit

set_option maxRecDepth 100000 in
set_option maxHeartbeats 8000000 in
theorem imapPuts_walk (ao : Option Addr) (ca : Nat) (l : List (Int × Int × Int)) (p : Int × Int × Int) (t : Int) (w : World) (hA : PcAt w ao l) (hc : l.length ≤ ca) (hm : ca ≤ 9223372036854775807) :
    Calls Try.prog 5 #[.slice ao l.length ca, .agg #[.int .i64 p.1, .int .i64 p.2.1, .int .i64 p.2.2], .int .i64 t] w fun e w' => e = .returned (.bool true) ∧ Below w.heap.size w w' := by
  obtain ⟨w0, hw0⟩ : ∃ w0, w0 = w.alloc (.cells #[.int .i64 p.1, .int .i64 p.2.1, .int .i64 p.2.2] 39) := ⟨_, rfl⟩
  have hA : PcAt w0 ao l := by rw [hw0]; exact hA.below (pal _ _)
  have HD : Hid (∀ W, Below w0.heap.size w0 W → W.cell? ⟨w.heap.size, 0, none⟩ = some (.int .i64 p.1) ∧ W.cell? ⟨w.heap.size, 1, none⟩ = some (.int .i64 p.2.1) ∧ W.cell? ⟨w.heap.size, 2, none⟩ = some (.int .i64 p.2.2) ∧ Below w.heap.size w W) := by
    intro W h
    rw [hw0] at h
    refine ⟨(h.cell (p := ⟨w.heap.size, 0, none⟩) (by simp)).trans (by simp), (h.cell (p := ⟨w.heap.size, 1, none⟩) (by simp)).trans (by simp), (h.cell (p := ⟨w.heap.size, 2, none⟩) (by simp)).trans (by simp), ptw (pal _ _) h⟩
  have HA := hide3 (fun W (h : Below w0.heap.size w0 W) => hA.below h)
  clear hA
  go_enter Try.func5, Try.ntmps5
  go_wp2_with fail
  rw [← hw0]
  refine (begun_any _).mono ?_
  rintro e w1 ⟨rfl, g1⟩
  go_wp2_with fail
  refine (built_any ao ca l _ (HA.out _ g1) hc hm).mono ?_
  rintro e w2 ⟨v, m, rfl, hB, ho, hb⟩
  obtain ⟨T, hT, hM⟩ := built_of hB
  have HM := hide3 hM
  have hml := hM.len
  have HC := hide3 (hM.chk (by omega))
  obtain ⟨mo, mc, rfl, hz⟩ := pcAt_of_owns ho
  have g2 := ptw g1 hb
  have HZ := hide3 (fun W (h : Below w2.heap.size w2 W) => hz.below h)
  obtain ⟨d0, d1, d2, _⟩ := HD.out _ g2
  clear hB hM ho hb g1 HA
  go_wp2_with fail
  refine (Put_any mo mc m p _ hz).mono ?_
  rintro e w3 ⟨n, r, hP, v3, rfl, ho3, hb3⟩
  have g3 := ptw g2 hb3
  obtain ⟨ro, rc, rfl, hzr⟩ := pcAt_of_owns ho3
  have hck := PCheck_any mo mc m w3 (HZ.out _ hb3)
  rw [HC.out] at hck
  clear ho3 g2 d0 d1 d2 hz
  by_cases hp : NearP p
  · obtain ⟨rfl, hR, hT3⟩ := put_ok hP HM.out (by omega) hp
    have HT3 := hide3 hT3
    have HP := hide3 hp
    have hrl := hR.len
    have HCr := hide3 (hR.chk (by simp; omega))
    rw [List.length_append] at hrl
    simp only [List.length_cons, List.length_nil] at hrl
    clear hP hR hT3 hp
    go_wp2_with fail
    refine hck.mono ?_
    rintro e w4 ⟨rfl, hb4⟩
    have g4 := ptw g3 hb4
    have H24 := ptw hb3 hb4
    have hzr4 := hzr.below hb4
    clear g3 hb4 hck hb3 hzr
    go_wp2_with fail
    refine (told_any mo mc m t _ (HZ.out _ H24) (by omega)).mono ?_
    rintro e w5 ⟨rfl, hb5⟩
    have g5 := ptw g4 hb5
    have hzr5 := hzr4.below hb5
    obtain ⟨d0, d1, d2, _⟩ := HD.out _ g5
    have hlt5 : w.heap.size < w5.heap.size := World.block_lt_of_cell? w5 _ d0
    clear hb5 g4 H24 hzr4
    by_cases q1 : p.1 ≤ t
    · by_cases q2 : t < p.2.1
      · have HV : Hid (tel r t = some p.2.2) := by show _ = _; rw [HT3.out]; unfold putF; rw [(inP_iff _ _).2 ⟨q1, q2⟩]; rfl
        generalize (tel m t).getD 0 = x
        generalize (if (tel m t).isSome = true then 1 else 0 : Int) = y
        go_wp2_with fail
        refine (Put_any ro rc r p _ (hzr5.below (pal w5 _))).mono ?_
        rintro e w7 ⟨n7, r7, hP7, v7, rfl, ho7, hb7⟩
        obtain ⟨rfl, rfl⟩ := put_twice hP7 HCr.out HP.out HT3.out
        obtain ⟨so, sc, rfl, hzs⟩ := pcAt_of_owns ho7
        have b0 := (hb7.cell (p := ⟨w5.heap.size, 0, none⟩) (by simp)).trans (by simp : _ = some (Value.int .i64 p.2.2))
        have b1 := (hb7.cell (p := ⟨w5.heap.size, 1, none⟩) (by simp)).trans (by simp : _ = some (Value.int .i64 1))
        have hl7 : w5.heap.size < w7.heap.size := by have := hb7.size; simp at this; omega
        have H57 := ptw (pal w5 _) hb7
        have g7 := ptw g5 H57
        have hzr7 := hzr5.below H57
        have Htd : Hid (∀ s : HeldIn w7, Calls Try.prog 20 #[.slice ro r7.length rc, .int .i64 t] s.w fun e w' => e = .returned (.agg #[.int .i64 p.2.2, .int .i64 1]) ∧ Below s.w.heap.size s.w w') := by
          intro s
          have h := told_any ro rc r7 t s.w (hzr7.below s.h) (by omega)
          rw [HV.out] at h
          exact h
        have Hck : Hid (∀ s : HeldIn w7, Calls Try.prog 19 #[.slice ro r7.length rc] s.w fun e w' => e = .returned (.int .i64 0) ∧ Below s.w.heap.size s.w w') := by
          intro s
          have h := PCheck_any ro rc r7 s.w (hzr7.below s.h)
          rw [HCr.out] at h
          exact h
        have Heq : Hid (∀ s : HeldIn w7, Calls Try.prog 21 #[.slice so r7.length sc, .slice ro r7.length rc] s.w fun e w' => e = .returned (.bool true) ∧ Below s.w.heap.size s.w w') := by
          intro s
          have h := Equal3_any so ro sc rc r7 r7 s.w (hzs.below s.h) (hzr7.below s.h) (by omega)
          rw [show decide (r7 = r7) = true from by simp] at h
          exact h
        have e0 : ∀ s : HeldIn w7, s.w.cell? ⟨w5.heap.size, 0, none⟩ = some (.int .i64 p.2.2) := fun s => (s.h.cell (p := ⟨w5.heap.size, 0, none⟩) hl7).trans b0
        have e1 : ∀ s : HeldIn w7, s.w.cell? ⟨w5.heap.size, 1, none⟩ = some (.int .i64 1) := fun s => (s.h.cell (p := ⟨w5.heap.size, 1, none⟩) hl7).trans b1
        have heq : ∀ W : World, (binOp .eql 45 (.agg #[.int .i64 p.2.2, .int .i64 1]) (.agg #[.int .i64 p.2.2, .int .i64 1])).run Try.prog W = .ok (.bool true) W := fun W => by rw [eql_pair, prB_same]
        have hgd : Try.prog.eqGuardType Try.prog.depth 45 = false := by kernel_rfl
        have hne : Nonempty (HeldIn w7) := ⟨⟨w7, Below.refl _ _⟩⟩
        clear hb7 H57 ho7 hP7 d0 d1 d2 g5 hzr5 b0 b1 hzr7 hzs
        go_wp2_with fail
        refine wp_region_held w7 (Below.refl _ _) (by kernel_rfl) (by kernel_rfl) ?_
        repeat (go_big_quiet_step ((first | (go_at_call 20; exact held_of (Htd.out _)) | (go_at_call 19; exact held_of (Hck.out _)) | (go_at_call 21; exact held_of (Heq.out _)))))
        refine wpQuiet_nil ?_
        rintro _ ⟨s, rfl⟩
        have hbF := (HD.out _ (ptw g7 s.h)).2.2.2
        generalize s.w = w8 at hbF ⊢
        clear e0 e1 heq hne Htd Hck Heq
        go_wp2
        go_ret
        exact ⟨rfl, hbF⟩
      · have HV : Hid (tel r t = tel m t) := by show _ = _; rw [HT3.out]; unfold putF; rw [if_neg (by rw [inP_iff]; omega)]
        generalize hy : (if (tel m t).isSome = true then 1 else 0 : Int) = y at *
        have HY := hide3 hy
        generalize hx : (tel m t).getD 0 = x at *
        have HX := hide3 hx
        clear hx hy
        go_wp2_with fail
        refine (Put_any ro rc r p _ (hzr5.below (pal w5 _))).mono ?_
        rintro e w7 ⟨n7, r7, hP7, v7, rfl, ho7, hb7⟩
        obtain ⟨rfl, rfl⟩ := put_twice hP7 HCr.out HP.out HT3.out
        obtain ⟨so, sc, rfl, hzs⟩ := pcAt_of_owns ho7
        have b0 := (hb7.cell (p := ⟨w5.heap.size, 0, none⟩) (by simp)).trans (by simp : _ = some (Value.int .i64 x))
        have b1 := (hb7.cell (p := ⟨w5.heap.size, 1, none⟩) (by simp)).trans (by simp : _ = some (Value.int .i64 y))
        have hl7 : w5.heap.size < w7.heap.size := by have := hb7.size; simp at this; omega
        have H57 := ptw (pal w5 _) hb7
        have g7 := ptw g5 H57
        have hzr7 := hzr5.below H57
        have Htd : Hid (∀ s : HeldIn w7, Calls Try.prog 20 #[.slice ro r7.length rc, .int .i64 t] s.w fun e w' => e = .returned (.agg #[.int .i64 x, .int .i64 y]) ∧ Below s.w.heap.size s.w w') := by
          intro s
          have h := told_any ro rc r7 t s.w (hzr7.below s.h) (by omega)
          rw [HV.out, HX.out, HY.out] at h
          exact h
        have Hck : Hid (∀ s : HeldIn w7, Calls Try.prog 19 #[.slice ro r7.length rc] s.w fun e w' => e = .returned (.int .i64 0) ∧ Below s.w.heap.size s.w w') := by
          intro s
          have h := PCheck_any ro rc r7 s.w (hzr7.below s.h)
          rw [HCr.out] at h
          exact h
        have Heq : Hid (∀ s : HeldIn w7, Calls Try.prog 21 #[.slice so r7.length sc, .slice ro r7.length rc] s.w fun e w' => e = .returned (.bool true) ∧ Below s.w.heap.size s.w w') := by
          intro s
          have h := Equal3_any so ro sc rc r7 r7 s.w (hzs.below s.h) (hzr7.below s.h) (by omega)
          rw [show decide (r7 = r7) = true from by simp] at h
          exact h
        have e0 : ∀ s : HeldIn w7, s.w.cell? ⟨w5.heap.size, 0, none⟩ = some (.int .i64 x) := fun s => (s.h.cell (p := ⟨w5.heap.size, 0, none⟩) hl7).trans b0
        have e1 : ∀ s : HeldIn w7, s.w.cell? ⟨w5.heap.size, 1, none⟩ = some (.int .i64 y) := fun s => (s.h.cell (p := ⟨w5.heap.size, 1, none⟩) hl7).trans b1
        have heq : ∀ W : World, (binOp .eql 45 (.agg #[.int .i64 x, .int .i64 y]) (.agg #[.int .i64 x, .int .i64 y])).run Try.prog W = .ok (.bool true) W := fun W => by rw [eql_pair, prB_same]
        have hgd : Try.prog.eqGuardType Try.prog.depth 45 = false := by kernel_rfl
        have hne : Nonempty (HeldIn w7) := ⟨⟨w7, Below.refl _ _⟩⟩
        clear hb7 H57 ho7 hP7 d0 d1 d2 g5 hzr5 b0 b1 hzr7 hzs
        go_wp2_with fail
        refine wp_region_held w7 (Below.refl _ _) (by kernel_rfl) (by kernel_rfl) ?_
        repeat (go_big_quiet_step ((first | (go_at_call 20; exact held_of (Htd.out _)) | (go_at_call 19; exact held_of (Hck.out _)) | (go_at_call 21; exact held_of (Heq.out _)))))
        refine wpQuiet_nil ?_
        rintro _ ⟨s, rfl⟩
        have hbF := (HD.out _ (ptw g7 s.h)).2.2.2
        generalize s.w = w8 at hbF ⊢
        clear e0 e1 heq hne Htd Hck Heq
        go_wp2
        go_ret
        exact ⟨rfl, hbF⟩
    · have HV : Hid (tel r t = tel m t) := by show _ = _; rw [HT3.out]; unfold putF; rw [if_neg (by rw [inP_iff]; omega)]
      generalize hy : (if (tel m t).isSome = true then 1 else 0 : Int) = y at *
      have HY := hide3 hy
      generalize hx : (tel m t).getD 0 = x at *
      have HX := hide3 hx
      clear hx hy
      go_wp2_with fail
      refine (Put_any ro rc r p _ (hzr5.below (pal w5 _))).mono ?_
      rintro e w7 ⟨n7, r7, hP7, v7, rfl, ho7, hb7⟩
      obtain ⟨rfl, rfl⟩ := put_twice hP7 HCr.out HP.out HT3.out
      obtain ⟨so, sc, rfl, hzs⟩ := pcAt_of_owns ho7
      have b0 := (hb7.cell (p := ⟨w5.heap.size, 0, none⟩) (by simp)).trans (by simp : _ = some (Value.int .i64 x))
      have b1 := (hb7.cell (p := ⟨w5.heap.size, 1, none⟩) (by simp)).trans (by simp : _ = some (Value.int .i64 y))
      have hl7 : w5.heap.size < w7.heap.size := by have := hb7.size; simp at this; omega
      have H57 := ptw (pal w5 _) hb7
      have g7 := ptw g5 H57
      have hzr7 := hzr5.below H57
      have Htd : Hid (∀ s : HeldIn w7, Calls Try.prog 20 #[.slice ro r7.length rc, .int .i64 t] s.w fun e w' => e = .returned (.agg #[.int .i64 x, .int .i64 y]) ∧ Below s.w.heap.size s.w w') := by
        intro s
        have h := told_any ro rc r7 t s.w (hzr7.below s.h) (by omega)
        rw [HV.out, HX.out, HY.out] at h
        exact h
      have Hck : Hid (∀ s : HeldIn w7, Calls Try.prog 19 #[.slice ro r7.length rc] s.w fun e w' => e = .returned (.int .i64 0) ∧ Below s.w.heap.size s.w w') := by
        intro s
        have h := PCheck_any ro rc r7 s.w (hzr7.below s.h)
        rw [HCr.out] at h
        exact h
      have Heq : Hid (∀ s : HeldIn w7, Calls Try.prog 21 #[.slice so r7.length sc, .slice ro r7.length rc] s.w fun e w' => e = .returned (.bool true) ∧ Below s.w.heap.size s.w w') := by
        intro s
        have h := Equal3_any so ro sc rc r7 r7 s.w (hzs.below s.h) (hzr7.below s.h) (by omega)
        rw [show decide (r7 = r7) = true from by simp] at h
        exact h
      have e0 : ∀ s : HeldIn w7, s.w.cell? ⟨w5.heap.size, 0, none⟩ = some (.int .i64 x) := fun s => (s.h.cell (p := ⟨w5.heap.size, 0, none⟩) hl7).trans b0
      have e1 : ∀ s : HeldIn w7, s.w.cell? ⟨w5.heap.size, 1, none⟩ = some (.int .i64 y) := fun s => (s.h.cell (p := ⟨w5.heap.size, 1, none⟩) hl7).trans b1
      have heq : ∀ W : World, (binOp .eql 45 (.agg #[.int .i64 x, .int .i64 y]) (.agg #[.int .i64 x, .int .i64 y])).run Try.prog W = .ok (.bool true) W := fun W => by rw [eql_pair, prB_same]
      have hgd : Try.prog.eqGuardType Try.prog.depth 45 = false := by kernel_rfl
      have hne : Nonempty (HeldIn w7) := ⟨⟨w7, Below.refl _ _⟩⟩
      clear hb7 H57 ho7 hP7 d0 d1 d2 g5 hzr5 b0 b1 hzr7 hzs
      go_wp2_with fail
      refine wp_region_held w7 (Below.refl _ _) (by kernel_rfl) (by kernel_rfl) ?_
      repeat (go_big_quiet_step ((first | (go_at_call 20; exact held_of (Htd.out _)) | (go_at_call 19; exact held_of (Hck.out _)) | (go_at_call 21; exact held_of (Heq.out _)))))
      refine wpQuiet_nil ?_
      rintro _ ⟨s, rfl⟩
      have hbF := (HD.out _ (ptw g7 s.h)).2.2.2
      generalize s.w = w8 at hbF ⊢
      clear e0 e1 heq hne Htd Hck Heq
      go_wp2
      go_ret
      exact ⟨rfl, hbF⟩
  · obtain ⟨rfl, rfl⟩ := put_far hP HC.out hp
    clear hP hp
    go_wp2_with fail
    refine hck.mono ?_
    rintro e w4 ⟨rfl, hb4⟩
    have hbF := (HD.out _ (ptw g3 hb4)).2.2.2
    clear g3 hb4 hck hb3
    go_wp2
    go_ret
    exact ⟨rfl, hbF⟩

end Go.Proofs.Ytjlnokjaabcldad
