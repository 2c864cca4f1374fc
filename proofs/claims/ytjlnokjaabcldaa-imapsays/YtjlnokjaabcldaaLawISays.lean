/-
  The walk of the law ImapSays: it returns true, and nothing that was there is changed.
-/
import Derived.Test.YtjlnokjaabcldaaROnly
import Derived.Test.YtjlnokjaabcldaaPTimes
import Derived.Test.YtjlnokjaabcldaaRNorm
import Derived.Test.YtjlnokjaabcldaaEq
import Derived.Test.YtjlnokjaabcldaaEq3
namespace Go.Proofs.Ytjlnokjaabcldaa
open Go.RowKit

theorem mapIs_len {A : List Int} {f : Int → Option Int} {n : Int} {r : List (Int × Int × Int)} (h : MapIs A f n r) : r.length ≤ 200 := by
  obtain ⟨S, out, _, _, h⟩ := h
  rcases h with ⟨_, _, rfl⟩ | ⟨_, _, _, rfl⟩ | ⟨_, h, _, rfl⟩
  · simp
  · simp
  · exact h
theorem putIs_len {m : List (Int × Int × Int)} {p : Int × Int × Int} {n : Int} {r : List (Int × Int × Int)} (h : PutIs m p n r) : r.length ≤ 200 := by
  rcases h with ⟨_, _, rfl⟩ | ⟨_, _, _, rfl⟩ | ⟨_, _, h⟩
  · simp
  · simp
  · exact mapIs_len h
theorem onlyIs_len {m : List (Int × Int × Int)} {l : List (Int × Int)} {bb : Bool} {n : Int} {r : List (Int × Int × Int)} (h : OnlyIs m l bb n r) : r.length ≤ 200 := by
  rcases h with ⟨_, _, rfl⟩ | ⟨_, _, _, rfl⟩ | ⟨_, _, h⟩
  · simp
  · simp
  · exact mapIs_len h
theorem norm_both {l r r' : List (Int × Int)} {n n' : Int} (h : NormRes l n r) (h' : RNormRes l n' r') : n = n' ∧ r = r' ∧ r.length ≤ l.length := by
  rcases h with ⟨h1, h2, h3⟩ | ⟨h1, h2, h3⟩
  · rcases h' with ⟨_, g2, g3⟩ | ⟨g1, _⟩
    · exact ⟨h2.trans g2.symm, h3.trans g3.symm, by rw [h3]; simp⟩
    · exact absurd g1 h1
  · rcases h' with ⟨g1, _⟩ | ⟨_, g2, g3, g4⟩
    · exact absurd h1 g1
    · exact ⟨h2.trans g2.symm, canon_unique h3.canon g3 fun t => by rw [h3.pts, g4], h3.len⟩

theorem ivAt_nil (w : World) : IvAt w none [] := .inl rfl

/-- six lists of pieces, two of intervals: where they lie -/
structure Eight (w : World) (o1 o2 o3 o4 o5 o6 : Option Addr) (r1 r2 r3 : List (Int × Int × Int)) : Prop where
  p1 : PcAt w o1 r1
  p2 : PcAt w o2 r1
  p3 : PcAt w o3 r2
  p4 : PcAt w o4 r2
  p5 : PcAt w o5 r3
  p6 : PcAt w o6 r3
theorem Eight.below {w w' : World} {o1 o2 o3 o4 o5 o6 : Option Addr} {r1 r2 r3 : List (Int × Int × Int)} (h : Eight w o1 o2 o3 o4 o5 o6 r1 r2 r3) (hb : Below w.heap.size w w') : Eight w' o1 o2 o3 o4 o5 o6 r1 r2 r3 :=
  ⟨h.p1.below hb, h.p2.below hb, h.p3.below hb, h.p4.below hb, h.p5.below hb, h.p6.below hb⟩

set_option maxRecDepth 100000 in
set_option maxHeartbeats 16000000 in
theorem imapSays_walk (ao lo : Option Addr) (ca cl : Nat) (m : List (Int × Int × Int)) (p : Int × Int × Int) (l : List (Int × Int)) (t : Int) (w : World) (hA : PcAt w ao m) (hL : IvAt w lo l) (hm : m.length ≤ 9223372036854775807) :
    Calls Try.prog 5 #[.slice ao m.length ca, .agg #[.int .i64 p.1, .int .i64 p.2.1, .int .i64 p.2.2], .slice lo l.length cl, .int .i64 t] w fun e w' => e = .returned (.bool true) ∧ Below w.heap.size w w' := by
  obtain ⟨w0, hw0⟩ : ∃ w0, w0 = w.alloc (.cells #[.int .i64 p.1, .int .i64 p.2.1, .int .i64 p.2.2] 38) := ⟨_, rfl⟩
  have hA : PcAt w0 ao m := by rw [hw0]; exact hA.below (pal _ _)
  have hL : IvAt w0 lo l := by rw [hw0]; exact hL.below (pal _ _)
  have HD : Hid (∀ W, Below w0.heap.size w0 W → W.cell? ⟨w.heap.size, 0, none⟩ = some (.int .i64 p.1) ∧ W.cell? ⟨w.heap.size, 1, none⟩ = some (.int .i64 p.2.1) ∧ W.cell? ⟨w.heap.size, 2, none⟩ = some (.int .i64 p.2.2) ∧ Below w.heap.size w W) := by
    intro W h
    rw [hw0] at h
    refine ⟨(h.cell (p := ⟨w.heap.size, 0, none⟩) (by simp)).trans (by simp), (h.cell (p := ⟨w.heap.size, 1, none⟩) (by simp)).trans (by simp), (h.cell (p := ⟨w.heap.size, 2, none⟩) (by simp)).trans (by simp), ptw (pal _ _) h⟩
  have HA := hide3 (fun W (h : Below w0.heap.size w0 W) => (⟨hA.below h, hL.below h⟩ : PcAt W ao m ∧ IvAt W lo l))
  have h1 := fun W (h : Below w0.heap.size w0 W) => RMap_any ao ca m W (hA.below h)
  have h2 := fun W (h : Below w0.heap.size w0 W) => PAt_any ao ca m t W (hA.below h) hm
  have h3 := fun W (h : Below w0.heap.size w0 W) => RAt_any ao ca m t W (hA.below h) hm
  have h4 := fun W (h : Below w0.heap.size w0 W) => PCheck_any ao ca m W (hA.below h)
  generalize (tel m t).getD 0 = q at h2 h3
  generalize (tel m t).isSome = q' at h2 h3
  clear hA hL
  have H2 := hide3 h2
  have H3 := hide3 h3
  clear h2 h3
  have HT : Hid (∀ n r, TimesIs m n r → n = mchk m) := by
    intro n r h
    rcases h with ⟨_, h, _⟩ | ⟨h0, h | h⟩
    · exact h
    · exact absurd (cbs_ivsOf h0) h.1
    · rw [h.2.1, h0]
  obtain ⟨ec, he, hcs⟩ : ∃ ec, mchk m = ec ∧ ((ec = 2 ∧ Hid (¬ mchk m = 0)) ∨ (ec = 5 ∧ Hid (¬ mchk m = 0)) ∨ (ec = 0 ∧ Hid (mchk m = 0))) := by
    refine ⟨_, rfl, ?_⟩
    rcases mchk_cases m with e | e | ⟨e, _⟩
    · exact .inl ⟨e, by show ¬ _; omega⟩
    · exact .inr (.inl ⟨e, by show ¬ _; omega⟩)
    · exact .inr (.inr ⟨e, e⟩)
  have HE := hide3 he
  simp only [he] at h1 h4
  clear he
  have H1 := hide3 h1
  have H4 := hide3 h4
  clear h1 h4
  obtain ⟨i0, hi, hz0, hz1, hz2⟩ := info_parts Try.infoIvl
  have hqq : (q != q) = false := by simp
  have hqq' : (q' != q') = false := by simp
  have hqe' : (q' == q') = true := by simp
  have hqe : (q == q) = true := by simp
  rcases hcs with ⟨rfl, hE⟩ | ⟨rfl, hE⟩ | ⟨rfl, hE⟩
  all_goals
    go_enter Try.func5, Try.ntmps5
    go_wp2_with fail
    rw [← hw0]
    refine (H1.out _ (Below.refl _ _)).mono ?_
    rintro e w1 ⟨rfl, g1⟩
    go_wp2_with fail
    refine (H2.out _ g1).mono ?_
    rintro e w2 ⟨rfl, hb⟩
    have g2 := ptw g1 hb
    clear g1 hb
    go_wp2_with fail
    refine (H3.out _ g2).mono ?_
    rintro e w2x ⟨rfl, hww⟩
    have hwx := hww.symm
    subst hwx
    clear hww
    go_wp2_with fail
    refine (H4.out _ g2).mono ?_
    rintro e w3 ⟨rfl, hb⟩
    have g3 := ptw g2 hb
    clear g2 hb
    obtain ⟨d0, d1, d2, _⟩ := HD.out _ g3
    go_wp2_with fail
    refine (Put_any ao ca m p _ (HA.out _ g3).1).mono ?_
    rintro e w4 ⟨n4, r4, hP, v4, rfl, ho4, hb⟩
    have HP := hide3 hP
    have g4 := ptw g3 hb
    obtain ⟨o4, c4, rfl, z4⟩ := pcAt_of_owns ho4
    have hl4 := putIs_len hP
    clear g3 hb hP ho4 d0 d1 d2
    obtain ⟨d0, d1, d2, _⟩ := HD.out _ g4
    go_wp2_with fail
    refine (RPut_any ao ca m p _ (HA.out _ g4).1).mono ?_
    rintro e w5 ⟨n5, r5, hP, v5, rfl, ho5, hb⟩
    obtain ⟨rfl, rfl⟩ := putIs_unique HP.out hP
    have g5 := ptw g4 hb
    obtain ⟨o5, c5, rfl, z5⟩ := pcAt_of_owns ho5
    have z45 := hide3 (⟨z4.below hb, z5⟩ : PcAt w5 o4 r4 ∧ PcAt w5 o5 r4)
    clear g4 hb hP ho5 z4 z5 HP d0 d1 d2
    go_wp2_with fail
    refine (Cut_any ao lo ca cl m l _ (HA.out _ g5).1 (HA.out _ g5).2).mono ?_
    rintro e w6 ⟨n6, r6, hP, v6, rfl, ho6, hb⟩
    have HP := hide3 hP
    have g6 := ptw g5 hb
    obtain ⟨o6, c6, rfl, z6⟩ := pcAt_of_owns ho6
    have hl6 := onlyIs_len hP
    have z456 := hide3 (⟨z45.out.1.below hb, z45.out.2.below hb, z6⟩ : PcAt w6 o4 r4 ∧ PcAt w6 o5 r4 ∧ PcAt w6 o6 r6)
    clear g5 hb hP ho6 z45 z6
    go_wp2_with fail
    refine (ROnly_any false ao lo ca cl m l _ (HA.out _ g6).1 (HA.out _ g6).2).mono ?_
    rintro e w7 ⟨n7, r7, hP, v7, rfl, ho7, hb⟩
    obtain ⟨rfl, rfl⟩ := onlyIs_unique HP.out hP
    have g7 := ptw g6 hb
    obtain ⟨o7, c7, rfl, z7⟩ := pcAt_of_owns ho7
    have z4567 := hide3 (⟨z456.out.1.below hb, z456.out.2.1.below hb, z456.out.2.2.below hb, z7⟩ : PcAt w7 o4 r4 ∧ PcAt w7 o5 r4 ∧ PcAt w7 o6 r6 ∧ PcAt w7 o7 r6)
    clear g6 hb hP ho7 z456 z7 HP
    go_wp2_with fail
    refine (Keep_any ao lo ca cl m l _ (HA.out _ g7).1 (HA.out _ g7).2).mono ?_
    rintro e w8 ⟨n8, r8, hP, v8, rfl, ho8, hb⟩
    have HP := hide3 hP
    have g8 := ptw g7 hb
    obtain ⟨o8, c8, rfl, z8⟩ := pcAt_of_owns ho8
    have hl8 := onlyIs_len hP
    have z5 := hide3 (⟨z4567.out.1.below hb, z4567.out.2.1.below hb, z4567.out.2.2.1.below hb, z4567.out.2.2.2.below hb, z8⟩ : PcAt w8 o4 r4 ∧ PcAt w8 o5 r4 ∧ PcAt w8 o6 r6 ∧ PcAt w8 o7 r6 ∧ PcAt w8 o8 r8)
    clear g7 hb hP ho8 z4567 z8
    go_wp2_with fail
    refine (ROnly_any true ao lo ca cl m l _ (HA.out _ g8).1 (HA.out _ g8).2).mono ?_
    rintro e w9 ⟨n9, r9, hP, v9, rfl, ho9, hb⟩
    obtain ⟨rfl, rfl⟩ := onlyIs_unique HP.out hP
    have g9 := ptw g8 hb
    obtain ⟨o9, c9, rfl, z9⟩ := pcAt_of_owns ho9
    have Z9 := hide3 (⟨z5.out.1.below hb, z5.out.2.1.below hb, z5.out.2.2.1.below hb, z5.out.2.2.2.1.below hb, z5.out.2.2.2.2.below hb, z9⟩ : Eight w9 o4 o5 o6 o7 o8 o9 r4 r6 r8)
    clear g8 hb hP ho9 z5 z9 HP
    go_wp2_with fail
    refine (Times_any ao ca m _ (HA.out _ g9).1).mono ?_
    rintro e w10 ⟨n10, r10, hP, oT, cT, rfl, zT, hb⟩
    have hnt := HT.out _ _ hP
    rw [HE.out] at hnt
    subst hnt
    have HP := hide3 hP
    have g10 := ptw g9 hb
    have Z10 := hide3 (Z9.out.below hb)
    have HzT := hide3 zT
    clear g9 hb hP Z9 zT
  · have hr : r10 = [] := by
      rcases HP.out with ⟨_, _, h⟩ | ⟨h, _⟩
      · exact h
      · exact absurd h hE.out
    subst hr
    clear HP HE HT hE HA H1 H2 H3 H4
    go_wp2_with fail
    refine (Equal3_any o4 o5 c4 c5 r4 r4 _ Z10.out.p1 Z10.out.p2 (by omega)).mono ?_
    rintro e wa ⟨rfl, hb⟩
    rw [show decide (r4 = r4) = true from by simp]
    have ga := ptw g10 hb
    have Za := hide3 (Z10.out.below hb)
    have Ta := hide3 ((HzT.out).below hb)
    have Wa := hide3 ((ivAt_nil w10).below hb)
    have hnn : (n4 == n4) = true := by simp
    clear hb
    go_wp2_with fail
    refine (Equal3_any o6 o7 c6 c7 r6 r6 _ Za.out.p3 Za.out.p4 (by omega)).mono ?_
    rintro e wb ⟨rfl, hb⟩
    rw [show decide (r6 = r6) = true from by simp]
    have gb := ptw ga hb
    have Zb := hide3 (Za.out.below hb)
    have Tb := hide3 (Ta.out.below hb)
    have Wb := hide3 (Wa.out.below hb)
    have hnn6 : (n6 == n6) = true := by simp
    clear hb ga Za Ta Wa
    go_wp2_with fail
    refine (Equal3_any o8 o9 c8 c9 r8 r8 _ Zb.out.p5 Zb.out.p6 (by omega)).mono ?_
    rintro e wc ⟨rfl, hb⟩
    rw [show decide (r8 = r8) = true from by simp]
    have gc := ptw gb hb
    have Tc := hide3 (Tb.out.below hb)
    have Wc := hide3 (Wb.out.below hb)
    have hnn8 : (n8 == n8) = true := by simp
    clear hb gb Zb Tb Wb
    go_wp2_with fail
    refine (Equal_any oT none cT _ ([] : List (Int × Int)) ([] : List (Int × Int)) _ Tc.out Wc.out (by first | (simp; done) | omega)).mono ?_
    rintro e wd ⟨rfl, hb⟩
    rw [show decide (([] : List (Int × Int)) = ([] : List (Int × Int))) = true from by simp]
    have hbF := (HD.out _ (ptw gc hb)).2.2.2
    clear hb gc Tc Wc
    go_wp2
    go_ret
    exact ⟨by first | rfl | simp, hbF⟩
  · have hr : r10 = [] := by
      rcases HP.out with ⟨_, _, h⟩ | ⟨h, _⟩
      · exact h
      · exact absurd h hE.out
    subst hr
    clear HP HE HT hE HA H1 H2 H3 H4
    go_wp2_with fail
    refine (Equal3_any o4 o5 c4 c5 r4 r4 _ Z10.out.p1 Z10.out.p2 (by omega)).mono ?_
    rintro e wa ⟨rfl, hb⟩
    rw [show decide (r4 = r4) = true from by simp]
    have ga := ptw g10 hb
    have Za := hide3 (Z10.out.below hb)
    have Ta := hide3 ((HzT.out).below hb)
    have Wa := hide3 ((ivAt_nil w10).below hb)
    have hnn : (n4 == n4) = true := by simp
    clear hb
    go_wp2_with fail
    refine (Equal3_any o6 o7 c6 c7 r6 r6 _ Za.out.p3 Za.out.p4 (by omega)).mono ?_
    rintro e wb ⟨rfl, hb⟩
    rw [show decide (r6 = r6) = true from by simp]
    have gb := ptw ga hb
    have Zb := hide3 (Za.out.below hb)
    have Tb := hide3 (Ta.out.below hb)
    have Wb := hide3 (Wa.out.below hb)
    have hnn6 : (n6 == n6) = true := by simp
    clear hb ga Za Ta Wa
    go_wp2_with fail
    refine (Equal3_any o8 o9 c8 c9 r8 r8 _ Zb.out.p5 Zb.out.p6 (by omega)).mono ?_
    rintro e wc ⟨rfl, hb⟩
    rw [show decide (r8 = r8) = true from by simp]
    have gc := ptw gb hb
    have Tc := hide3 (Tb.out.below hb)
    have Wc := hide3 (Wb.out.below hb)
    have hnn8 : (n8 == n8) = true := by simp
    clear hb gb Zb Tb Wb
    go_wp2_with fail
    refine (Equal_any oT none cT _ ([] : List (Int × Int)) ([] : List (Int × Int)) _ Tc.out Wc.out (by first | (simp; done) | omega)).mono ?_
    rintro e wd ⟨rfl, hb⟩
    rw [show decide (([] : List (Int × Int)) = ([] : List (Int × Int))) = true from by simp]
    have hbF := (HD.out _ (ptw gc hb)).2.2.2
    clear hb gc Tc Wc
    go_wp2
    go_ret
    exact ⟨by first | rfl | simp, hbF⟩
  · have hR : NormRes (ivsOf m) 0 r10 := by
      rcases HP.out with ⟨h, _⟩ | ⟨_, h⟩
      · exact absurd hE.out h
      · exact h
    have HR := hide3 hR
    have h200 := (mchk_good hE.out).1
    clear HP HE HT hE H1 H2 H3 H4 hR
    go_wp2_with fail
    go_loopw [29, 105] (fun v i wr => ∃ k : Nat, k ≤ m.length ∧ i = .int .i64 k ∧ wr.ownsRow w10.heap.size 30 2 v k (encs (ivsOf (m.take k))) ∧ Below w10.heap.size w10 wr) (fun _ i _ => m.length - (intOf i).toNat)
    case atStart => exact ⟨0, Nat.zero_le _, rfl, World.ownsRow_nil _ _ _ _, Below.refl _ _⟩
    case round =>
      obtain ⟨k, hk, rfl, hown, hb⟩ := hrel
      by_cases hlt : k < m.length
      · rcases (HA.out _ (ptw g10 hb)).1 with h0 | ⟨b, off, rfl, hbw, hc⟩
        · subst h0; simp at hlt
        obtain ⟨c0, c1, c2⟩ := PcAt.get hlt hc
        clear hc
        have hsz := hb.size
        have hk2 : k ≤ 200 := by omega
        go_wp2_with (at_builtin; refine wpList_append_own _ rfl _ _ 22 rfl w10.heap.size 30 i0 (.agg #[.int .i64 0, .int .i64 0]) 2 16 Try.underlying22 hi hz0 hz1 hz2 rfl (by decide) _ _ _ rfl ((hown.alloc _).alloc _) ⟨wr.heap.size + 1, 0, none⟩ 1 1 [.int .i64 m[k].1, .int .i64 m[k].2.1] rfl rfl ?c1 ?c2 ?c3 ?c4 ?c5 ?_)
        case c1 => exact cells_two_new _ _ _ _ _ (by simp)
        case c2 => intro u hu; simp at hu; rcases hu with rfl | rfl <;> rfl
        case c3 => unfold maxLen; omega
        case c4 => omega
        case c5 => simp; omega
        intro v' wn hown' hgrow _
        have R : wn.ownsRow w10.heap.size 30 2 v' (k + 1) (encs (ivsOf (m.take (k + 1)))) := by
          rw [ivsOf_succ m k hlt]; exact hown'
        have hb' : Below w10.heap.size w10 wn := ((hb.alloc hsz _).alloc (by simp; omega) _).grown hgrow (by simp; omega) (fun j hj => (hown.lt j hj).1)
        clear hown hown' hgrow
        go_wp2
        go_roundw
        case rel => exact ⟨k + 1, by omega, by go_num, R, hb'⟩
        case measure => simp [intOf]; omega
      · have hkl : k = m.length := by omega
        subst hkl
        rw [List.take_length] at hown
        obtain ⟨vo, vc, rfl, hz⟩ := ivAt_of_owns hown
        have hN := RNorm_any vo vc (ivsOf m) wr hz
        rw [ivsOf_length] at hN ⊢
        have gr := ptw g10 hb
        have Zr := hide3 (Z10.out.below hb)
        have Tr := hide3 (HzT.out.below hb)
        clear hown hz g10 Z10 HzT hb
        go_wp2_with fail
        refine hN.mono ?_
        rintro e wn ⟨nn, rn, hRn, oN, cN, rfl, zN, hb⟩
        obtain ⟨rfl, rfl, hT2⟩ := norm_both HR.out hRn
        rw [ivsOf_length] at hT2
        have hT200 : r10.length ≤ 9223372036854775807 := by omega
        have gn := ptw gr hb
        have Zn := hide3 (Zr.out.below hb)
        have Tn := hide3 (Tr.out.below hb)
        have Wn := hide3 zN
        clear hRn zN gr Zr Tr hb hN HR hT2 hk hlt
        go_wp2_with fail
        refine (Equal3_any o4 o5 c4 c5 r4 r4 _ Zn.out.p1 Zn.out.p2 (by omega)).mono ?_
        rintro e wa ⟨rfl, hb⟩
        rw [show decide (r4 = r4) = true from by simp]
        have ga := ptw gn hb
        have Za := hide3 (Zn.out.below hb)
        have Ta := hide3 (Tn.out.below hb)
        have Wa := hide3 (Wn.out.below hb)
        have hnn : (n4 == n4) = true := by simp
        clear hb
        go_wp2_with fail
        refine (Equal3_any o6 o7 c6 c7 r6 r6 _ Za.out.p3 Za.out.p4 (by omega)).mono ?_
        rintro e wb ⟨rfl, hb⟩
        rw [show decide (r6 = r6) = true from by simp]
        have gb := ptw ga hb
        have Zb := hide3 (Za.out.below hb)
        have Tb := hide3 (Ta.out.below hb)
        have Wb := hide3 (Wa.out.below hb)
        have hnn6 : (n6 == n6) = true := by simp
        clear hb ga Za Ta Wa
        go_wp2_with fail
        refine (Equal3_any o8 o9 c8 c9 r8 r8 _ Zb.out.p5 Zb.out.p6 (by omega)).mono ?_
        rintro e wc ⟨rfl, hb⟩
        rw [show decide (r8 = r8) = true from by simp]
        have gc := ptw gb hb
        have Tc := hide3 (Tb.out.below hb)
        have Wc := hide3 (Wb.out.below hb)
        have hnn8 : (n8 == n8) = true := by simp
        clear hb gb Zb Tb Wb
        go_wp2_with fail
        refine (Equal_any oT oN cT cN r10 r10 _ Tc.out Wc.out hT200).mono ?_
        rintro e wd ⟨rfl, hb⟩
        rw [show decide (r10 = r10) = true from by simp]
        have hbF := (HD.out _ (ptw gc hb)).2.2.2
        clear hb gc Tc Wc
        go_wp2
        go_ret
        exact ⟨by first | rfl | simp, hbF⟩

end Go.Proofs.Ytjlnokjaabcldaa
