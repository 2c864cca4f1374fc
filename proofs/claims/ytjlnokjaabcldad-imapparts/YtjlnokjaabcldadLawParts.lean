/-
  The walk of the law ImapParts: it returns true, and nothing that was there is changed.
-/
import Derived.Test.YtjlnokjaabcldadBegun
import Derived.Test.YtjlnokjaabcldadPMath
import Derived.Test.YtjlnokjaabcldadEq
namespace Go.Proofs.Ytjlnokjaabcldad
open Go.RowKit

set_option maxRecDepth 100000 in
set_option maxHeartbeats 8000000 in
theorem imapParts_walk (ao so : Option Addr) (ca cs : Nat) (l : List (Int × Int × Int)) (s : List (Int × Int)) (how : Int) (w : World) (hA : PcAt w ao l) (hS : IvAt w so s) (hc : l.length ≤ ca) (hm : ca ≤ 9223372036854775807) (hc' : s.length ≤ cs) (hm' : cs ≤ 9223372036854775807) :
    Calls Try.prog 6 #[.slice ao l.length ca, .slice so s.length cs, .int .i64 how] w fun e w' => e = .returned (.bool true) ∧ Below w.heap.size w w' := by
  have HA := hide3 (fun W (h : Below w.heap.size w W) => (⟨hA.below h, hS.below h⟩ : PcAt W ao l ∧ IvAt W so s))
  clear hA hS
  go_enter Try.func6, Try.ntmps6
  go_wp2_with fail
  refine (begun_any _).mono ?_
  rintro e w1 ⟨rfl, g1⟩
  go_wp2_with fail
  refine (built_any ao ca l _ (HA.out _ g1).1 hc hm).mono ?_
  rintro e w2 ⟨v, m, rfl, hB, ho, hb⟩
  obtain ⟨T, hT, hM⟩ := built_of hB
  have HM := hide3 hM
  have hml := hM.len
  have HC := hide3 (hM.chk (by omega))
  obtain ⟨mo, mc, rfl, hz⟩ := pcAt_of_owns ho
  have g2 := ptw g1 hb
  clear hB hM ho hb g1
  go_wp2_with fail
  refine (made_any so cs s _ (HA.out _ g2).2 hc' hm').mono ?_
  rintro e w3 ⟨Ao, Ac, A, rfl, hMA, hzA, hb⟩
  have HG := hide3 (made_good hMA)
  have hAl := (made_good hMA).len
  have g3 := ptw g2 hb
  have hz3 := hz.below hb
  clear hMA hb g2 hz HA
  go_wp2_with fail
  refine (Cut_any mo Ao mc Ac m A _ hz3 hzA).mono ?_
  rintro e w4 ⟨n4, r4, hP, v4, rfl, ho4, hb⟩
  obtain ⟨rfl, hk4, hl4, ht4⟩ := only_ok hP HM.out hT HG.out
  have HK4 := hide3 hk4
  have HT4 := hide3 ht4
  obtain ⟨o4, c4, rfl, z4⟩ := pcAt_of_owns ho4
  have g4 := ptw g3 hb
  have Z4 := hide3 (⟨hz3.below hb, hzA.below hb, z4⟩ : PcAt w4 mo m ∧ IvAt w4 Ao A ∧ PcAt w4 o4 r4)
  clear hP hk4 ht4 ho4 hb g3 hz3 hzA z4
  go_wp2_with fail
  refine (Keep_any mo Ao mc Ac m A _ Z4.out.1 Z4.out.2.1).mono ?_
  rintro e w5 ⟨n5, r5, hP, v5, rfl, ho5, hb⟩
  obtain ⟨rfl, hk5, hl5, ht5⟩ := only_ok hP HM.out hT HG.out
  have HK5 := hide3 hk5
  have HT5 := hide3 ht5
  obtain ⟨o5, c5, rfl, z5⟩ := pcAt_of_owns ho5
  have g5 := ptw g4 hb
  have Z5 := hide3 (⟨Z4.out.1.below hb, Z4.out.2.1.below hb, Z4.out.2.2.below hb, z5⟩ : PcAt w5 mo m ∧ IvAt w5 Ao A ∧ PcAt w5 o4 r4 ∧ PcAt w5 o5 r5)
  clear hP hk5 ht5 ho5 hb g4 Z4 z5
  go_wp2_with fail
  refine (rest_any how _).mono ?_
  rintro e w5x ⟨k, hk, rfl, hww⟩
  have hwx := hww.symm
  subst hwx
  clear hww
  rcases hk with rfl | rfl | rfl
  all_goals
    go_wp2_with fail
    refine (Merge_any _ o4 o5 c4 c5 r4 r5 _ Z5.out.2.2.1 Z5.out.2.2.2).mono ?_
    rintro e w6 ⟨n6, r6, hP, v6, rfl, ho6, hb⟩
    obtain ⟨rfl, rfl⟩ := parts_all hP (by first | exact .inl rfl | exact .inr (.inl rfl) | exact .inr (.inr rfl)) HK4.out HK5.out HC.out HT4.out HT5.out
    obtain ⟨o6, c6, rfl, z6⟩ := pcAt_of_owns ho6
    have g6 := ptw g5 hb
    have Z6 := hide3 (⟨Z5.out.1.below hb, Z5.out.2.1.below hb, Z5.out.2.2.2.below hb, z6⟩ : PcAt w6 mo r6 ∧ IvAt w6 Ao A ∧ PcAt w6 o5 r5 ∧ PcAt w6 o6 r6)
    clear hP ho6 hb g5 Z5 z6
    go_wp2_with fail
    refine (Times_any o5 c5 r5 _ Z6.out.2.2.1).mono ?_
    rintro e w7 ⟨n7, r7, hP, o7, c7, rfl, z7, hb⟩
    obtain ⟨rfl, hG7, ht7⟩ := times_ok hP HK5.out
    have HG7 := hide3 hG7
    have HT7 := hide3 ht7
    have hl7 := hG7.len
    have g7 := ptw g6 hb
    have Z7 := hide3 (⟨Z6.out.1.below hb, Z6.out.2.1.below hb, Z6.out.2.2.2.below hb, z7⟩ : PcAt w7 mo r6 ∧ IvAt w7 Ao A ∧ PcAt w7 o6 r6 ∧ IvAt w7 o7 r7)
    clear hP hb g6 Z6 z7 hG7 ht7
    go_wp2_with fail
    refine (Times_any mo mc r6 _ Z7.out.1).mono ?_
    rintro e w8 ⟨n8, r8, hP, o8, c8, rfl, z8, hb⟩
    obtain ⟨rfl, hG8, ht8⟩ := times_ok hP HC.out
    have HG8 := hide3 hG8
    have HT8 := hide3 ht8
    have hl8 := hG8.len
    have g8 := ptw g7 hb
    have Z8 := hide3 (⟨Z7.out.1.below hb, Z7.out.2.1.below hb, Z7.out.2.2.1.below hb, Z7.out.2.2.2.below hb, z8⟩ : PcAt w8 mo r6 ∧ IvAt w8 Ao A ∧ PcAt w8 o6 r6 ∧ IvAt w8 o7 r7 ∧ IvAt w8 o8 r8)
    clear hP hb g7 Z7 z8 hG8 ht8
    go_wp2_with fail
    refine (Equal3_any o6 mo c6 mc r6 r6 _ Z8.out.2.2.1 Z8.out.1 (by omega)).mono ?_
    rintro e w9 ⟨rfl, hb⟩
    rw [show decide (r6 = r6) = true from by simp]
    have g9 := ptw g8 hb
    have Z9 := hide3 (⟨Z8.out.2.1.below hb, Z8.out.2.2.2.1.below hb, Z8.out.2.2.2.2.below hb⟩ : IvAt w9 Ao A ∧ IvAt w9 o7 r7 ∧ IvAt w9 o8 r8)
    clear hb g8 Z8
    go_wp2_with fail
    refine (Meet_any o8 Ao c8 Ac r8 A _ Z9.out.2.2 Z9.out.1).mono ?_
    rintro e w10 ⟨n10, r10, hP, o10, c10, rfl, z10, hb⟩
    obtain ⟨rfl, hS, hG⟩ := comb_ok HG8.out HG.out (by omega) (by omega) (by omega) hP
    have he := parts_times HG7.out HT7.out HG8.out HT8.out hS HT5.out
    subst he
    have g10 := ptw g9 hb
    have Z10 := hide3 (⟨Z9.out.2.1.below hb, z10⟩ : IvAt w10 o7 r7 ∧ IvAt w10 o10 r7)
    clear hb g9 Z9 z10 hP hS hG
    go_wp2_with fail
    refine (got_ok o10 c10 r7 _).mono ?_
    rintro e w10x ⟨rfl, hww⟩
    have hwx := hww.symm
    subst hwx
    clear hww
    go_wp2_with fail
    refine (Equal_any o7 o10 c7 c10 r7 r7 _ Z10.out.1 Z10.out.2 (by omega)).mono ?_
    rintro e w11 ⟨rfl, hb⟩
    rw [show decide (r7 = r7) = true from by simp]
    have hbF := ptw g10 hb
    clear hb g10 Z10
    go_wp2
    go_ret
    exact ⟨rfl, hbF⟩

end Go.Proofs.Ytjlnokjaabcldad
