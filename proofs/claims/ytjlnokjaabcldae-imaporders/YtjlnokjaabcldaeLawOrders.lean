/-
  The walk of the law ImapOrders: it returns true, and nothing that was there is changed.
-/
import Derived.Test.YtjlnokjaabcldaeBegun
import Derived.Test.YtjlnokjaabcldaeOMath
namespace Go.Proofs.Ytjlnokjaabcldae
open Go.RowKit

theorem less_any (x y how : Int) (w : World) (hh : how = 1 ∨ how = 2) :
    Calls Try.prog 12 #[.int .i64 x, .int .i64 y, .int .i64 how] w fun e w' => e = .returned (.int .i64 (both how x y)) ∧ w' = w := by
  rcases hh with rfl | rfl
  · have HC : Hid (both 1 x y = min x y) := rfl
    go_enter Try.func12, Try.ntmps12
    go_wp2
    go_ret
    exact ⟨ret_int HC.out.symm, rfl⟩
  · have HC : Hid (both 2 x y = max x y) := rfl
    go_enter Try.func12, Try.ntmps12
    go_wp2
    go_ret
    exact ⟨ret_int HC.out.symm, rfl⟩

set_option maxRecDepth 100000 in
set_option maxHeartbeats 16000000 in
theorem imapOrders_walk (xo yo zo : Option Addr) (xc yc zc : Nat) (x y z : List (Int × Int × Int)) (how t : Int) (w : World) (hX : PcAt w xo x) (hY : PcAt w yo y) (hZ : PcAt w zo z) (hx : x.length ≤ xc) (hx' : xc ≤ 9223372036854775807) (hy : y.length ≤ yc) (hy' : yc ≤ 9223372036854775807) (hz : z.length ≤ zc) (hz' : zc ≤ 9223372036854775807) :
    Calls Try.prog 3 #[.slice xo x.length xc, .slice yo y.length yc, .slice zo z.length zc, .int .i64 how, .int .i64 t] w fun e w' => e = .returned (.bool true) ∧ Below w.heap.size w w' := by
  have HA := hide3 (fun W (h : Below w.heap.size w W) => (⟨hX.below h, hY.below h, hZ.below h⟩ : PcAt W xo x ∧ PcAt W yo y ∧ PcAt W zo z))
  clear hX hY hZ
  go_enter Try.func3, Try.ntmps3
  go_wp2_with fail
  refine (begun_any _).mono ?_
  rintro e w1 ⟨rfl, g1⟩
  go_wp2_with fail
  refine (rest_any how _).mono ?_
  rintro e w1x ⟨k, hk, rfl, hww⟩
  have hwx := hww.symm
  subst hwx
  clear hww
  rcases hk with rfl | rfl | rfl
  · skip
    go_wp2_with fail
    refine (built_any xo xc x _ (HA.out _ g1).1 hx hx').mono ?_
    rintro e w2 ⟨va, a, rfl, hB, ho, hb⟩
    obtain ⟨T, hT, hM⟩ := built_of hB
    have hal := hM.len
    have HNA := hide3 hM.near
    have HCa := hide3 (hM.chk (by omega))
    obtain ⟨ao, ac, rfl, za⟩ := pcAt_of_owns ho
    have g2 := ptw g1 hb
    clear hB hM ho hb g1
    go_wp2_with fail
    refine (built_any yo yc y _ (HA.out _ g2).2.1 hy hy').mono ?_
    rintro e w3 ⟨vb, b, rfl, hB, ho, hb⟩
    obtain ⟨Tb, hTb, hM⟩ := built_of hB
    have hbl := hM.len
    have HNB := hide3 hM.near
    have HCb := hide3 (hM.chk (by omega))
    obtain ⟨bo, bc, rfl, zb⟩ := pcAt_of_owns ho
    have g3 := ptw g2 hb
    have za3 := za.below hb
    clear hB hM ho hb g2 za
    go_wp2_with fail
    refine (built_any zo zc z _ (HA.out _ g3).2.2 hz hz').mono ?_
    rintro e w4 ⟨vc, c, rfl, hB, ho, hb⟩
    obtain ⟨Tc, hTc, hM⟩ := built_of hB
    have hcl := hM.len
    have HCc := hide3 (hM.chk (by omega))
    obtain ⟨co, cc, rfl, zc4⟩ := pcAt_of_owns ho
    have g4 := ptw g3 hb
    have Z4 := hide3 (⟨za3.below hb, zb.below hb, zc4⟩ : PcAt w4 ao a ∧ PcAt w4 bo b ∧ PcAt w4 co c)
    clear hB hM ho hb g3 za3 zb zc4
    go_wp2_with fail
    refine (Merge_any _ ao bo ac bc a b _ Z4.out.1 Z4.out.2.1).mono ?_
    rintro e w5 ⟨n, ab, hP, v5, rfl, ho5, hb⟩
    have HAB := hide3 (merge_map hP HCa.out HCb.out (.inl rfl))
    obtain ⟨hn, habl⟩ := map_err HAB.out
    obtain ⟨abo, abc, rfl, z5⟩ := pcAt_of_owns ho5
    have g5 := ptw g4 hb
    have Z5 := hide3 (⟨Z4.out.1.below hb, Z4.out.2.1.below hb, Z4.out.2.2.below hb, z5⟩ : PcAt w5 ao a ∧ PcAt w5 bo b ∧ PcAt w5 co c ∧ PcAt w5 abo ab)
    clear hP ho5 z5 g4 Z4 hb
    go_wp2_with fail
    refine (Merge_any _ bo ao bc ac b a _ Z5.out.2.1 Z5.out.1).mono ?_
    rintro e w6 ⟨n6, ba, hP, v6, rfl, ho6, hb⟩
    obtain ⟨rfl, rfl⟩ := merge_swap HAB.out (merge_map hP HCb.out HCa.out (.inl rfl))
    obtain ⟨bao, bac, rfl, z6⟩ := pcAt_of_owns ho6
    have g6 := ptw g5 hb
    have Z6 := hide3 (⟨Z5.out.1.below hb, Z5.out.2.1.below hb, Z5.out.2.2.1.below hb, Z5.out.2.2.2.below hb⟩ : PcAt w6 ao a ∧ PcAt w6 bo b ∧ PcAt w6 co c ∧ PcAt w6 abo ab)
    clear hP ho6 g5 Z5 hb
    have hnn : (n != n) = false := by simp
    go_wp2_with fail
    refine (Equal3_any abo bao abc bac ab ab _ Z6.out.2.2.2 z6 (by omega)).mono ?_
    rintro e w7 ⟨rfl, hb⟩
    rw [show decide (ab = ab) = true from by simp]
    have g7 := ptw g6 hb
    have Z7 := hide3 (⟨Z6.out.1.below hb, Z6.out.2.1.below hb, Z6.out.2.2.1.below hb, Z6.out.2.2.2.below hb⟩ : PcAt w7 ao a ∧ PcAt w7 bo b ∧ PcAt w7 co c ∧ PcAt w7 abo ab)
    clear g6 Z6 hb z6 hnn
    rcases hn with rfl | rfl | rfl
    · obtain ⟨hcab, htab⟩ := merge_tel HAB.out
      have HCab := hide3 hcab
      have HTab := hide3 htab
      clear hcab htab
      have hna : ∀ v, tel a t = some v → nearB v := fun v h => tel_near HNA.out h
      have hnb : ∀ v, tel b t = some v → nearB v := fun v h => tel_near HNB.out h
      have hta := fun W (h : PcAt W ao a) => told_any ao ac a t W h (by omega)
      have htb := fun W (h : PcAt W bo b) => told_any bo bc b t W h (by omega)
      have htt := fun W (h : PcAt W abo ab) => told_any abo abc ab t W h (by omega)
      have hv := HTab.out t
      simp only [hv] at htt
      clear hv
      cases hxa : tel a t with
      | none =>
        cases hxb : tel b t with
        | none =>
          simp only [hxa, hxb, mrg, Option.getD_none, Option.isSome_none, Bool.false_eq_true, if_false] at hta htb htt
          clear hxa hxb hna hnb
          go_wp2_with fail
          refine (hta _ Z7.out.1).mono ?_
          rintro e w8 ⟨rfl, hb⟩
          have g8 := ptw g7 hb
          have Z8 := hide3 (⟨Z7.out.1.below hb, Z7.out.2.1.below hb, Z7.out.2.2.1.below hb, Z7.out.2.2.2.below hb⟩ : PcAt w8 ao a ∧ PcAt w8 bo b ∧ PcAt w8 co c ∧ PcAt w8 abo ab)
          clear g7 Z7 hb
          go_wp2_with fail
          refine (htb _ Z8.out.2.1).mono ?_
          rintro e w9 ⟨rfl, hb⟩
          have g9 := ptw g8 hb
          have Z9 := hide3 (⟨Z8.out.1.below hb, Z8.out.2.1.below hb, Z8.out.2.2.1.below hb, Z8.out.2.2.2.below hb⟩ : PcAt w9 ao a ∧ PcAt w9 bo b ∧ PcAt w9 co c ∧ PcAt w9 abo ab)
          clear g8 Z8 hb
          go_wp2_with fail
          obtain ⟨wB, hwB⟩ : ∃ wB, wB = ((w9.alloc (.cells #[.int .i64 0, .int .i64 0] 32)).alloc (.cells #[.int .i64 0, .int .i64 0] 32)).alloc (.cells #[.int .i64 0, .int .i64 0] 32) := ⟨_, rfl⟩
          rw [← hwB]
          have hB9 : Below w9.heap.size w9 wB := by rw [hwB]; exact ptw (pal _ _) (ptw (pal _ _) (pal _ _))
          have b0 : wB.cell? ⟨w9.heap.size + 1 + 1, 0, none⟩ = some (.int .i64 0) := by rw [hwB, World.cell?_alloc_at _ _ _ _ (by simp)]; rfl
          have b1 : wB.cell? ⟨w9.heap.size + 1 + 1, 1, none⟩ = some (.int .i64 0) := by rw [hwB, World.cell?_alloc_at _ _ _ _ (by simp)]; rfl
          have hlB : w9.heap.size + 1 + 1 < wB.heap.size := World.block_lt_of_cell? wB _ b0
          clear hwB
          have Htd : Hid (∀ s : HeldIn wB, Calls Try.prog 11 #[.slice abo ab.length abc, .int .i64 t] s.w fun e w' => e = .returned (.agg #[.int .i64 0, .int .i64 0]) ∧ Below s.w.heap.size s.w w') := fun s => htt s.w (Z9.out.2.2.2.below (ptw hB9 s.h))
          have e0 : ∀ s : HeldIn wB, s.w.cell? ⟨w9.heap.size + 1 + 1, 0, none⟩ = some (.int .i64 0) := fun s => (s.h.cell (p := ⟨w9.heap.size + 1 + 1, 0, none⟩) hlB).trans b0
          have e1 : ∀ s : HeldIn wB, s.w.cell? ⟨w9.heap.size + 1 + 1, 1, none⟩ = some (.int .i64 0) := fun s => (s.h.cell (p := ⟨w9.heap.size + 1 + 1, 1, none⟩) hlB).trans b1
          have heq : ∀ W : World, (binOp .neq 32 (.agg #[.int .i64 0, .int .i64 0]) (.agg #[.int .i64 0, .int .i64 0])).run Try.prog W = .ok (.bool false) W := fun W => by rw [neq_pair, prB_same]; rfl
          have hgd : Try.prog.eqGuardType Try.prog.depth 32 = false := by kernel_rfl
          have hne : Nonempty (HeldIn wB) := ⟨⟨wB, Below.refl _ _⟩⟩
          clear htt hta htb b0 b1
          refine wp_region_held wB (Below.refl _ _) (by kernel_rfl) (by kernel_rfl) ?_
          repeat (go_big_quiet_step ((go_at_call 11; exact held_of (Htd.out _))))
          refine wpQuiet_nil ?_
          rintro _ ⟨s, rfl⟩
          have hb := ptw hB9 s.h
          have g10 := ptw g9 hb
          have Z10 := hide3 (⟨Z9.out.1.below hb, Z9.out.2.1.below hb, Z9.out.2.2.1.below hb, Z9.out.2.2.2.below hb⟩ : PcAt s.w ao a ∧ PcAt s.w bo b ∧ PcAt s.w co c ∧ PcAt s.w abo ab)
          clear hb hB9 g9 Z9 e0 e1 heq hne Htd hlB hgd
          generalize s.w = w10 at g10 Z10 ⊢
          go_wp2_with fail
          refine (Merge_any _ abo co abc cc ab c _ Z10.out.2.2.2 Z10.out.2.2.1).mono ?_
          rintro e w11 ⟨n11, r11, hP, v11, rfl, ho11, hb⟩
          have HL11 := hide3 (merge_map hP HCab.out HCc.out (.inl rfl))
          obtain ⟨hn11, hl11⟩ := map_err HL11.out
          obtain ⟨o11, c11, rfl, z11⟩ := pcAt_of_owns ho11
          have g11 := ptw g10 hb
          have Z11 := hide3 (⟨Z10.out.1.below hb, Z10.out.2.1.below hb, Z10.out.2.2.1.below hb, z11⟩ : PcAt w11 ao a ∧ PcAt w11 bo b ∧ PcAt w11 co c ∧ PcAt w11 o11 r11)
          clear hP ho11 hb g10 Z10 z11
          go_wp2_with fail
          refine (Merge_any _ bo co bc cc b c _ Z11.out.2.1 Z11.out.2.2.1).mono ?_
          rintro e w12 ⟨n12, r12, hP, v12, rfl, ho12, hb⟩
          have HL12 := hide3 (merge_map hP HCb.out HCc.out (.inl rfl))
          obtain ⟨hn12, hl12⟩ := map_err HL12.out
          obtain ⟨o12, c12, rfl, z12⟩ := pcAt_of_owns ho12
          have g12 := ptw g11 hb
          have Z12 := hide3 (⟨Z11.out.1.below hb, Z11.out.2.2.2.below hb, z12⟩ : PcAt w12 ao a ∧ PcAt w12 o11 r11 ∧ PcAt w12 o12 r12)
          clear hP ho12 hb g11 Z11 z12
          rcases hn11 with rfl | rfl | rfl
          · rcases hn12 with rfl | rfl | rfl
            · obtain ⟨hc12, ht12⟩ := merge_tel HL12.out
              have HC12 := hide3 hc12
              have HT12 := hide3 ht12
              clear hc12 ht12
              go_wp2_with fail
              refine (Merge_any _ ao o12 ac c12 a r12 _ Z12.out.1 Z12.out.2.2).mono ?_
              rintro e w13 ⟨n13, r13, hP, v13, rfl, ho13, hb⟩
              have HL13 := hide3 (merge_map hP HCa.out HC12.out (.inl rfl))
              obtain ⟨hn13, hl13⟩ := map_err HL13.out
              obtain ⟨o13, c13, rfl, z13⟩ := pcAt_of_owns ho13
              have g13 := ptw g12 hb
              have Z13 := hide3 (⟨Z12.out.2.1.below hb, z13⟩ : PcAt w13 o11 r11 ∧ PcAt w13 o13 r13)
              clear hP ho13 hb g12 Z12 z13
              rcases hn13 with rfl | rfl | rfl
              · have he := merge_three HTab.out HT12.out HL11.out HL13.out
                subst he
                go_wp2_with fail
                refine (Equal3_any o11 o13 c11 c13 r11 r11 _ Z13.out.1 Z13.out.2 (by omega)).mono ?_
                rintro e w14 ⟨rfl, hb⟩
                rw [show decide (r11 = r11) = true from by simp]
                have g14 := ptw g13 hb
                clear hb g13 Z13
                go_wp2
                go_ret
                exact ⟨rfl, g14⟩
              · go_wp2
                go_ret
                exact ⟨rfl, g13⟩
              · go_wp2
                go_ret
                exact ⟨rfl, g13⟩
            · go_wp2
              go_ret
              exact ⟨rfl, g12⟩
            · go_wp2
              go_ret
              exact ⟨rfl, g12⟩
          · go_wp2
            go_ret
            exact ⟨rfl, g12⟩
          · go_wp2
            go_ret
            exact ⟨rfl, g12⟩
        | some v =>
          simp only [hxa, hxb, mrg, Option.getD_none, Option.isSome_none, Option.getD_some, Option.isSome_some, Bool.false_eq_true, if_false, if_true] at hta htb htt
          have hv := hnb v hxb
          unfold nearB at hv
          obtain ⟨v1, v2⟩ := hv
          clear hxa hxb hna hnb
          go_wp2_with fail
          refine (hta _ Z7.out.1).mono ?_
          rintro e w8 ⟨rfl, hb⟩
          have g8 := ptw g7 hb
          have Z8 := hide3 (⟨Z7.out.1.below hb, Z7.out.2.1.below hb, Z7.out.2.2.1.below hb, Z7.out.2.2.2.below hb⟩ : PcAt w8 ao a ∧ PcAt w8 bo b ∧ PcAt w8 co c ∧ PcAt w8 abo ab)
          clear g7 Z7 hb
          go_wp2_with fail
          refine (htb _ Z8.out.2.1).mono ?_
          rintro e w9 ⟨rfl, hb⟩
          have g9 := ptw g8 hb
          have Z9 := hide3 (⟨Z8.out.1.below hb, Z8.out.2.1.below hb, Z8.out.2.2.1.below hb, Z8.out.2.2.2.below hb⟩ : PcAt w9 ao a ∧ PcAt w9 bo b ∧ PcAt w9 co c ∧ PcAt w9 abo ab)
          clear g8 Z8 hb
          go_wp2_with fail
          rw [show (max 0 1 : Int) = 1 from rfl]
          obtain ⟨wB, hwB⟩ : ∃ wB, wB = ((w9.alloc (.cells #[.int .i64 0, .int .i64 0] 32)).alloc (.cells #[.int .i64 v, .int .i64 1] 32)).alloc (.cells #[.int .i64 v, .int .i64 1] 32) := ⟨_, rfl⟩
          rw [← hwB]
          have hB9 : Below w9.heap.size w9 wB := by rw [hwB]; exact ptw (pal _ _) (ptw (pal _ _) (pal _ _))
          have b0 : wB.cell? ⟨w9.heap.size + 1 + 1, 0, none⟩ = some (.int .i64 v) := by rw [hwB, World.cell?_alloc_at _ _ _ _ (by simp)]; rfl
          have b1 : wB.cell? ⟨w9.heap.size + 1 + 1, 1, none⟩ = some (.int .i64 1) := by rw [hwB, World.cell?_alloc_at _ _ _ _ (by simp)]; rfl
          have hlB : w9.heap.size + 1 + 1 < wB.heap.size := World.block_lt_of_cell? wB _ b0
          clear hwB
          have Htd : Hid (∀ s : HeldIn wB, Calls Try.prog 11 #[.slice abo ab.length abc, .int .i64 t] s.w fun e w' => e = .returned (.agg #[.int .i64 v, .int .i64 1]) ∧ Below s.w.heap.size s.w w') := fun s => htt s.w (Z9.out.2.2.2.below (ptw hB9 s.h))
          have e0 : ∀ s : HeldIn wB, s.w.cell? ⟨w9.heap.size + 1 + 1, 0, none⟩ = some (.int .i64 v) := fun s => (s.h.cell (p := ⟨w9.heap.size + 1 + 1, 0, none⟩) hlB).trans b0
          have e1 : ∀ s : HeldIn wB, s.w.cell? ⟨w9.heap.size + 1 + 1, 1, none⟩ = some (.int .i64 1) := fun s => (s.h.cell (p := ⟨w9.heap.size + 1 + 1, 1, none⟩) hlB).trans b1
          have heq : ∀ W : World, (binOp .neq 32 (.agg #[.int .i64 v, .int .i64 1]) (.agg #[.int .i64 v, .int .i64 1])).run Try.prog W = .ok (.bool false) W := fun W => by rw [neq_pair, prB_same]; rfl
          have hgd : Try.prog.eqGuardType Try.prog.depth 32 = false := by kernel_rfl
          have hne : Nonempty (HeldIn wB) := ⟨⟨wB, Below.refl _ _⟩⟩
          clear htt hta htb b0 b1
          refine wp_region_held wB (Below.refl _ _) (by kernel_rfl) (by kernel_rfl) ?_
          repeat (go_big_quiet_step ((go_at_call 11; exact held_of (Htd.out _))))
          refine wpQuiet_nil ?_
          rintro _ ⟨s, rfl⟩
          have hb := ptw hB9 s.h
          have g10 := ptw g9 hb
          have Z10 := hide3 (⟨Z9.out.1.below hb, Z9.out.2.1.below hb, Z9.out.2.2.1.below hb, Z9.out.2.2.2.below hb⟩ : PcAt s.w ao a ∧ PcAt s.w bo b ∧ PcAt s.w co c ∧ PcAt s.w abo ab)
          clear hb hB9 g9 Z9 e0 e1 heq hne Htd hlB hgd
          generalize s.w = w10 at g10 Z10 ⊢
          go_wp2_with fail
          refine (Merge_any _ abo co abc cc ab c _ Z10.out.2.2.2 Z10.out.2.2.1).mono ?_
          rintro e w11 ⟨n11, r11, hP, v11, rfl, ho11, hb⟩
          have HL11 := hide3 (merge_map hP HCab.out HCc.out (.inl rfl))
          obtain ⟨hn11, hl11⟩ := map_err HL11.out
          obtain ⟨o11, c11, rfl, z11⟩ := pcAt_of_owns ho11
          have g11 := ptw g10 hb
          have Z11 := hide3 (⟨Z10.out.1.below hb, Z10.out.2.1.below hb, Z10.out.2.2.1.below hb, z11⟩ : PcAt w11 ao a ∧ PcAt w11 bo b ∧ PcAt w11 co c ∧ PcAt w11 o11 r11)
          clear hP ho11 hb g10 Z10 z11
          go_wp2_with fail
          refine (Merge_any _ bo co bc cc b c _ Z11.out.2.1 Z11.out.2.2.1).mono ?_
          rintro e w12 ⟨n12, r12, hP, v12, rfl, ho12, hb⟩
          have HL12 := hide3 (merge_map hP HCb.out HCc.out (.inl rfl))
          obtain ⟨hn12, hl12⟩ := map_err HL12.out
          obtain ⟨o12, c12, rfl, z12⟩ := pcAt_of_owns ho12
          have g12 := ptw g11 hb
          have Z12 := hide3 (⟨Z11.out.1.below hb, Z11.out.2.2.2.below hb, z12⟩ : PcAt w12 ao a ∧ PcAt w12 o11 r11 ∧ PcAt w12 o12 r12)
          clear hP ho12 hb g11 Z11 z12
          rcases hn11 with rfl | rfl | rfl
          · rcases hn12 with rfl | rfl | rfl
            · obtain ⟨hc12, ht12⟩ := merge_tel HL12.out
              have HC12 := hide3 hc12
              have HT12 := hide3 ht12
              clear hc12 ht12
              go_wp2_with fail
              refine (Merge_any _ ao o12 ac c12 a r12 _ Z12.out.1 Z12.out.2.2).mono ?_
              rintro e w13 ⟨n13, r13, hP, v13, rfl, ho13, hb⟩
              have HL13 := hide3 (merge_map hP HCa.out HC12.out (.inl rfl))
              obtain ⟨hn13, hl13⟩ := map_err HL13.out
              obtain ⟨o13, c13, rfl, z13⟩ := pcAt_of_owns ho13
              have g13 := ptw g12 hb
              have Z13 := hide3 (⟨Z12.out.2.1.below hb, z13⟩ : PcAt w13 o11 r11 ∧ PcAt w13 o13 r13)
              clear hP ho13 hb g12 Z12 z13
              rcases hn13 with rfl | rfl | rfl
              · have he := merge_three HTab.out HT12.out HL11.out HL13.out
                subst he
                go_wp2_with fail
                refine (Equal3_any o11 o13 c11 c13 r11 r11 _ Z13.out.1 Z13.out.2 (by omega)).mono ?_
                rintro e w14 ⟨rfl, hb⟩
                rw [show decide (r11 = r11) = true from by simp]
                have g14 := ptw g13 hb
                clear hb g13 Z13
                go_wp2
                go_ret
                exact ⟨rfl, g14⟩
              · go_wp2
                go_ret
                exact ⟨rfl, g13⟩
              · go_wp2
                go_ret
                exact ⟨rfl, g13⟩
            · go_wp2
              go_ret
              exact ⟨rfl, g12⟩
            · go_wp2
              go_ret
              exact ⟨rfl, g12⟩
          · go_wp2
            go_ret
            exact ⟨rfl, g12⟩
          · go_wp2
            go_ret
            exact ⟨rfl, g12⟩
      | some u =>
        cases hxb : tel b t with
        | none =>
          simp only [hxa, hxb, mrg, Option.getD_none, Option.isSome_none, Option.getD_some, Option.isSome_some, Bool.false_eq_true, if_false, if_true] at hta htb htt
          have hu := hna u hxa
          unfold nearB at hu
          obtain ⟨u1, u2⟩ := hu
          clear hxa hxb hna hnb
          go_wp2_with fail
          refine (hta _ Z7.out.1).mono ?_
          rintro e w8 ⟨rfl, hb⟩
          have g8 := ptw g7 hb
          have Z8 := hide3 (⟨Z7.out.1.below hb, Z7.out.2.1.below hb, Z7.out.2.2.1.below hb, Z7.out.2.2.2.below hb⟩ : PcAt w8 ao a ∧ PcAt w8 bo b ∧ PcAt w8 co c ∧ PcAt w8 abo ab)
          clear g7 Z7 hb
          go_wp2_with fail
          refine (htb _ Z8.out.2.1).mono ?_
          rintro e w9 ⟨rfl, hb⟩
          have g9 := ptw g8 hb
          have Z9 := hide3 (⟨Z8.out.1.below hb, Z8.out.2.1.below hb, Z8.out.2.2.1.below hb, Z8.out.2.2.2.below hb⟩ : PcAt w9 ao a ∧ PcAt w9 bo b ∧ PcAt w9 co c ∧ PcAt w9 abo ab)
          clear g8 Z8 hb
          go_wp2_with fail
          rw [show (max 1 0 : Int) = 1 from rfl]
          obtain ⟨wB, hwB⟩ : ∃ wB, wB = ((w9.alloc (.cells #[.int .i64 u, .int .i64 1] 32)).alloc (.cells #[.int .i64 0, .int .i64 0] 32)).alloc (.cells #[.int .i64 u, .int .i64 1] 32) := ⟨_, rfl⟩
          rw [← hwB]
          have hB9 : Below w9.heap.size w9 wB := by rw [hwB]; exact ptw (pal _ _) (ptw (pal _ _) (pal _ _))
          have b0 : wB.cell? ⟨w9.heap.size + 1 + 1, 0, none⟩ = some (.int .i64 u) := by rw [hwB, World.cell?_alloc_at _ _ _ _ (by simp)]; rfl
          have b1 : wB.cell? ⟨w9.heap.size + 1 + 1, 1, none⟩ = some (.int .i64 1) := by rw [hwB, World.cell?_alloc_at _ _ _ _ (by simp)]; rfl
          have hlB : w9.heap.size + 1 + 1 < wB.heap.size := World.block_lt_of_cell? wB _ b0
          clear hwB
          have Htd : Hid (∀ s : HeldIn wB, Calls Try.prog 11 #[.slice abo ab.length abc, .int .i64 t] s.w fun e w' => e = .returned (.agg #[.int .i64 u, .int .i64 1]) ∧ Below s.w.heap.size s.w w') := fun s => htt s.w (Z9.out.2.2.2.below (ptw hB9 s.h))
          have e0 : ∀ s : HeldIn wB, s.w.cell? ⟨w9.heap.size + 1 + 1, 0, none⟩ = some (.int .i64 u) := fun s => (s.h.cell (p := ⟨w9.heap.size + 1 + 1, 0, none⟩) hlB).trans b0
          have e1 : ∀ s : HeldIn wB, s.w.cell? ⟨w9.heap.size + 1 + 1, 1, none⟩ = some (.int .i64 1) := fun s => (s.h.cell (p := ⟨w9.heap.size + 1 + 1, 1, none⟩) hlB).trans b1
          have heq : ∀ W : World, (binOp .neq 32 (.agg #[.int .i64 u, .int .i64 1]) (.agg #[.int .i64 u, .int .i64 1])).run Try.prog W = .ok (.bool false) W := fun W => by rw [neq_pair, prB_same]; rfl
          have hgd : Try.prog.eqGuardType Try.prog.depth 32 = false := by kernel_rfl
          have hne : Nonempty (HeldIn wB) := ⟨⟨wB, Below.refl _ _⟩⟩
          clear htt hta htb b0 b1
          refine wp_region_held wB (Below.refl _ _) (by kernel_rfl) (by kernel_rfl) ?_
          repeat (go_big_quiet_step ((go_at_call 11; exact held_of (Htd.out _))))
          refine wpQuiet_nil ?_
          rintro _ ⟨s, rfl⟩
          have hb := ptw hB9 s.h
          have g10 := ptw g9 hb
          have Z10 := hide3 (⟨Z9.out.1.below hb, Z9.out.2.1.below hb, Z9.out.2.2.1.below hb, Z9.out.2.2.2.below hb⟩ : PcAt s.w ao a ∧ PcAt s.w bo b ∧ PcAt s.w co c ∧ PcAt s.w abo ab)
          clear hb hB9 g9 Z9 e0 e1 heq hne Htd hlB hgd
          generalize s.w = w10 at g10 Z10 ⊢
          go_wp2_with fail
          refine (Merge_any _ abo co abc cc ab c _ Z10.out.2.2.2 Z10.out.2.2.1).mono ?_
          rintro e w11 ⟨n11, r11, hP, v11, rfl, ho11, hb⟩
          have HL11 := hide3 (merge_map hP HCab.out HCc.out (.inl rfl))
          obtain ⟨hn11, hl11⟩ := map_err HL11.out
          obtain ⟨o11, c11, rfl, z11⟩ := pcAt_of_owns ho11
          have g11 := ptw g10 hb
          have Z11 := hide3 (⟨Z10.out.1.below hb, Z10.out.2.1.below hb, Z10.out.2.2.1.below hb, z11⟩ : PcAt w11 ao a ∧ PcAt w11 bo b ∧ PcAt w11 co c ∧ PcAt w11 o11 r11)
          clear hP ho11 hb g10 Z10 z11
          go_wp2_with fail
          refine (Merge_any _ bo co bc cc b c _ Z11.out.2.1 Z11.out.2.2.1).mono ?_
          rintro e w12 ⟨n12, r12, hP, v12, rfl, ho12, hb⟩
          have HL12 := hide3 (merge_map hP HCb.out HCc.out (.inl rfl))
          obtain ⟨hn12, hl12⟩ := map_err HL12.out
          obtain ⟨o12, c12, rfl, z12⟩ := pcAt_of_owns ho12
          have g12 := ptw g11 hb
          have Z12 := hide3 (⟨Z11.out.1.below hb, Z11.out.2.2.2.below hb, z12⟩ : PcAt w12 ao a ∧ PcAt w12 o11 r11 ∧ PcAt w12 o12 r12)
          clear hP ho12 hb g11 Z11 z12
          rcases hn11 with rfl | rfl | rfl
          · rcases hn12 with rfl | rfl | rfl
            · obtain ⟨hc12, ht12⟩ := merge_tel HL12.out
              have HC12 := hide3 hc12
              have HT12 := hide3 ht12
              clear hc12 ht12
              go_wp2_with fail
              refine (Merge_any _ ao o12 ac c12 a r12 _ Z12.out.1 Z12.out.2.2).mono ?_
              rintro e w13 ⟨n13, r13, hP, v13, rfl, ho13, hb⟩
              have HL13 := hide3 (merge_map hP HCa.out HC12.out (.inl rfl))
              obtain ⟨hn13, hl13⟩ := map_err HL13.out
              obtain ⟨o13, c13, rfl, z13⟩ := pcAt_of_owns ho13
              have g13 := ptw g12 hb
              have Z13 := hide3 (⟨Z12.out.2.1.below hb, z13⟩ : PcAt w13 o11 r11 ∧ PcAt w13 o13 r13)
              clear hP ho13 hb g12 Z12 z13
              rcases hn13 with rfl | rfl | rfl
              · have he := merge_three HTab.out HT12.out HL11.out HL13.out
                subst he
                go_wp2_with fail
                refine (Equal3_any o11 o13 c11 c13 r11 r11 _ Z13.out.1 Z13.out.2 (by omega)).mono ?_
                rintro e w14 ⟨rfl, hb⟩
                rw [show decide (r11 = r11) = true from by simp]
                have g14 := ptw g13 hb
                clear hb g13 Z13
                go_wp2
                go_ret
                exact ⟨rfl, g14⟩
              · go_wp2
                go_ret
                exact ⟨rfl, g13⟩
              · go_wp2
                go_ret
                exact ⟨rfl, g13⟩
            · go_wp2
              go_ret
              exact ⟨rfl, g12⟩
            · go_wp2
              go_ret
              exact ⟨rfl, g12⟩
          · go_wp2
            go_ret
            exact ⟨rfl, g12⟩
          · go_wp2
            go_ret
            exact ⟨rfl, g12⟩
        | some v =>
          simp only [hxa, hxb, mrg, Option.getD_some, Option.isSome_some, if_true] at hta htb htt
          have hu := hna u hxa
          unfold nearB at hu
          obtain ⟨u1, u2⟩ := hu
          have hv := hnb v hxb
          unfold nearB at hv
          obtain ⟨v1, v2⟩ := hv
          clear hxa hxb hna hnb
          go_wp2_with fail
          refine (hta _ Z7.out.1).mono ?_
          rintro e w8 ⟨rfl, hb⟩
          have g8 := ptw g7 hb
          have Z8 := hide3 (⟨Z7.out.1.below hb, Z7.out.2.1.below hb, Z7.out.2.2.1.below hb, Z7.out.2.2.2.below hb⟩ : PcAt w8 ao a ∧ PcAt w8 bo b ∧ PcAt w8 co c ∧ PcAt w8 abo ab)
          clear g7 Z7 hb
          go_wp2_with fail
          refine (htb _ Z8.out.2.1).mono ?_
          rintro e w9 ⟨rfl, hb⟩
          have g9 := ptw g8 hb
          have Z9 := hide3 (⟨Z8.out.1.below hb, Z8.out.2.1.below hb, Z8.out.2.2.1.below hb, Z8.out.2.2.2.below hb⟩ : PcAt w9 ao a ∧ PcAt w9 bo b ∧ PcAt w9 co c ∧ PcAt w9 abo ab)
          clear g8 Z8 hb
          go_wp2_with fail
          refine (less_any u v 1 _ (.inl rfl)).mono ?_
          rintro e w9x ⟨rfl, rfl⟩
          generalize both 1 u v = V at htt ⊢
          go_wp2_with fail
          obtain ⟨wB, hwB⟩ : ∃ wB, wB = ((w9.alloc (.cells #[.int .i64 u, .int .i64 1] 32)).alloc (.cells #[.int .i64 v, .int .i64 1] 32)).alloc (.cells #[.int .i64 V, .int .i64 1] 32) := ⟨_, rfl⟩
          rw [← hwB]
          have hB9 : Below w9.heap.size w9 wB := by rw [hwB]; exact ptw (pal _ _) (ptw (pal _ _) (pal _ _))
          have b0 : wB.cell? ⟨w9.heap.size + 1 + 1, 0, none⟩ = some (.int .i64 V) := by rw [hwB, World.cell?_alloc_at _ _ _ _ (by simp)]; rfl
          have b1 : wB.cell? ⟨w9.heap.size + 1 + 1, 1, none⟩ = some (.int .i64 1) := by rw [hwB, World.cell?_alloc_at _ _ _ _ (by simp)]; rfl
          have hlB : w9.heap.size + 1 + 1 < wB.heap.size := World.block_lt_of_cell? wB _ b0
          clear hwB
          have Htd : Hid (∀ s : HeldIn wB, Calls Try.prog 11 #[.slice abo ab.length abc, .int .i64 t] s.w fun e w' => e = .returned (.agg #[.int .i64 V, .int .i64 1]) ∧ Below s.w.heap.size s.w w') := fun s => htt s.w (Z9.out.2.2.2.below (ptw hB9 s.h))
          have e0 : ∀ s : HeldIn wB, s.w.cell? ⟨w9.heap.size + 1 + 1, 0, none⟩ = some (.int .i64 V) := fun s => (s.h.cell (p := ⟨w9.heap.size + 1 + 1, 0, none⟩) hlB).trans b0
          have e1 : ∀ s : HeldIn wB, s.w.cell? ⟨w9.heap.size + 1 + 1, 1, none⟩ = some (.int .i64 1) := fun s => (s.h.cell (p := ⟨w9.heap.size + 1 + 1, 1, none⟩) hlB).trans b1
          have heq : ∀ W : World, (binOp .neq 32 (.agg #[.int .i64 V, .int .i64 1]) (.agg #[.int .i64 V, .int .i64 1])).run Try.prog W = .ok (.bool false) W := fun W => by rw [neq_pair, prB_same]; rfl
          have hgd : Try.prog.eqGuardType Try.prog.depth 32 = false := by kernel_rfl
          have hne : Nonempty (HeldIn wB) := ⟨⟨wB, Below.refl _ _⟩⟩
          clear htt hta htb b0 b1
          refine wp_region_held wB (Below.refl _ _) (by kernel_rfl) (by kernel_rfl) ?_
          repeat (go_big_quiet_step ((go_at_call 11; exact held_of (Htd.out _))))
          refine wpQuiet_nil ?_
          rintro _ ⟨s, rfl⟩
          have hb := ptw hB9 s.h
          have g10 := ptw g9 hb
          have Z10 := hide3 (⟨Z9.out.1.below hb, Z9.out.2.1.below hb, Z9.out.2.2.1.below hb, Z9.out.2.2.2.below hb⟩ : PcAt s.w ao a ∧ PcAt s.w bo b ∧ PcAt s.w co c ∧ PcAt s.w abo ab)
          clear hb hB9 g9 Z9 e0 e1 heq hne Htd hlB hgd
          generalize s.w = w10 at g10 Z10 ⊢
          go_wp2_with fail
          refine (Merge_any _ abo co abc cc ab c _ Z10.out.2.2.2 Z10.out.2.2.1).mono ?_
          rintro e w11 ⟨n11, r11, hP, v11, rfl, ho11, hb⟩
          have HL11 := hide3 (merge_map hP HCab.out HCc.out (.inl rfl))
          obtain ⟨hn11, hl11⟩ := map_err HL11.out
          obtain ⟨o11, c11, rfl, z11⟩ := pcAt_of_owns ho11
          have g11 := ptw g10 hb
          have Z11 := hide3 (⟨Z10.out.1.below hb, Z10.out.2.1.below hb, Z10.out.2.2.1.below hb, z11⟩ : PcAt w11 ao a ∧ PcAt w11 bo b ∧ PcAt w11 co c ∧ PcAt w11 o11 r11)
          clear hP ho11 hb g10 Z10 z11
          go_wp2_with fail
          refine (Merge_any _ bo co bc cc b c _ Z11.out.2.1 Z11.out.2.2.1).mono ?_
          rintro e w12 ⟨n12, r12, hP, v12, rfl, ho12, hb⟩
          have HL12 := hide3 (merge_map hP HCb.out HCc.out (.inl rfl))
          obtain ⟨hn12, hl12⟩ := map_err HL12.out
          obtain ⟨o12, c12, rfl, z12⟩ := pcAt_of_owns ho12
          have g12 := ptw g11 hb
          have Z12 := hide3 (⟨Z11.out.1.below hb, Z11.out.2.2.2.below hb, z12⟩ : PcAt w12 ao a ∧ PcAt w12 o11 r11 ∧ PcAt w12 o12 r12)
          clear hP ho12 hb g11 Z11 z12
          rcases hn11 with rfl | rfl | rfl
          · rcases hn12 with rfl | rfl | rfl
            · obtain ⟨hc12, ht12⟩ := merge_tel HL12.out
              have HC12 := hide3 hc12
              have HT12 := hide3 ht12
              clear hc12 ht12
              go_wp2_with fail
              refine (Merge_any _ ao o12 ac c12 a r12 _ Z12.out.1 Z12.out.2.2).mono ?_
              rintro e w13 ⟨n13, r13, hP, v13, rfl, ho13, hb⟩
              have HL13 := hide3 (merge_map hP HCa.out HC12.out (.inl rfl))
              obtain ⟨hn13, hl13⟩ := map_err HL13.out
              obtain ⟨o13, c13, rfl, z13⟩ := pcAt_of_owns ho13
              have g13 := ptw g12 hb
              have Z13 := hide3 (⟨Z12.out.2.1.below hb, z13⟩ : PcAt w13 o11 r11 ∧ PcAt w13 o13 r13)
              clear hP ho13 hb g12 Z12 z13
              rcases hn13 with rfl | rfl | rfl
              · have he := merge_three HTab.out HT12.out HL11.out HL13.out
                subst he
                go_wp2_with fail
                refine (Equal3_any o11 o13 c11 c13 r11 r11 _ Z13.out.1 Z13.out.2 (by omega)).mono ?_
                rintro e w14 ⟨rfl, hb⟩
                rw [show decide (r11 = r11) = true from by simp]
                have g14 := ptw g13 hb
                clear hb g13 Z13
                go_wp2
                go_ret
                exact ⟨rfl, g14⟩
              · go_wp2
                go_ret
                exact ⟨rfl, g13⟩
              · go_wp2
                go_ret
                exact ⟨rfl, g13⟩
            · go_wp2
              go_ret
              exact ⟨rfl, g12⟩
            · go_wp2
              go_ret
              exact ⟨rfl, g12⟩
          · go_wp2
            go_ret
            exact ⟨rfl, g12⟩
          · go_wp2
            go_ret
            exact ⟨rfl, g12⟩
    · go_wp2
      go_ret
      exact ⟨rfl, g7⟩
    · go_wp2
      go_ret
      exact ⟨rfl, g7⟩
  · skip
    go_wp2_with fail
    refine (built_any xo xc x _ (HA.out _ g1).1 hx hx').mono ?_
    rintro e w2 ⟨va, a, rfl, hB, ho, hb⟩
    obtain ⟨T, hT, hM⟩ := built_of hB
    have hal := hM.len
    have HNA := hide3 hM.near
    have HCa := hide3 (hM.chk (by omega))
    obtain ⟨ao, ac, rfl, za⟩ := pcAt_of_owns ho
    have g2 := ptw g1 hb
    clear hB hM ho hb g1
    go_wp2_with fail
    refine (built_any yo yc y _ (HA.out _ g2).2.1 hy hy').mono ?_
    rintro e w3 ⟨vb, b, rfl, hB, ho, hb⟩
    obtain ⟨Tb, hTb, hM⟩ := built_of hB
    have hbl := hM.len
    have HNB := hide3 hM.near
    have HCb := hide3 (hM.chk (by omega))
    obtain ⟨bo, bc, rfl, zb⟩ := pcAt_of_owns ho
    have g3 := ptw g2 hb
    have za3 := za.below hb
    clear hB hM ho hb g2 za
    go_wp2_with fail
    refine (built_any zo zc z _ (HA.out _ g3).2.2 hz hz').mono ?_
    rintro e w4 ⟨vc, c, rfl, hB, ho, hb⟩
    obtain ⟨Tc, hTc, hM⟩ := built_of hB
    have hcl := hM.len
    have HCc := hide3 (hM.chk (by omega))
    obtain ⟨co, cc, rfl, zc4⟩ := pcAt_of_owns ho
    have g4 := ptw g3 hb
    have Z4 := hide3 (⟨za3.below hb, zb.below hb, zc4⟩ : PcAt w4 ao a ∧ PcAt w4 bo b ∧ PcAt w4 co c)
    clear hB hM ho hb g3 za3 zb zc4
    go_wp2_with fail
    refine (Merge_any _ ao bo ac bc a b _ Z4.out.1 Z4.out.2.1).mono ?_
    rintro e w5 ⟨n, ab, hP, v5, rfl, ho5, hb⟩
    have HAB := hide3 (merge_map hP HCa.out HCb.out (.inr (.inl rfl)))
    obtain ⟨hn, habl⟩ := map_err HAB.out
    obtain ⟨abo, abc, rfl, z5⟩ := pcAt_of_owns ho5
    have g5 := ptw g4 hb
    have Z5 := hide3 (⟨Z4.out.1.below hb, Z4.out.2.1.below hb, Z4.out.2.2.below hb, z5⟩ : PcAt w5 ao a ∧ PcAt w5 bo b ∧ PcAt w5 co c ∧ PcAt w5 abo ab)
    clear hP ho5 z5 g4 Z4 hb
    go_wp2_with fail
    refine (Merge_any _ bo ao bc ac b a _ Z5.out.2.1 Z5.out.1).mono ?_
    rintro e w6 ⟨n6, ba, hP, v6, rfl, ho6, hb⟩
    obtain ⟨rfl, rfl⟩ := merge_swap HAB.out (merge_map hP HCb.out HCa.out (.inr (.inl rfl)))
    obtain ⟨bao, bac, rfl, z6⟩ := pcAt_of_owns ho6
    have g6 := ptw g5 hb
    have Z6 := hide3 (⟨Z5.out.1.below hb, Z5.out.2.1.below hb, Z5.out.2.2.1.below hb, Z5.out.2.2.2.below hb⟩ : PcAt w6 ao a ∧ PcAt w6 bo b ∧ PcAt w6 co c ∧ PcAt w6 abo ab)
    clear hP ho6 g5 Z5 hb
    have hnn : (n != n) = false := by simp
    go_wp2_with fail
    refine (Equal3_any abo bao abc bac ab ab _ Z6.out.2.2.2 z6 (by omega)).mono ?_
    rintro e w7 ⟨rfl, hb⟩
    rw [show decide (ab = ab) = true from by simp]
    have g7 := ptw g6 hb
    have Z7 := hide3 (⟨Z6.out.1.below hb, Z6.out.2.1.below hb, Z6.out.2.2.1.below hb, Z6.out.2.2.2.below hb⟩ : PcAt w7 ao a ∧ PcAt w7 bo b ∧ PcAt w7 co c ∧ PcAt w7 abo ab)
    clear g6 Z6 hb z6 hnn
    rcases hn with rfl | rfl | rfl
    · obtain ⟨hcab, htab⟩ := merge_tel HAB.out
      have HCab := hide3 hcab
      have HTab := hide3 htab
      clear hcab htab
      have hna : ∀ v, tel a t = some v → nearB v := fun v h => tel_near HNA.out h
      have hnb : ∀ v, tel b t = some v → nearB v := fun v h => tel_near HNB.out h
      have hta := fun W (h : PcAt W ao a) => told_any ao ac a t W h (by omega)
      have htb := fun W (h : PcAt W bo b) => told_any bo bc b t W h (by omega)
      have htt := fun W (h : PcAt W abo ab) => told_any abo abc ab t W h (by omega)
      have hv := HTab.out t
      simp only [hv] at htt
      clear hv
      cases hxa : tel a t with
      | none =>
        cases hxb : tel b t with
        | none =>
          simp only [hxa, hxb, mrg, Option.getD_none, Option.isSome_none, Bool.false_eq_true, if_false] at hta htb htt
          clear hxa hxb hna hnb
          go_wp2_with fail
          refine (hta _ Z7.out.1).mono ?_
          rintro e w8 ⟨rfl, hb⟩
          have g8 := ptw g7 hb
          have Z8 := hide3 (⟨Z7.out.1.below hb, Z7.out.2.1.below hb, Z7.out.2.2.1.below hb, Z7.out.2.2.2.below hb⟩ : PcAt w8 ao a ∧ PcAt w8 bo b ∧ PcAt w8 co c ∧ PcAt w8 abo ab)
          clear g7 Z7 hb
          go_wp2_with fail
          refine (htb _ Z8.out.2.1).mono ?_
          rintro e w9 ⟨rfl, hb⟩
          have g9 := ptw g8 hb
          have Z9 := hide3 (⟨Z8.out.1.below hb, Z8.out.2.1.below hb, Z8.out.2.2.1.below hb, Z8.out.2.2.2.below hb⟩ : PcAt w9 ao a ∧ PcAt w9 bo b ∧ PcAt w9 co c ∧ PcAt w9 abo ab)
          clear g8 Z8 hb
          go_wp2_with fail
          obtain ⟨wB, hwB⟩ : ∃ wB, wB = ((w9.alloc (.cells #[.int .i64 0, .int .i64 0] 32)).alloc (.cells #[.int .i64 0, .int .i64 0] 32)).alloc (.cells #[.int .i64 0, .int .i64 0] 32) := ⟨_, rfl⟩
          rw [← hwB]
          have hB9 : Below w9.heap.size w9 wB := by rw [hwB]; exact ptw (pal _ _) (ptw (pal _ _) (pal _ _))
          have b0 : wB.cell? ⟨w9.heap.size + 1 + 1, 0, none⟩ = some (.int .i64 0) := by rw [hwB, World.cell?_alloc_at _ _ _ _ (by simp)]; rfl
          have b1 : wB.cell? ⟨w9.heap.size + 1 + 1, 1, none⟩ = some (.int .i64 0) := by rw [hwB, World.cell?_alloc_at _ _ _ _ (by simp)]; rfl
          have hlB : w9.heap.size + 1 + 1 < wB.heap.size := World.block_lt_of_cell? wB _ b0
          clear hwB
          have Htd : Hid (∀ s : HeldIn wB, Calls Try.prog 11 #[.slice abo ab.length abc, .int .i64 t] s.w fun e w' => e = .returned (.agg #[.int .i64 0, .int .i64 0]) ∧ Below s.w.heap.size s.w w') := fun s => htt s.w (Z9.out.2.2.2.below (ptw hB9 s.h))
          have e0 : ∀ s : HeldIn wB, s.w.cell? ⟨w9.heap.size + 1 + 1, 0, none⟩ = some (.int .i64 0) := fun s => (s.h.cell (p := ⟨w9.heap.size + 1 + 1, 0, none⟩) hlB).trans b0
          have e1 : ∀ s : HeldIn wB, s.w.cell? ⟨w9.heap.size + 1 + 1, 1, none⟩ = some (.int .i64 0) := fun s => (s.h.cell (p := ⟨w9.heap.size + 1 + 1, 1, none⟩) hlB).trans b1
          have heq : ∀ W : World, (binOp .neq 32 (.agg #[.int .i64 0, .int .i64 0]) (.agg #[.int .i64 0, .int .i64 0])).run Try.prog W = .ok (.bool false) W := fun W => by rw [neq_pair, prB_same]; rfl
          have hgd : Try.prog.eqGuardType Try.prog.depth 32 = false := by kernel_rfl
          have hne : Nonempty (HeldIn wB) := ⟨⟨wB, Below.refl _ _⟩⟩
          clear htt hta htb b0 b1
          refine wp_region_held wB (Below.refl _ _) (by kernel_rfl) (by kernel_rfl) ?_
          repeat (go_big_quiet_step ((go_at_call 11; exact held_of (Htd.out _))))
          refine wpQuiet_nil ?_
          rintro _ ⟨s, rfl⟩
          have hb := ptw hB9 s.h
          have g10 := ptw g9 hb
          have Z10 := hide3 (⟨Z9.out.1.below hb, Z9.out.2.1.below hb, Z9.out.2.2.1.below hb, Z9.out.2.2.2.below hb⟩ : PcAt s.w ao a ∧ PcAt s.w bo b ∧ PcAt s.w co c ∧ PcAt s.w abo ab)
          clear hb hB9 g9 Z9 e0 e1 heq hne Htd hlB hgd
          generalize s.w = w10 at g10 Z10 ⊢
          go_wp2_with fail
          refine (Merge_any _ abo co abc cc ab c _ Z10.out.2.2.2 Z10.out.2.2.1).mono ?_
          rintro e w11 ⟨n11, r11, hP, v11, rfl, ho11, hb⟩
          have HL11 := hide3 (merge_map hP HCab.out HCc.out (.inr (.inl rfl)))
          obtain ⟨hn11, hl11⟩ := map_err HL11.out
          obtain ⟨o11, c11, rfl, z11⟩ := pcAt_of_owns ho11
          have g11 := ptw g10 hb
          have Z11 := hide3 (⟨Z10.out.1.below hb, Z10.out.2.1.below hb, Z10.out.2.2.1.below hb, z11⟩ : PcAt w11 ao a ∧ PcAt w11 bo b ∧ PcAt w11 co c ∧ PcAt w11 o11 r11)
          clear hP ho11 hb g10 Z10 z11
          go_wp2_with fail
          refine (Merge_any _ bo co bc cc b c _ Z11.out.2.1 Z11.out.2.2.1).mono ?_
          rintro e w12 ⟨n12, r12, hP, v12, rfl, ho12, hb⟩
          have HL12 := hide3 (merge_map hP HCb.out HCc.out (.inr (.inl rfl)))
          obtain ⟨hn12, hl12⟩ := map_err HL12.out
          obtain ⟨o12, c12, rfl, z12⟩ := pcAt_of_owns ho12
          have g12 := ptw g11 hb
          have Z12 := hide3 (⟨Z11.out.1.below hb, Z11.out.2.2.2.below hb, z12⟩ : PcAt w12 ao a ∧ PcAt w12 o11 r11 ∧ PcAt w12 o12 r12)
          clear hP ho12 hb g11 Z11 z12
          rcases hn11 with rfl | rfl | rfl
          · rcases hn12 with rfl | rfl | rfl
            · obtain ⟨hc12, ht12⟩ := merge_tel HL12.out
              have HC12 := hide3 hc12
              have HT12 := hide3 ht12
              clear hc12 ht12
              go_wp2_with fail
              refine (Merge_any _ ao o12 ac c12 a r12 _ Z12.out.1 Z12.out.2.2).mono ?_
              rintro e w13 ⟨n13, r13, hP, v13, rfl, ho13, hb⟩
              have HL13 := hide3 (merge_map hP HCa.out HC12.out (.inr (.inl rfl)))
              obtain ⟨hn13, hl13⟩ := map_err HL13.out
              obtain ⟨o13, c13, rfl, z13⟩ := pcAt_of_owns ho13
              have g13 := ptw g12 hb
              have Z13 := hide3 (⟨Z12.out.2.1.below hb, z13⟩ : PcAt w13 o11 r11 ∧ PcAt w13 o13 r13)
              clear hP ho13 hb g12 Z12 z13
              rcases hn13 with rfl | rfl | rfl
              · have he := merge_three HTab.out HT12.out HL11.out HL13.out
                subst he
                go_wp2_with fail
                refine (Equal3_any o11 o13 c11 c13 r11 r11 _ Z13.out.1 Z13.out.2 (by omega)).mono ?_
                rintro e w14 ⟨rfl, hb⟩
                rw [show decide (r11 = r11) = true from by simp]
                have g14 := ptw g13 hb
                clear hb g13 Z13
                go_wp2
                go_ret
                exact ⟨rfl, g14⟩
              · go_wp2
                go_ret
                exact ⟨rfl, g13⟩
              · go_wp2
                go_ret
                exact ⟨rfl, g13⟩
            · go_wp2
              go_ret
              exact ⟨rfl, g12⟩
            · go_wp2
              go_ret
              exact ⟨rfl, g12⟩
          · go_wp2
            go_ret
            exact ⟨rfl, g12⟩
          · go_wp2
            go_ret
            exact ⟨rfl, g12⟩
        | some v =>
          simp only [hxa, hxb, mrg, Option.getD_none, Option.isSome_none, Option.getD_some, Option.isSome_some, Bool.false_eq_true, if_false, if_true] at hta htb htt
          have hv := hnb v hxb
          unfold nearB at hv
          obtain ⟨v1, v2⟩ := hv
          clear hxa hxb hna hnb
          go_wp2_with fail
          refine (hta _ Z7.out.1).mono ?_
          rintro e w8 ⟨rfl, hb⟩
          have g8 := ptw g7 hb
          have Z8 := hide3 (⟨Z7.out.1.below hb, Z7.out.2.1.below hb, Z7.out.2.2.1.below hb, Z7.out.2.2.2.below hb⟩ : PcAt w8 ao a ∧ PcAt w8 bo b ∧ PcAt w8 co c ∧ PcAt w8 abo ab)
          clear g7 Z7 hb
          go_wp2_with fail
          refine (htb _ Z8.out.2.1).mono ?_
          rintro e w9 ⟨rfl, hb⟩
          have g9 := ptw g8 hb
          have Z9 := hide3 (⟨Z8.out.1.below hb, Z8.out.2.1.below hb, Z8.out.2.2.1.below hb, Z8.out.2.2.2.below hb⟩ : PcAt w9 ao a ∧ PcAt w9 bo b ∧ PcAt w9 co c ∧ PcAt w9 abo ab)
          clear g8 Z8 hb
          go_wp2_with fail
          rw [show (max 0 1 : Int) = 1 from rfl]
          obtain ⟨wB, hwB⟩ : ∃ wB, wB = ((w9.alloc (.cells #[.int .i64 0, .int .i64 0] 32)).alloc (.cells #[.int .i64 v, .int .i64 1] 32)).alloc (.cells #[.int .i64 v, .int .i64 1] 32) := ⟨_, rfl⟩
          rw [← hwB]
          have hB9 : Below w9.heap.size w9 wB := by rw [hwB]; exact ptw (pal _ _) (ptw (pal _ _) (pal _ _))
          have b0 : wB.cell? ⟨w9.heap.size + 1 + 1, 0, none⟩ = some (.int .i64 v) := by rw [hwB, World.cell?_alloc_at _ _ _ _ (by simp)]; rfl
          have b1 : wB.cell? ⟨w9.heap.size + 1 + 1, 1, none⟩ = some (.int .i64 1) := by rw [hwB, World.cell?_alloc_at _ _ _ _ (by simp)]; rfl
          have hlB : w9.heap.size + 1 + 1 < wB.heap.size := World.block_lt_of_cell? wB _ b0
          clear hwB
          have Htd : Hid (∀ s : HeldIn wB, Calls Try.prog 11 #[.slice abo ab.length abc, .int .i64 t] s.w fun e w' => e = .returned (.agg #[.int .i64 v, .int .i64 1]) ∧ Below s.w.heap.size s.w w') := fun s => htt s.w (Z9.out.2.2.2.below (ptw hB9 s.h))
          have e0 : ∀ s : HeldIn wB, s.w.cell? ⟨w9.heap.size + 1 + 1, 0, none⟩ = some (.int .i64 v) := fun s => (s.h.cell (p := ⟨w9.heap.size + 1 + 1, 0, none⟩) hlB).trans b0
          have e1 : ∀ s : HeldIn wB, s.w.cell? ⟨w9.heap.size + 1 + 1, 1, none⟩ = some (.int .i64 1) := fun s => (s.h.cell (p := ⟨w9.heap.size + 1 + 1, 1, none⟩) hlB).trans b1
          have heq : ∀ W : World, (binOp .neq 32 (.agg #[.int .i64 v, .int .i64 1]) (.agg #[.int .i64 v, .int .i64 1])).run Try.prog W = .ok (.bool false) W := fun W => by rw [neq_pair, prB_same]; rfl
          have hgd : Try.prog.eqGuardType Try.prog.depth 32 = false := by kernel_rfl
          have hne : Nonempty (HeldIn wB) := ⟨⟨wB, Below.refl _ _⟩⟩
          clear htt hta htb b0 b1
          refine wp_region_held wB (Below.refl _ _) (by kernel_rfl) (by kernel_rfl) ?_
          repeat (go_big_quiet_step ((go_at_call 11; exact held_of (Htd.out _))))
          refine wpQuiet_nil ?_
          rintro _ ⟨s, rfl⟩
          have hb := ptw hB9 s.h
          have g10 := ptw g9 hb
          have Z10 := hide3 (⟨Z9.out.1.below hb, Z9.out.2.1.below hb, Z9.out.2.2.1.below hb, Z9.out.2.2.2.below hb⟩ : PcAt s.w ao a ∧ PcAt s.w bo b ∧ PcAt s.w co c ∧ PcAt s.w abo ab)
          clear hb hB9 g9 Z9 e0 e1 heq hne Htd hlB hgd
          generalize s.w = w10 at g10 Z10 ⊢
          go_wp2_with fail
          refine (Merge_any _ abo co abc cc ab c _ Z10.out.2.2.2 Z10.out.2.2.1).mono ?_
          rintro e w11 ⟨n11, r11, hP, v11, rfl, ho11, hb⟩
          have HL11 := hide3 (merge_map hP HCab.out HCc.out (.inr (.inl rfl)))
          obtain ⟨hn11, hl11⟩ := map_err HL11.out
          obtain ⟨o11, c11, rfl, z11⟩ := pcAt_of_owns ho11
          have g11 := ptw g10 hb
          have Z11 := hide3 (⟨Z10.out.1.below hb, Z10.out.2.1.below hb, Z10.out.2.2.1.below hb, z11⟩ : PcAt w11 ao a ∧ PcAt w11 bo b ∧ PcAt w11 co c ∧ PcAt w11 o11 r11)
          clear hP ho11 hb g10 Z10 z11
          go_wp2_with fail
          refine (Merge_any _ bo co bc cc b c _ Z11.out.2.1 Z11.out.2.2.1).mono ?_
          rintro e w12 ⟨n12, r12, hP, v12, rfl, ho12, hb⟩
          have HL12 := hide3 (merge_map hP HCb.out HCc.out (.inr (.inl rfl)))
          obtain ⟨hn12, hl12⟩ := map_err HL12.out
          obtain ⟨o12, c12, rfl, z12⟩ := pcAt_of_owns ho12
          have g12 := ptw g11 hb
          have Z12 := hide3 (⟨Z11.out.1.below hb, Z11.out.2.2.2.below hb, z12⟩ : PcAt w12 ao a ∧ PcAt w12 o11 r11 ∧ PcAt w12 o12 r12)
          clear hP ho12 hb g11 Z11 z12
          rcases hn11 with rfl | rfl | rfl
          · rcases hn12 with rfl | rfl | rfl
            · obtain ⟨hc12, ht12⟩ := merge_tel HL12.out
              have HC12 := hide3 hc12
              have HT12 := hide3 ht12
              clear hc12 ht12
              go_wp2_with fail
              refine (Merge_any _ ao o12 ac c12 a r12 _ Z12.out.1 Z12.out.2.2).mono ?_
              rintro e w13 ⟨n13, r13, hP, v13, rfl, ho13, hb⟩
              have HL13 := hide3 (merge_map hP HCa.out HC12.out (.inr (.inl rfl)))
              obtain ⟨hn13, hl13⟩ := map_err HL13.out
              obtain ⟨o13, c13, rfl, z13⟩ := pcAt_of_owns ho13
              have g13 := ptw g12 hb
              have Z13 := hide3 (⟨Z12.out.2.1.below hb, z13⟩ : PcAt w13 o11 r11 ∧ PcAt w13 o13 r13)
              clear hP ho13 hb g12 Z12 z13
              rcases hn13 with rfl | rfl | rfl
              · have he := merge_three HTab.out HT12.out HL11.out HL13.out
                subst he
                go_wp2_with fail
                refine (Equal3_any o11 o13 c11 c13 r11 r11 _ Z13.out.1 Z13.out.2 (by omega)).mono ?_
                rintro e w14 ⟨rfl, hb⟩
                rw [show decide (r11 = r11) = true from by simp]
                have g14 := ptw g13 hb
                clear hb g13 Z13
                go_wp2
                go_ret
                exact ⟨rfl, g14⟩
              · go_wp2
                go_ret
                exact ⟨rfl, g13⟩
              · go_wp2
                go_ret
                exact ⟨rfl, g13⟩
            · go_wp2
              go_ret
              exact ⟨rfl, g12⟩
            · go_wp2
              go_ret
              exact ⟨rfl, g12⟩
          · go_wp2
            go_ret
            exact ⟨rfl, g12⟩
          · go_wp2
            go_ret
            exact ⟨rfl, g12⟩
      | some u =>
        cases hxb : tel b t with
        | none =>
          simp only [hxa, hxb, mrg, Option.getD_none, Option.isSome_none, Option.getD_some, Option.isSome_some, Bool.false_eq_true, if_false, if_true] at hta htb htt
          have hu := hna u hxa
          unfold nearB at hu
          obtain ⟨u1, u2⟩ := hu
          clear hxa hxb hna hnb
          go_wp2_with fail
          refine (hta _ Z7.out.1).mono ?_
          rintro e w8 ⟨rfl, hb⟩
          have g8 := ptw g7 hb
          have Z8 := hide3 (⟨Z7.out.1.below hb, Z7.out.2.1.below hb, Z7.out.2.2.1.below hb, Z7.out.2.2.2.below hb⟩ : PcAt w8 ao a ∧ PcAt w8 bo b ∧ PcAt w8 co c ∧ PcAt w8 abo ab)
          clear g7 Z7 hb
          go_wp2_with fail
          refine (htb _ Z8.out.2.1).mono ?_
          rintro e w9 ⟨rfl, hb⟩
          have g9 := ptw g8 hb
          have Z9 := hide3 (⟨Z8.out.1.below hb, Z8.out.2.1.below hb, Z8.out.2.2.1.below hb, Z8.out.2.2.2.below hb⟩ : PcAt w9 ao a ∧ PcAt w9 bo b ∧ PcAt w9 co c ∧ PcAt w9 abo ab)
          clear g8 Z8 hb
          go_wp2_with fail
          rw [show (max 1 0 : Int) = 1 from rfl]
          obtain ⟨wB, hwB⟩ : ∃ wB, wB = ((w9.alloc (.cells #[.int .i64 u, .int .i64 1] 32)).alloc (.cells #[.int .i64 0, .int .i64 0] 32)).alloc (.cells #[.int .i64 u, .int .i64 1] 32) := ⟨_, rfl⟩
          rw [← hwB]
          have hB9 : Below w9.heap.size w9 wB := by rw [hwB]; exact ptw (pal _ _) (ptw (pal _ _) (pal _ _))
          have b0 : wB.cell? ⟨w9.heap.size + 1 + 1, 0, none⟩ = some (.int .i64 u) := by rw [hwB, World.cell?_alloc_at _ _ _ _ (by simp)]; rfl
          have b1 : wB.cell? ⟨w9.heap.size + 1 + 1, 1, none⟩ = some (.int .i64 1) := by rw [hwB, World.cell?_alloc_at _ _ _ _ (by simp)]; rfl
          have hlB : w9.heap.size + 1 + 1 < wB.heap.size := World.block_lt_of_cell? wB _ b0
          clear hwB
          have Htd : Hid (∀ s : HeldIn wB, Calls Try.prog 11 #[.slice abo ab.length abc, .int .i64 t] s.w fun e w' => e = .returned (.agg #[.int .i64 u, .int .i64 1]) ∧ Below s.w.heap.size s.w w') := fun s => htt s.w (Z9.out.2.2.2.below (ptw hB9 s.h))
          have e0 : ∀ s : HeldIn wB, s.w.cell? ⟨w9.heap.size + 1 + 1, 0, none⟩ = some (.int .i64 u) := fun s => (s.h.cell (p := ⟨w9.heap.size + 1 + 1, 0, none⟩) hlB).trans b0
          have e1 : ∀ s : HeldIn wB, s.w.cell? ⟨w9.heap.size + 1 + 1, 1, none⟩ = some (.int .i64 1) := fun s => (s.h.cell (p := ⟨w9.heap.size + 1 + 1, 1, none⟩) hlB).trans b1
          have heq : ∀ W : World, (binOp .neq 32 (.agg #[.int .i64 u, .int .i64 1]) (.agg #[.int .i64 u, .int .i64 1])).run Try.prog W = .ok (.bool false) W := fun W => by rw [neq_pair, prB_same]; rfl
          have hgd : Try.prog.eqGuardType Try.prog.depth 32 = false := by kernel_rfl
          have hne : Nonempty (HeldIn wB) := ⟨⟨wB, Below.refl _ _⟩⟩
          clear htt hta htb b0 b1
          refine wp_region_held wB (Below.refl _ _) (by kernel_rfl) (by kernel_rfl) ?_
          repeat (go_big_quiet_step ((go_at_call 11; exact held_of (Htd.out _))))
          refine wpQuiet_nil ?_
          rintro _ ⟨s, rfl⟩
          have hb := ptw hB9 s.h
          have g10 := ptw g9 hb
          have Z10 := hide3 (⟨Z9.out.1.below hb, Z9.out.2.1.below hb, Z9.out.2.2.1.below hb, Z9.out.2.2.2.below hb⟩ : PcAt s.w ao a ∧ PcAt s.w bo b ∧ PcAt s.w co c ∧ PcAt s.w abo ab)
          clear hb hB9 g9 Z9 e0 e1 heq hne Htd hlB hgd
          generalize s.w = w10 at g10 Z10 ⊢
          go_wp2_with fail
          refine (Merge_any _ abo co abc cc ab c _ Z10.out.2.2.2 Z10.out.2.2.1).mono ?_
          rintro e w11 ⟨n11, r11, hP, v11, rfl, ho11, hb⟩
          have HL11 := hide3 (merge_map hP HCab.out HCc.out (.inr (.inl rfl)))
          obtain ⟨hn11, hl11⟩ := map_err HL11.out
          obtain ⟨o11, c11, rfl, z11⟩ := pcAt_of_owns ho11
          have g11 := ptw g10 hb
          have Z11 := hide3 (⟨Z10.out.1.below hb, Z10.out.2.1.below hb, Z10.out.2.2.1.below hb, z11⟩ : PcAt w11 ao a ∧ PcAt w11 bo b ∧ PcAt w11 co c ∧ PcAt w11 o11 r11)
          clear hP ho11 hb g10 Z10 z11
          go_wp2_with fail
          refine (Merge_any _ bo co bc cc b c _ Z11.out.2.1 Z11.out.2.2.1).mono ?_
          rintro e w12 ⟨n12, r12, hP, v12, rfl, ho12, hb⟩
          have HL12 := hide3 (merge_map hP HCb.out HCc.out (.inr (.inl rfl)))
          obtain ⟨hn12, hl12⟩ := map_err HL12.out
          obtain ⟨o12, c12, rfl, z12⟩ := pcAt_of_owns ho12
          have g12 := ptw g11 hb
          have Z12 := hide3 (⟨Z11.out.1.below hb, Z11.out.2.2.2.below hb, z12⟩ : PcAt w12 ao a ∧ PcAt w12 o11 r11 ∧ PcAt w12 o12 r12)
          clear hP ho12 hb g11 Z11 z12
          rcases hn11 with rfl | rfl | rfl
          · rcases hn12 with rfl | rfl | rfl
            · obtain ⟨hc12, ht12⟩ := merge_tel HL12.out
              have HC12 := hide3 hc12
              have HT12 := hide3 ht12
              clear hc12 ht12
              go_wp2_with fail
              refine (Merge_any _ ao o12 ac c12 a r12 _ Z12.out.1 Z12.out.2.2).mono ?_
              rintro e w13 ⟨n13, r13, hP, v13, rfl, ho13, hb⟩
              have HL13 := hide3 (merge_map hP HCa.out HC12.out (.inr (.inl rfl)))
              obtain ⟨hn13, hl13⟩ := map_err HL13.out
              obtain ⟨o13, c13, rfl, z13⟩ := pcAt_of_owns ho13
              have g13 := ptw g12 hb
              have Z13 := hide3 (⟨Z12.out.2.1.below hb, z13⟩ : PcAt w13 o11 r11 ∧ PcAt w13 o13 r13)
              clear hP ho13 hb g12 Z12 z13
              rcases hn13 with rfl | rfl | rfl
              · have he := merge_three HTab.out HT12.out HL11.out HL13.out
                subst he
                go_wp2_with fail
                refine (Equal3_any o11 o13 c11 c13 r11 r11 _ Z13.out.1 Z13.out.2 (by omega)).mono ?_
                rintro e w14 ⟨rfl, hb⟩
                rw [show decide (r11 = r11) = true from by simp]
                have g14 := ptw g13 hb
                clear hb g13 Z13
                go_wp2
                go_ret
                exact ⟨rfl, g14⟩
              · go_wp2
                go_ret
                exact ⟨rfl, g13⟩
              · go_wp2
                go_ret
                exact ⟨rfl, g13⟩
            · go_wp2
              go_ret
              exact ⟨rfl, g12⟩
            · go_wp2
              go_ret
              exact ⟨rfl, g12⟩
          · go_wp2
            go_ret
            exact ⟨rfl, g12⟩
          · go_wp2
            go_ret
            exact ⟨rfl, g12⟩
        | some v =>
          simp only [hxa, hxb, mrg, Option.getD_some, Option.isSome_some, if_true] at hta htb htt
          have hu := hna u hxa
          unfold nearB at hu
          obtain ⟨u1, u2⟩ := hu
          have hv := hnb v hxb
          unfold nearB at hv
          obtain ⟨v1, v2⟩ := hv
          clear hxa hxb hna hnb
          go_wp2_with fail
          refine (hta _ Z7.out.1).mono ?_
          rintro e w8 ⟨rfl, hb⟩
          have g8 := ptw g7 hb
          have Z8 := hide3 (⟨Z7.out.1.below hb, Z7.out.2.1.below hb, Z7.out.2.2.1.below hb, Z7.out.2.2.2.below hb⟩ : PcAt w8 ao a ∧ PcAt w8 bo b ∧ PcAt w8 co c ∧ PcAt w8 abo ab)
          clear g7 Z7 hb
          go_wp2_with fail
          refine (htb _ Z8.out.2.1).mono ?_
          rintro e w9 ⟨rfl, hb⟩
          have g9 := ptw g8 hb
          have Z9 := hide3 (⟨Z8.out.1.below hb, Z8.out.2.1.below hb, Z8.out.2.2.1.below hb, Z8.out.2.2.2.below hb⟩ : PcAt w9 ao a ∧ PcAt w9 bo b ∧ PcAt w9 co c ∧ PcAt w9 abo ab)
          clear g8 Z8 hb
          go_wp2_with fail
          refine (less_any u v 2 _ (.inr rfl)).mono ?_
          rintro e w9x ⟨rfl, rfl⟩
          generalize both 2 u v = V at htt ⊢
          go_wp2_with fail
          obtain ⟨wB, hwB⟩ : ∃ wB, wB = ((w9.alloc (.cells #[.int .i64 u, .int .i64 1] 32)).alloc (.cells #[.int .i64 v, .int .i64 1] 32)).alloc (.cells #[.int .i64 V, .int .i64 1] 32) := ⟨_, rfl⟩
          rw [← hwB]
          have hB9 : Below w9.heap.size w9 wB := by rw [hwB]; exact ptw (pal _ _) (ptw (pal _ _) (pal _ _))
          have b0 : wB.cell? ⟨w9.heap.size + 1 + 1, 0, none⟩ = some (.int .i64 V) := by rw [hwB, World.cell?_alloc_at _ _ _ _ (by simp)]; rfl
          have b1 : wB.cell? ⟨w9.heap.size + 1 + 1, 1, none⟩ = some (.int .i64 1) := by rw [hwB, World.cell?_alloc_at _ _ _ _ (by simp)]; rfl
          have hlB : w9.heap.size + 1 + 1 < wB.heap.size := World.block_lt_of_cell? wB _ b0
          clear hwB
          have Htd : Hid (∀ s : HeldIn wB, Calls Try.prog 11 #[.slice abo ab.length abc, .int .i64 t] s.w fun e w' => e = .returned (.agg #[.int .i64 V, .int .i64 1]) ∧ Below s.w.heap.size s.w w') := fun s => htt s.w (Z9.out.2.2.2.below (ptw hB9 s.h))
          have e0 : ∀ s : HeldIn wB, s.w.cell? ⟨w9.heap.size + 1 + 1, 0, none⟩ = some (.int .i64 V) := fun s => (s.h.cell (p := ⟨w9.heap.size + 1 + 1, 0, none⟩) hlB).trans b0
          have e1 : ∀ s : HeldIn wB, s.w.cell? ⟨w9.heap.size + 1 + 1, 1, none⟩ = some (.int .i64 1) := fun s => (s.h.cell (p := ⟨w9.heap.size + 1 + 1, 1, none⟩) hlB).trans b1
          have heq : ∀ W : World, (binOp .neq 32 (.agg #[.int .i64 V, .int .i64 1]) (.agg #[.int .i64 V, .int .i64 1])).run Try.prog W = .ok (.bool false) W := fun W => by rw [neq_pair, prB_same]; rfl
          have hgd : Try.prog.eqGuardType Try.prog.depth 32 = false := by kernel_rfl
          have hne : Nonempty (HeldIn wB) := ⟨⟨wB, Below.refl _ _⟩⟩
          clear htt hta htb b0 b1
          refine wp_region_held wB (Below.refl _ _) (by kernel_rfl) (by kernel_rfl) ?_
          repeat (go_big_quiet_step ((go_at_call 11; exact held_of (Htd.out _))))
          refine wpQuiet_nil ?_
          rintro _ ⟨s, rfl⟩
          have hb := ptw hB9 s.h
          have g10 := ptw g9 hb
          have Z10 := hide3 (⟨Z9.out.1.below hb, Z9.out.2.1.below hb, Z9.out.2.2.1.below hb, Z9.out.2.2.2.below hb⟩ : PcAt s.w ao a ∧ PcAt s.w bo b ∧ PcAt s.w co c ∧ PcAt s.w abo ab)
          clear hb hB9 g9 Z9 e0 e1 heq hne Htd hlB hgd
          generalize s.w = w10 at g10 Z10 ⊢
          go_wp2_with fail
          refine (Merge_any _ abo co abc cc ab c _ Z10.out.2.2.2 Z10.out.2.2.1).mono ?_
          rintro e w11 ⟨n11, r11, hP, v11, rfl, ho11, hb⟩
          have HL11 := hide3 (merge_map hP HCab.out HCc.out (.inr (.inl rfl)))
          obtain ⟨hn11, hl11⟩ := map_err HL11.out
          obtain ⟨o11, c11, rfl, z11⟩ := pcAt_of_owns ho11
          have g11 := ptw g10 hb
          have Z11 := hide3 (⟨Z10.out.1.below hb, Z10.out.2.1.below hb, Z10.out.2.2.1.below hb, z11⟩ : PcAt w11 ao a ∧ PcAt w11 bo b ∧ PcAt w11 co c ∧ PcAt w11 o11 r11)
          clear hP ho11 hb g10 Z10 z11
          go_wp2_with fail
          refine (Merge_any _ bo co bc cc b c _ Z11.out.2.1 Z11.out.2.2.1).mono ?_
          rintro e w12 ⟨n12, r12, hP, v12, rfl, ho12, hb⟩
          have HL12 := hide3 (merge_map hP HCb.out HCc.out (.inr (.inl rfl)))
          obtain ⟨hn12, hl12⟩ := map_err HL12.out
          obtain ⟨o12, c12, rfl, z12⟩ := pcAt_of_owns ho12
          have g12 := ptw g11 hb
          have Z12 := hide3 (⟨Z11.out.1.below hb, Z11.out.2.2.2.below hb, z12⟩ : PcAt w12 ao a ∧ PcAt w12 o11 r11 ∧ PcAt w12 o12 r12)
          clear hP ho12 hb g11 Z11 z12
          rcases hn11 with rfl | rfl | rfl
          · rcases hn12 with rfl | rfl | rfl
            · obtain ⟨hc12, ht12⟩ := merge_tel HL12.out
              have HC12 := hide3 hc12
              have HT12 := hide3 ht12
              clear hc12 ht12
              go_wp2_with fail
              refine (Merge_any _ ao o12 ac c12 a r12 _ Z12.out.1 Z12.out.2.2).mono ?_
              rintro e w13 ⟨n13, r13, hP, v13, rfl, ho13, hb⟩
              have HL13 := hide3 (merge_map hP HCa.out HC12.out (.inr (.inl rfl)))
              obtain ⟨hn13, hl13⟩ := map_err HL13.out
              obtain ⟨o13, c13, rfl, z13⟩ := pcAt_of_owns ho13
              have g13 := ptw g12 hb
              have Z13 := hide3 (⟨Z12.out.2.1.below hb, z13⟩ : PcAt w13 o11 r11 ∧ PcAt w13 o13 r13)
              clear hP ho13 hb g12 Z12 z13
              rcases hn13 with rfl | rfl | rfl
              · have he := merge_three HTab.out HT12.out HL11.out HL13.out
                subst he
                go_wp2_with fail
                refine (Equal3_any o11 o13 c11 c13 r11 r11 _ Z13.out.1 Z13.out.2 (by omega)).mono ?_
                rintro e w14 ⟨rfl, hb⟩
                rw [show decide (r11 = r11) = true from by simp]
                have g14 := ptw g13 hb
                clear hb g13 Z13
                go_wp2
                go_ret
                exact ⟨rfl, g14⟩
              · go_wp2
                go_ret
                exact ⟨rfl, g13⟩
              · go_wp2
                go_ret
                exact ⟨rfl, g13⟩
            · go_wp2
              go_ret
              exact ⟨rfl, g12⟩
            · go_wp2
              go_ret
              exact ⟨rfl, g12⟩
          · go_wp2
            go_ret
            exact ⟨rfl, g12⟩
          · go_wp2
            go_ret
            exact ⟨rfl, g12⟩
    · go_wp2
      go_ret
      exact ⟨rfl, g7⟩
    · go_wp2
      go_ret
      exact ⟨rfl, g7⟩
  · skip
    go_wp2_with fail
    refine (built_any xo xc x _ (HA.out _ g1).1 hx hx').mono ?_
    rintro e w2 ⟨va, a, rfl, hB, ho, hb⟩
    obtain ⟨T, hT, hM⟩ := built_of hB
    have hal := hM.len
    have HNA := hide3 hM.near
    have HCa := hide3 (hM.chk (by omega))
    obtain ⟨ao, ac, rfl, za⟩ := pcAt_of_owns ho
    have g2 := ptw g1 hb
    clear hB hM ho hb g1
    go_wp2_with fail
    refine (built_any yo yc y _ (HA.out _ g2).2.1 hy hy').mono ?_
    rintro e w3 ⟨vb, b, rfl, hB, ho, hb⟩
    obtain ⟨Tb, hTb, hM⟩ := built_of hB
    have hbl := hM.len
    have HNB := hide3 hM.near
    have HCb := hide3 (hM.chk (by omega))
    obtain ⟨bo, bc, rfl, zb⟩ := pcAt_of_owns ho
    have g3 := ptw g2 hb
    have za3 := za.below hb
    clear hB hM ho hb g2 za
    go_wp2_with fail
    refine (built_any zo zc z _ (HA.out _ g3).2.2 hz hz').mono ?_
    rintro e w4 ⟨vc, c, rfl, hB, ho, hb⟩
    obtain ⟨Tc, hTc, hM⟩ := built_of hB
    have hcl := hM.len
    have HCc := hide3 (hM.chk (by omega))
    obtain ⟨co, cc, rfl, zc4⟩ := pcAt_of_owns ho
    have g4 := ptw g3 hb
    have Z4 := hide3 (⟨za3.below hb, zb.below hb, zc4⟩ : PcAt w4 ao a ∧ PcAt w4 bo b ∧ PcAt w4 co c)
    clear hB hM ho hb g3 za3 zb zc4
    go_wp2_with fail
    refine (Merge_any _ ao bo ac bc a b _ Z4.out.1 Z4.out.2.1).mono ?_
    rintro e w5 ⟨n, ab, hP, v5, rfl, ho5, hb⟩
    have HAB := hide3 (merge_map hP HCa.out HCb.out (.inr (.inr rfl)))
    obtain ⟨hn, habl⟩ := map_err HAB.out
    obtain ⟨abo, abc, rfl, z5⟩ := pcAt_of_owns ho5
    have g5 := ptw g4 hb
    have Z5 := hide3 (⟨Z4.out.1.below hb, Z4.out.2.1.below hb, Z4.out.2.2.below hb, z5⟩ : PcAt w5 ao a ∧ PcAt w5 bo b ∧ PcAt w5 co c ∧ PcAt w5 abo ab)
    clear hP ho5 z5 g4 Z4 hb
    go_wp2_with fail
    refine (Merge_any _ bo ao bc ac b a _ Z5.out.2.1 Z5.out.1).mono ?_
    rintro e w6 ⟨n6, ba, hP, v6, rfl, ho6, hb⟩
    obtain ⟨rfl, rfl⟩ := merge_swap HAB.out (merge_map hP HCb.out HCa.out (.inr (.inr rfl)))
    obtain ⟨bao, bac, rfl, z6⟩ := pcAt_of_owns ho6
    have g6 := ptw g5 hb
    have Z6 := hide3 (⟨Z5.out.1.below hb, Z5.out.2.1.below hb, Z5.out.2.2.1.below hb, Z5.out.2.2.2.below hb⟩ : PcAt w6 ao a ∧ PcAt w6 bo b ∧ PcAt w6 co c ∧ PcAt w6 abo ab)
    clear hP ho6 g5 Z5 hb
    have hnn : (n != n) = false := by simp
    go_wp2_with fail
    refine (Equal3_any abo bao abc bac ab ab _ Z6.out.2.2.2 z6 (by omega)).mono ?_
    rintro e w7 ⟨rfl, hb⟩
    rw [show decide (ab = ab) = true from by simp]
    have g7 := ptw g6 hb
    have Z7 := hide3 (⟨Z6.out.1.below hb, Z6.out.2.1.below hb, Z6.out.2.2.1.below hb, Z6.out.2.2.2.below hb⟩ : PcAt w7 ao a ∧ PcAt w7 bo b ∧ PcAt w7 co c ∧ PcAt w7 abo ab)
    clear g6 Z6 hb z6 hnn
    rcases hn with rfl | rfl | rfl
    · obtain ⟨hcab, htab⟩ := merge_tel HAB.out
      have HCab := hide3 hcab
      have HTab := hide3 htab
      clear hcab htab
      have hna : ∀ v, tel a t = some v → nearB v := fun v h => tel_near HNA.out h
      have hnb : ∀ v, tel b t = some v → nearB v := fun v h => tel_near HNB.out h
      have hta := fun W (h : PcAt W ao a) => told_any ao ac a t W h (by omega)
      have htb := fun W (h : PcAt W bo b) => told_any bo bc b t W h (by omega)
      have htt := fun W (h : PcAt W abo ab) => told_any abo abc ab t W h (by omega)
      have hv := HTab.out t
      simp only [hv] at htt
      clear hv
      cases hxa : tel a t with
      | none =>
        cases hxb : tel b t with
        | none =>
          simp only [hxa, hxb, mrg, Option.getD_none, Option.isSome_none, Bool.false_eq_true, if_false] at hta htb htt
          clear hxa hxb hna hnb
          go_wp2_with fail
          refine (hta _ Z7.out.1).mono ?_
          rintro e w8 ⟨rfl, hb⟩
          have g8 := ptw g7 hb
          have Z8 := hide3 (⟨Z7.out.1.below hb, Z7.out.2.1.below hb, Z7.out.2.2.1.below hb, Z7.out.2.2.2.below hb⟩ : PcAt w8 ao a ∧ PcAt w8 bo b ∧ PcAt w8 co c ∧ PcAt w8 abo ab)
          clear g7 Z7 hb
          go_wp2_with fail
          refine (htb _ Z8.out.2.1).mono ?_
          rintro e w9 ⟨rfl, hb⟩
          have g9 := ptw g8 hb
          have Z9 := hide3 (⟨Z8.out.1.below hb, Z8.out.2.1.below hb, Z8.out.2.2.1.below hb, Z8.out.2.2.2.below hb⟩ : PcAt w9 ao a ∧ PcAt w9 bo b ∧ PcAt w9 co c ∧ PcAt w9 abo ab)
          clear g8 Z8 hb
          go_wp2_with fail
          obtain ⟨wB, hwB⟩ : ∃ wB, wB = ((w9.alloc (.cells #[.int .i64 0, .int .i64 0] 32)).alloc (.cells #[.int .i64 0, .int .i64 0] 32)).alloc (.cells #[.int .i64 0, .int .i64 0] 32) := ⟨_, rfl⟩
          rw [← hwB]
          have hB9 : Below w9.heap.size w9 wB := by rw [hwB]; exact ptw (pal _ _) (ptw (pal _ _) (pal _ _))
          have b0 : wB.cell? ⟨w9.heap.size + 1 + 1, 0, none⟩ = some (.int .i64 0) := by rw [hwB, World.cell?_alloc_at _ _ _ _ (by simp)]; rfl
          have b1 : wB.cell? ⟨w9.heap.size + 1 + 1, 1, none⟩ = some (.int .i64 0) := by rw [hwB, World.cell?_alloc_at _ _ _ _ (by simp)]; rfl
          have hlB : w9.heap.size + 1 + 1 < wB.heap.size := World.block_lt_of_cell? wB _ b0
          clear hwB
          have Htd : Hid (∀ s : HeldIn wB, Calls Try.prog 11 #[.slice abo ab.length abc, .int .i64 t] s.w fun e w' => e = .returned (.agg #[.int .i64 0, .int .i64 0]) ∧ Below s.w.heap.size s.w w') := fun s => htt s.w (Z9.out.2.2.2.below (ptw hB9 s.h))
          have e0 : ∀ s : HeldIn wB, s.w.cell? ⟨w9.heap.size + 1 + 1, 0, none⟩ = some (.int .i64 0) := fun s => (s.h.cell (p := ⟨w9.heap.size + 1 + 1, 0, none⟩) hlB).trans b0
          have e1 : ∀ s : HeldIn wB, s.w.cell? ⟨w9.heap.size + 1 + 1, 1, none⟩ = some (.int .i64 0) := fun s => (s.h.cell (p := ⟨w9.heap.size + 1 + 1, 1, none⟩) hlB).trans b1
          have heq : ∀ W : World, (binOp .neq 32 (.agg #[.int .i64 0, .int .i64 0]) (.agg #[.int .i64 0, .int .i64 0])).run Try.prog W = .ok (.bool false) W := fun W => by rw [neq_pair, prB_same]; rfl
          have hgd : Try.prog.eqGuardType Try.prog.depth 32 = false := by kernel_rfl
          have hne : Nonempty (HeldIn wB) := ⟨⟨wB, Below.refl _ _⟩⟩
          clear htt hta htb b0 b1
          refine wp_region_held wB (Below.refl _ _) (by kernel_rfl) (by kernel_rfl) ?_
          repeat (go_big_quiet_step ((go_at_call 11; exact held_of (Htd.out _))))
          refine wpQuiet_nil ?_
          rintro _ ⟨s, rfl⟩
          have hb := ptw hB9 s.h
          have g10 := ptw g9 hb
          have Z10 := hide3 (⟨Z9.out.1.below hb, Z9.out.2.1.below hb, Z9.out.2.2.1.below hb, Z9.out.2.2.2.below hb⟩ : PcAt s.w ao a ∧ PcAt s.w bo b ∧ PcAt s.w co c ∧ PcAt s.w abo ab)
          clear hb hB9 g9 Z9 e0 e1 heq hne Htd hlB hgd
          generalize s.w = w10 at g10 Z10 ⊢
          go_wp2_with fail
          refine (Merge_any _ abo co abc cc ab c _ Z10.out.2.2.2 Z10.out.2.2.1).mono ?_
          rintro e w11 ⟨n11, r11, hP, v11, rfl, ho11, hb⟩
          have HL11 := hide3 (merge_map hP HCab.out HCc.out (.inr (.inr rfl)))
          obtain ⟨hn11, hl11⟩ := map_err HL11.out
          obtain ⟨o11, c11, rfl, z11⟩ := pcAt_of_owns ho11
          have g11 := ptw g10 hb
          have Z11 := hide3 (⟨Z10.out.1.below hb, Z10.out.2.1.below hb, Z10.out.2.2.1.below hb, z11⟩ : PcAt w11 ao a ∧ PcAt w11 bo b ∧ PcAt w11 co c ∧ PcAt w11 o11 r11)
          clear hP ho11 hb g10 Z10 z11
          go_wp2_with fail
          refine (Merge_any _ bo co bc cc b c _ Z11.out.2.1 Z11.out.2.2.1).mono ?_
          rintro e w12 ⟨n12, r12, hP, v12, rfl, ho12, hb⟩
          have HL12 := hide3 (merge_map hP HCb.out HCc.out (.inr (.inr rfl)))
          obtain ⟨hn12, hl12⟩ := map_err HL12.out
          obtain ⟨o12, c12, rfl, z12⟩ := pcAt_of_owns ho12
          have g12 := ptw g11 hb
          have Z12 := hide3 (⟨Z11.out.1.below hb, Z11.out.2.2.2.below hb, z12⟩ : PcAt w12 ao a ∧ PcAt w12 o11 r11 ∧ PcAt w12 o12 r12)
          clear hP ho12 hb g11 Z11 z12
          rcases hn11 with rfl | rfl | rfl
          · rcases hn12 with rfl | rfl | rfl
            · obtain ⟨hc12, ht12⟩ := merge_tel HL12.out
              have HC12 := hide3 hc12
              have HT12 := hide3 ht12
              clear hc12 ht12
              go_wp2_with fail
              refine (Merge_any _ ao o12 ac c12 a r12 _ Z12.out.1 Z12.out.2.2).mono ?_
              rintro e w13 ⟨n13, r13, hP, v13, rfl, ho13, hb⟩
              have HL13 := hide3 (merge_map hP HCa.out HC12.out (.inr (.inr rfl)))
              obtain ⟨hn13, hl13⟩ := map_err HL13.out
              obtain ⟨o13, c13, rfl, z13⟩ := pcAt_of_owns ho13
              have g13 := ptw g12 hb
              have Z13 := hide3 (⟨Z12.out.2.1.below hb, z13⟩ : PcAt w13 o11 r11 ∧ PcAt w13 o13 r13)
              clear hP ho13 hb g12 Z12 z13
              rcases hn13 with rfl | rfl | rfl
              · have he := merge_three HTab.out HT12.out HL11.out HL13.out
                subst he
                go_wp2_with fail
                refine (Equal3_any o11 o13 c11 c13 r11 r11 _ Z13.out.1 Z13.out.2 (by omega)).mono ?_
                rintro e w14 ⟨rfl, hb⟩
                rw [show decide (r11 = r11) = true from by simp]
                have g14 := ptw g13 hb
                clear hb g13 Z13
                go_wp2
                go_ret
                exact ⟨rfl, g14⟩
              · go_wp2
                go_ret
                exact ⟨rfl, g13⟩
              · go_wp2
                go_ret
                exact ⟨rfl, g13⟩
            · go_wp2
              go_ret
              exact ⟨rfl, g12⟩
            · go_wp2
              go_ret
              exact ⟨rfl, g12⟩
          · go_wp2
            go_ret
            exact ⟨rfl, g12⟩
          · go_wp2
            go_ret
            exact ⟨rfl, g12⟩
        | some v =>
          simp only [hxa, hxb, mrg, Option.getD_none, Option.isSome_none, Option.getD_some, Option.isSome_some, Bool.false_eq_true, if_false, if_true] at hta htb htt
          have hv := hnb v hxb
          unfold nearB at hv
          obtain ⟨v1, v2⟩ := hv
          clear hxa hxb hna hnb
          go_wp2_with fail
          refine (hta _ Z7.out.1).mono ?_
          rintro e w8 ⟨rfl, hb⟩
          have g8 := ptw g7 hb
          have Z8 := hide3 (⟨Z7.out.1.below hb, Z7.out.2.1.below hb, Z7.out.2.2.1.below hb, Z7.out.2.2.2.below hb⟩ : PcAt w8 ao a ∧ PcAt w8 bo b ∧ PcAt w8 co c ∧ PcAt w8 abo ab)
          clear g7 Z7 hb
          go_wp2_with fail
          refine (htb _ Z8.out.2.1).mono ?_
          rintro e w9 ⟨rfl, hb⟩
          have g9 := ptw g8 hb
          have Z9 := hide3 (⟨Z8.out.1.below hb, Z8.out.2.1.below hb, Z8.out.2.2.1.below hb, Z8.out.2.2.2.below hb⟩ : PcAt w9 ao a ∧ PcAt w9 bo b ∧ PcAt w9 co c ∧ PcAt w9 abo ab)
          clear g8 Z8 hb
          go_wp2_with fail
          rw [show (max 0 1 : Int) = 1 from rfl]
          obtain ⟨wB, hwB⟩ : ∃ wB, wB = ((w9.alloc (.cells #[.int .i64 0, .int .i64 0] 32)).alloc (.cells #[.int .i64 v, .int .i64 1] 32)).alloc (.cells #[.int .i64 v, .int .i64 1] 32) := ⟨_, rfl⟩
          rw [← hwB]
          have hB9 : Below w9.heap.size w9 wB := by rw [hwB]; exact ptw (pal _ _) (ptw (pal _ _) (pal _ _))
          have b0 : wB.cell? ⟨w9.heap.size + 1 + 1, 0, none⟩ = some (.int .i64 v) := by rw [hwB, World.cell?_alloc_at _ _ _ _ (by simp)]; rfl
          have b1 : wB.cell? ⟨w9.heap.size + 1 + 1, 1, none⟩ = some (.int .i64 1) := by rw [hwB, World.cell?_alloc_at _ _ _ _ (by simp)]; rfl
          have hlB : w9.heap.size + 1 + 1 < wB.heap.size := World.block_lt_of_cell? wB _ b0
          clear hwB
          have Htd : Hid (∀ s : HeldIn wB, Calls Try.prog 11 #[.slice abo ab.length abc, .int .i64 t] s.w fun e w' => e = .returned (.agg #[.int .i64 v, .int .i64 1]) ∧ Below s.w.heap.size s.w w') := fun s => htt s.w (Z9.out.2.2.2.below (ptw hB9 s.h))
          have e0 : ∀ s : HeldIn wB, s.w.cell? ⟨w9.heap.size + 1 + 1, 0, none⟩ = some (.int .i64 v) := fun s => (s.h.cell (p := ⟨w9.heap.size + 1 + 1, 0, none⟩) hlB).trans b0
          have e1 : ∀ s : HeldIn wB, s.w.cell? ⟨w9.heap.size + 1 + 1, 1, none⟩ = some (.int .i64 1) := fun s => (s.h.cell (p := ⟨w9.heap.size + 1 + 1, 1, none⟩) hlB).trans b1
          have heq : ∀ W : World, (binOp .neq 32 (.agg #[.int .i64 v, .int .i64 1]) (.agg #[.int .i64 v, .int .i64 1])).run Try.prog W = .ok (.bool false) W := fun W => by rw [neq_pair, prB_same]; rfl
          have hgd : Try.prog.eqGuardType Try.prog.depth 32 = false := by kernel_rfl
          have hne : Nonempty (HeldIn wB) := ⟨⟨wB, Below.refl _ _⟩⟩
          clear htt hta htb b0 b1
          refine wp_region_held wB (Below.refl _ _) (by kernel_rfl) (by kernel_rfl) ?_
          repeat (go_big_quiet_step ((go_at_call 11; exact held_of (Htd.out _))))
          refine wpQuiet_nil ?_
          rintro _ ⟨s, rfl⟩
          have hb := ptw hB9 s.h
          have g10 := ptw g9 hb
          have Z10 := hide3 (⟨Z9.out.1.below hb, Z9.out.2.1.below hb, Z9.out.2.2.1.below hb, Z9.out.2.2.2.below hb⟩ : PcAt s.w ao a ∧ PcAt s.w bo b ∧ PcAt s.w co c ∧ PcAt s.w abo ab)
          clear hb hB9 g9 Z9 e0 e1 heq hne Htd hlB hgd
          generalize s.w = w10 at g10 Z10 ⊢
          go_wp2_with fail
          refine (Merge_any _ abo co abc cc ab c _ Z10.out.2.2.2 Z10.out.2.2.1).mono ?_
          rintro e w11 ⟨n11, r11, hP, v11, rfl, ho11, hb⟩
          have HL11 := hide3 (merge_map hP HCab.out HCc.out (.inr (.inr rfl)))
          obtain ⟨hn11, hl11⟩ := map_err HL11.out
          obtain ⟨o11, c11, rfl, z11⟩ := pcAt_of_owns ho11
          have g11 := ptw g10 hb
          have Z11 := hide3 (⟨Z10.out.1.below hb, Z10.out.2.1.below hb, Z10.out.2.2.1.below hb, z11⟩ : PcAt w11 ao a ∧ PcAt w11 bo b ∧ PcAt w11 co c ∧ PcAt w11 o11 r11)
          clear hP ho11 hb g10 Z10 z11
          go_wp2_with fail
          refine (Merge_any _ bo co bc cc b c _ Z11.out.2.1 Z11.out.2.2.1).mono ?_
          rintro e w12 ⟨n12, r12, hP, v12, rfl, ho12, hb⟩
          have HL12 := hide3 (merge_map hP HCb.out HCc.out (.inr (.inr rfl)))
          obtain ⟨hn12, hl12⟩ := map_err HL12.out
          obtain ⟨o12, c12, rfl, z12⟩ := pcAt_of_owns ho12
          have g12 := ptw g11 hb
          have Z12 := hide3 (⟨Z11.out.1.below hb, Z11.out.2.2.2.below hb, z12⟩ : PcAt w12 ao a ∧ PcAt w12 o11 r11 ∧ PcAt w12 o12 r12)
          clear hP ho12 hb g11 Z11 z12
          rcases hn11 with rfl | rfl | rfl
          · rcases hn12 with rfl | rfl | rfl
            · obtain ⟨hc12, ht12⟩ := merge_tel HL12.out
              have HC12 := hide3 hc12
              have HT12 := hide3 ht12
              clear hc12 ht12
              go_wp2_with fail
              refine (Merge_any _ ao o12 ac c12 a r12 _ Z12.out.1 Z12.out.2.2).mono ?_
              rintro e w13 ⟨n13, r13, hP, v13, rfl, ho13, hb⟩
              have HL13 := hide3 (merge_map hP HCa.out HC12.out (.inr (.inr rfl)))
              obtain ⟨hn13, hl13⟩ := map_err HL13.out
              obtain ⟨o13, c13, rfl, z13⟩ := pcAt_of_owns ho13
              have g13 := ptw g12 hb
              have Z13 := hide3 (⟨Z12.out.2.1.below hb, z13⟩ : PcAt w13 o11 r11 ∧ PcAt w13 o13 r13)
              clear hP ho13 hb g12 Z12 z13
              rcases hn13 with rfl | rfl | rfl
              · have he := merge_three HTab.out HT12.out HL11.out HL13.out
                subst he
                go_wp2_with fail
                refine (Equal3_any o11 o13 c11 c13 r11 r11 _ Z13.out.1 Z13.out.2 (by omega)).mono ?_
                rintro e w14 ⟨rfl, hb⟩
                rw [show decide (r11 = r11) = true from by simp]
                have g14 := ptw g13 hb
                clear hb g13 Z13
                go_wp2
                go_ret
                exact ⟨rfl, g14⟩
              · go_wp2
                go_ret
                exact ⟨rfl, g13⟩
              · go_wp2
                go_ret
                exact ⟨rfl, g13⟩
            · go_wp2
              go_ret
              exact ⟨rfl, g12⟩
            · go_wp2
              go_ret
              exact ⟨rfl, g12⟩
          · go_wp2
            go_ret
            exact ⟨rfl, g12⟩
          · go_wp2
            go_ret
            exact ⟨rfl, g12⟩
      | some u =>
        cases hxb : tel b t with
        | none =>
          simp only [hxa, hxb, mrg, Option.getD_none, Option.isSome_none, Option.getD_some, Option.isSome_some, Bool.false_eq_true, if_false, if_true] at hta htb htt
          have hu := hna u hxa
          unfold nearB at hu
          obtain ⟨u1, u2⟩ := hu
          clear hxa hxb hna hnb
          go_wp2_with fail
          refine (hta _ Z7.out.1).mono ?_
          rintro e w8 ⟨rfl, hb⟩
          have g8 := ptw g7 hb
          have Z8 := hide3 (⟨Z7.out.1.below hb, Z7.out.2.1.below hb, Z7.out.2.2.1.below hb, Z7.out.2.2.2.below hb⟩ : PcAt w8 ao a ∧ PcAt w8 bo b ∧ PcAt w8 co c ∧ PcAt w8 abo ab)
          clear g7 Z7 hb
          go_wp2_with fail
          refine (htb _ Z8.out.2.1).mono ?_
          rintro e w9 ⟨rfl, hb⟩
          have g9 := ptw g8 hb
          have Z9 := hide3 (⟨Z8.out.1.below hb, Z8.out.2.1.below hb, Z8.out.2.2.1.below hb, Z8.out.2.2.2.below hb⟩ : PcAt w9 ao a ∧ PcAt w9 bo b ∧ PcAt w9 co c ∧ PcAt w9 abo ab)
          clear g8 Z8 hb
          go_wp2_with fail
          rw [show (max 1 0 : Int) = 1 from rfl]
          obtain ⟨wB, hwB⟩ : ∃ wB, wB = ((w9.alloc (.cells #[.int .i64 u, .int .i64 1] 32)).alloc (.cells #[.int .i64 0, .int .i64 0] 32)).alloc (.cells #[.int .i64 u, .int .i64 1] 32) := ⟨_, rfl⟩
          rw [← hwB]
          have hB9 : Below w9.heap.size w9 wB := by rw [hwB]; exact ptw (pal _ _) (ptw (pal _ _) (pal _ _))
          have b0 : wB.cell? ⟨w9.heap.size + 1 + 1, 0, none⟩ = some (.int .i64 u) := by rw [hwB, World.cell?_alloc_at _ _ _ _ (by simp)]; rfl
          have b1 : wB.cell? ⟨w9.heap.size + 1 + 1, 1, none⟩ = some (.int .i64 1) := by rw [hwB, World.cell?_alloc_at _ _ _ _ (by simp)]; rfl
          have hlB : w9.heap.size + 1 + 1 < wB.heap.size := World.block_lt_of_cell? wB _ b0
          clear hwB
          have Htd : Hid (∀ s : HeldIn wB, Calls Try.prog 11 #[.slice abo ab.length abc, .int .i64 t] s.w fun e w' => e = .returned (.agg #[.int .i64 u, .int .i64 1]) ∧ Below s.w.heap.size s.w w') := fun s => htt s.w (Z9.out.2.2.2.below (ptw hB9 s.h))
          have e0 : ∀ s : HeldIn wB, s.w.cell? ⟨w9.heap.size + 1 + 1, 0, none⟩ = some (.int .i64 u) := fun s => (s.h.cell (p := ⟨w9.heap.size + 1 + 1, 0, none⟩) hlB).trans b0
          have e1 : ∀ s : HeldIn wB, s.w.cell? ⟨w9.heap.size + 1 + 1, 1, none⟩ = some (.int .i64 1) := fun s => (s.h.cell (p := ⟨w9.heap.size + 1 + 1, 1, none⟩) hlB).trans b1
          have heq : ∀ W : World, (binOp .neq 32 (.agg #[.int .i64 u, .int .i64 1]) (.agg #[.int .i64 u, .int .i64 1])).run Try.prog W = .ok (.bool false) W := fun W => by rw [neq_pair, prB_same]; rfl
          have hgd : Try.prog.eqGuardType Try.prog.depth 32 = false := by kernel_rfl
          have hne : Nonempty (HeldIn wB) := ⟨⟨wB, Below.refl _ _⟩⟩
          clear htt hta htb b0 b1
          refine wp_region_held wB (Below.refl _ _) (by kernel_rfl) (by kernel_rfl) ?_
          repeat (go_big_quiet_step ((go_at_call 11; exact held_of (Htd.out _))))
          refine wpQuiet_nil ?_
          rintro _ ⟨s, rfl⟩
          have hb := ptw hB9 s.h
          have g10 := ptw g9 hb
          have Z10 := hide3 (⟨Z9.out.1.below hb, Z9.out.2.1.below hb, Z9.out.2.2.1.below hb, Z9.out.2.2.2.below hb⟩ : PcAt s.w ao a ∧ PcAt s.w bo b ∧ PcAt s.w co c ∧ PcAt s.w abo ab)
          clear hb hB9 g9 Z9 e0 e1 heq hne Htd hlB hgd
          generalize s.w = w10 at g10 Z10 ⊢
          go_wp2_with fail
          refine (Merge_any _ abo co abc cc ab c _ Z10.out.2.2.2 Z10.out.2.2.1).mono ?_
          rintro e w11 ⟨n11, r11, hP, v11, rfl, ho11, hb⟩
          have HL11 := hide3 (merge_map hP HCab.out HCc.out (.inr (.inr rfl)))
          obtain ⟨hn11, hl11⟩ := map_err HL11.out
          obtain ⟨o11, c11, rfl, z11⟩ := pcAt_of_owns ho11
          have g11 := ptw g10 hb
          have Z11 := hide3 (⟨Z10.out.1.below hb, Z10.out.2.1.below hb, Z10.out.2.2.1.below hb, z11⟩ : PcAt w11 ao a ∧ PcAt w11 bo b ∧ PcAt w11 co c ∧ PcAt w11 o11 r11)
          clear hP ho11 hb g10 Z10 z11
          go_wp2_with fail
          refine (Merge_any _ bo co bc cc b c _ Z11.out.2.1 Z11.out.2.2.1).mono ?_
          rintro e w12 ⟨n12, r12, hP, v12, rfl, ho12, hb⟩
          have HL12 := hide3 (merge_map hP HCb.out HCc.out (.inr (.inr rfl)))
          obtain ⟨hn12, hl12⟩ := map_err HL12.out
          obtain ⟨o12, c12, rfl, z12⟩ := pcAt_of_owns ho12
          have g12 := ptw g11 hb
          have Z12 := hide3 (⟨Z11.out.1.below hb, Z11.out.2.2.2.below hb, z12⟩ : PcAt w12 ao a ∧ PcAt w12 o11 r11 ∧ PcAt w12 o12 r12)
          clear hP ho12 hb g11 Z11 z12
          rcases hn11 with rfl | rfl | rfl
          · rcases hn12 with rfl | rfl | rfl
            · obtain ⟨hc12, ht12⟩ := merge_tel HL12.out
              have HC12 := hide3 hc12
              have HT12 := hide3 ht12
              clear hc12 ht12
              go_wp2_with fail
              refine (Merge_any _ ao o12 ac c12 a r12 _ Z12.out.1 Z12.out.2.2).mono ?_
              rintro e w13 ⟨n13, r13, hP, v13, rfl, ho13, hb⟩
              have HL13 := hide3 (merge_map hP HCa.out HC12.out (.inr (.inr rfl)))
              obtain ⟨hn13, hl13⟩ := map_err HL13.out
              obtain ⟨o13, c13, rfl, z13⟩ := pcAt_of_owns ho13
              have g13 := ptw g12 hb
              have Z13 := hide3 (⟨Z12.out.2.1.below hb, z13⟩ : PcAt w13 o11 r11 ∧ PcAt w13 o13 r13)
              clear hP ho13 hb g12 Z12 z13
              rcases hn13 with rfl | rfl | rfl
              · have he := merge_three HTab.out HT12.out HL11.out HL13.out
                subst he
                go_wp2_with fail
                refine (Equal3_any o11 o13 c11 c13 r11 r11 _ Z13.out.1 Z13.out.2 (by omega)).mono ?_
                rintro e w14 ⟨rfl, hb⟩
                rw [show decide (r11 = r11) = true from by simp]
                have g14 := ptw g13 hb
                clear hb g13 Z13
                go_wp2
                go_ret
                exact ⟨rfl, g14⟩
              · go_wp2
                go_ret
                exact ⟨rfl, g13⟩
              · go_wp2
                go_ret
                exact ⟨rfl, g13⟩
            · go_wp2
              go_ret
              exact ⟨rfl, g12⟩
            · go_wp2
              go_ret
              exact ⟨rfl, g12⟩
          · go_wp2
            go_ret
            exact ⟨rfl, g12⟩
          · go_wp2
            go_ret
            exact ⟨rfl, g12⟩
        | some v =>
          simp only [hxa, hxb, mrg, Option.getD_some, Option.isSome_some, if_true] at hta htb htt
          have hu := hna u hxa
          unfold nearB at hu
          obtain ⟨u1, u2⟩ := hu
          have hv := hnb v hxb
          unfold nearB at hv
          obtain ⟨v1, v2⟩ := hv
          clear hxa hxb hna hnb
          go_wp2_with fail
          refine (hta _ Z7.out.1).mono ?_
          rintro e w8 ⟨rfl, hb⟩
          have g8 := ptw g7 hb
          have Z8 := hide3 (⟨Z7.out.1.below hb, Z7.out.2.1.below hb, Z7.out.2.2.1.below hb, Z7.out.2.2.2.below hb⟩ : PcAt w8 ao a ∧ PcAt w8 bo b ∧ PcAt w8 co c ∧ PcAt w8 abo ab)
          clear g7 Z7 hb
          go_wp2_with fail
          refine (htb _ Z8.out.2.1).mono ?_
          rintro e w9 ⟨rfl, hb⟩
          have g9 := ptw g8 hb
          have Z9 := hide3 (⟨Z8.out.1.below hb, Z8.out.2.1.below hb, Z8.out.2.2.1.below hb, Z8.out.2.2.2.below hb⟩ : PcAt w9 ao a ∧ PcAt w9 bo b ∧ PcAt w9 co c ∧ PcAt w9 abo ab)
          clear g8 Z8 hb
          go_wp2_with fail
          simp only [show both 3 u v = u + v from rfl] at htt
          generalize u + v = V at htt ⊢
          obtain ⟨wB, hwB⟩ : ∃ wB, wB = ((w9.alloc (.cells #[.int .i64 u, .int .i64 1] 32)).alloc (.cells #[.int .i64 v, .int .i64 1] 32)).alloc (.cells #[.int .i64 V, .int .i64 1] 32) := ⟨_, rfl⟩
          rw [← hwB]
          have hB9 : Below w9.heap.size w9 wB := by rw [hwB]; exact ptw (pal _ _) (ptw (pal _ _) (pal _ _))
          have b0 : wB.cell? ⟨w9.heap.size + 1 + 1, 0, none⟩ = some (.int .i64 V) := by rw [hwB, World.cell?_alloc_at _ _ _ _ (by simp)]; rfl
          have b1 : wB.cell? ⟨w9.heap.size + 1 + 1, 1, none⟩ = some (.int .i64 1) := by rw [hwB, World.cell?_alloc_at _ _ _ _ (by simp)]; rfl
          have hlB : w9.heap.size + 1 + 1 < wB.heap.size := World.block_lt_of_cell? wB _ b0
          clear hwB
          have Htd : Hid (∀ s : HeldIn wB, Calls Try.prog 11 #[.slice abo ab.length abc, .int .i64 t] s.w fun e w' => e = .returned (.agg #[.int .i64 V, .int .i64 1]) ∧ Below s.w.heap.size s.w w') := fun s => htt s.w (Z9.out.2.2.2.below (ptw hB9 s.h))
          have e0 : ∀ s : HeldIn wB, s.w.cell? ⟨w9.heap.size + 1 + 1, 0, none⟩ = some (.int .i64 V) := fun s => (s.h.cell (p := ⟨w9.heap.size + 1 + 1, 0, none⟩) hlB).trans b0
          have e1 : ∀ s : HeldIn wB, s.w.cell? ⟨w9.heap.size + 1 + 1, 1, none⟩ = some (.int .i64 1) := fun s => (s.h.cell (p := ⟨w9.heap.size + 1 + 1, 1, none⟩) hlB).trans b1
          have heq : ∀ W : World, (binOp .neq 32 (.agg #[.int .i64 V, .int .i64 1]) (.agg #[.int .i64 V, .int .i64 1])).run Try.prog W = .ok (.bool false) W := fun W => by rw [neq_pair, prB_same]; rfl
          have hgd : Try.prog.eqGuardType Try.prog.depth 32 = false := by kernel_rfl
          have hne : Nonempty (HeldIn wB) := ⟨⟨wB, Below.refl _ _⟩⟩
          clear htt hta htb b0 b1
          refine wp_region_held wB (Below.refl _ _) (by kernel_rfl) (by kernel_rfl) ?_
          repeat (go_big_quiet_step ((go_at_call 11; exact held_of (Htd.out _))))
          refine wpQuiet_nil ?_
          rintro _ ⟨s, rfl⟩
          have hb := ptw hB9 s.h
          have g10 := ptw g9 hb
          have Z10 := hide3 (⟨Z9.out.1.below hb, Z9.out.2.1.below hb, Z9.out.2.2.1.below hb, Z9.out.2.2.2.below hb⟩ : PcAt s.w ao a ∧ PcAt s.w bo b ∧ PcAt s.w co c ∧ PcAt s.w abo ab)
          clear hb hB9 g9 Z9 e0 e1 heq hne Htd hlB hgd
          generalize s.w = w10 at g10 Z10 ⊢
          go_wp2_with fail
          refine (Merge_any _ abo co abc cc ab c _ Z10.out.2.2.2 Z10.out.2.2.1).mono ?_
          rintro e w11 ⟨n11, r11, hP, v11, rfl, ho11, hb⟩
          have HL11 := hide3 (merge_map hP HCab.out HCc.out (.inr (.inr rfl)))
          obtain ⟨hn11, hl11⟩ := map_err HL11.out
          obtain ⟨o11, c11, rfl, z11⟩ := pcAt_of_owns ho11
          have g11 := ptw g10 hb
          have Z11 := hide3 (⟨Z10.out.1.below hb, Z10.out.2.1.below hb, Z10.out.2.2.1.below hb, z11⟩ : PcAt w11 ao a ∧ PcAt w11 bo b ∧ PcAt w11 co c ∧ PcAt w11 o11 r11)
          clear hP ho11 hb g10 Z10 z11
          go_wp2_with fail
          refine (Merge_any _ bo co bc cc b c _ Z11.out.2.1 Z11.out.2.2.1).mono ?_
          rintro e w12 ⟨n12, r12, hP, v12, rfl, ho12, hb⟩
          have HL12 := hide3 (merge_map hP HCb.out HCc.out (.inr (.inr rfl)))
          obtain ⟨hn12, hl12⟩ := map_err HL12.out
          obtain ⟨o12, c12, rfl, z12⟩ := pcAt_of_owns ho12
          have g12 := ptw g11 hb
          have Z12 := hide3 (⟨Z11.out.1.below hb, Z11.out.2.2.2.below hb, z12⟩ : PcAt w12 ao a ∧ PcAt w12 o11 r11 ∧ PcAt w12 o12 r12)
          clear hP ho12 hb g11 Z11 z12
          rcases hn11 with rfl | rfl | rfl
          · rcases hn12 with rfl | rfl | rfl
            · obtain ⟨hc12, ht12⟩ := merge_tel HL12.out
              have HC12 := hide3 hc12
              have HT12 := hide3 ht12
              clear hc12 ht12
              go_wp2_with fail
              refine (Merge_any _ ao o12 ac c12 a r12 _ Z12.out.1 Z12.out.2.2).mono ?_
              rintro e w13 ⟨n13, r13, hP, v13, rfl, ho13, hb⟩
              have HL13 := hide3 (merge_map hP HCa.out HC12.out (.inr (.inr rfl)))
              obtain ⟨hn13, hl13⟩ := map_err HL13.out
              obtain ⟨o13, c13, rfl, z13⟩ := pcAt_of_owns ho13
              have g13 := ptw g12 hb
              have Z13 := hide3 (⟨Z12.out.2.1.below hb, z13⟩ : PcAt w13 o11 r11 ∧ PcAt w13 o13 r13)
              clear hP ho13 hb g12 Z12 z13
              rcases hn13 with rfl | rfl | rfl
              · have he := merge_three HTab.out HT12.out HL11.out HL13.out
                subst he
                go_wp2_with fail
                refine (Equal3_any o11 o13 c11 c13 r11 r11 _ Z13.out.1 Z13.out.2 (by omega)).mono ?_
                rintro e w14 ⟨rfl, hb⟩
                rw [show decide (r11 = r11) = true from by simp]
                have g14 := ptw g13 hb
                clear hb g13 Z13
                go_wp2
                go_ret
                exact ⟨rfl, g14⟩
              · go_wp2
                go_ret
                exact ⟨rfl, g13⟩
              · go_wp2
                go_ret
                exact ⟨rfl, g13⟩
            · go_wp2
              go_ret
              exact ⟨rfl, g12⟩
            · go_wp2
              go_ret
              exact ⟨rfl, g12⟩
          · go_wp2
            go_ret
            exact ⟨rfl, g12⟩
          · go_wp2
            go_ret
            exact ⟨rfl, g12⟩
    · go_wp2
      go_ret
      exact ⟨rfl, g7⟩
    · go_wp2
      go_ret
      exact ⟨rfl, g7⟩

end Go.Proofs.Ytjlnokjaabcldae
