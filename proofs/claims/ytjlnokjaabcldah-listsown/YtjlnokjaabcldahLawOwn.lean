/-
  The walk of the law ListsOwn: it returns true, and nothing that was there is changed.
-/
import Derived.Test.YtjlnokjaabcldahRoom2
import Derived.Test.YtjlnokjaabcldahBegun
import Derived.Test.YtjlnokjaabcldahPPick
import Derived.Test.YtjlnokjaabcldahKeep
namespace Go.Proofs.Ytjlnokjaabcldah
open Go.RowKit

set_option maxHeartbeats 1000000 in
theorem made_own (ao : Option Addr) (cap : Nat) (x : List (Int × Int)) (w : World) (hl : IvAt w ao x) (_hc : x.length ≤ cap) (_hm : cap ≤ 9223372036854775807) :
    Calls Try.prog 6 #[.slice ao x.length cap] w fun e w' => ∃ v A, e = .returned v ∧ A.length ≤ 60 ∧ w'.ownsRow w.heap.size 29 2 v A.length (encs A) ∧ Below w.heap.size w w' := by
  have hN := Norm_own ao cap (x.take 60) w (ivAt_take hl 60)
  have e60 := take60 x
  have H60 : Hid ((min 60 (x.length : Int)).toNat = (x.take 60).length) := e60
  clear e60
  go_enter Try.func6, Try.ntmps6
  go_wp2_with fail
  rw [H60.out]
  refine hN.mono ?_
  rintro e w1 ⟨n, r, hC, v, rfl, ho, hb⟩
  have hM : r.length ≤ 60 := by
    rcases hC with ⟨_, _, rfl⟩ | ⟨_, _, h2⟩
    · simp
    · have := h2.len; have := List.length_take_le 60 x; omega
  have HM := hide3 hM
  clear hM hC hN
  go_wp2
  go_ret
  exact ⟨_, _, rfl, HM.out, ho, hb⟩

theorem ivAt_pre {w : World} {ao : Option Addr} {l m : List (Int × Int)} (h : IvAt w ao (l ++ m)) : IvAt w ao l := by
  have := ivAt_take h l.length
  rwa [List.take_left] at this
theorem pcAt_pre {w : World} {ao : Option Addr} {l m : List (Int × Int × Int)} (h : PcAt w ao (l ++ m)) : PcAt w ao l := by
  have := pcAt_take h l.length
  rwa [List.take_left] at this

/-- where the lists of the law lie -/
structure Lists (w : World) (ga gb gm : Nat) (oA oB oM : Option Addr) (A B : List (Int × Int)) (M : List (Int × Int × Int)) : Prop where
  a : IvAt w (some ⟨ga, 0, none⟩) (A ++ [(7, 7), (7, 7)])
  b : IvAt w (some ⟨gb, 0, none⟩) (B ++ [(7, 7), (7, 7)])
  m : PcAt w (some ⟨gm, 0, none⟩) (M ++ [(0, 0, 7), (0, 0, 7)])
  wa : IvAt w oA A
  wb : IvAt w oB B
  wm : PcAt w oM M
theorem Lists.below {w w' : World} {ga gb gm : Nat} {oA oB oM : Option Addr} {A B : List (Int × Int)} {M : List (Int × Int × Int)} (h : Lists w ga gb gm oA oB oM A B M) (hb : Below w.heap.size w w') : Lists w' ga gb gm oA oB oM A B M :=
  ⟨h.a.below hb, h.b.below hb, h.m.below hb, h.wa.below hb, h.wb.below hb, h.wm.below hb⟩

/-- the functions of a law, in a new block -/
theorem cell_fn3 (w : World) (x y z : Value) (t : TypeId) : (w.alloc (.cells #[x, y, z] t)).cell? ⟨w.heap.size, 0, none⟩ = some x ∧ (w.alloc (.cells #[x, y, z] t)).cell? ⟨w.heap.size, 1, none⟩ = some y ∧ (w.alloc (.cells #[x, y, z] t)).cell? ⟨w.heap.size, 2, none⟩ = some z := by
  refine ⟨?_, ?_, ?_⟩ <;> rw [World.cell?_alloc_at _ _ _ _ rfl] <;> rfl
theorem cell_fn2 (w : World) (x y : Value) (t : TypeId) : (w.alloc (.cells #[x, y] t)).cell? ⟨w.heap.size, 0, none⟩ = some x ∧ (w.alloc (.cells #[x, y] t)).cell? ⟨w.heap.size, 1, none⟩ = some y := by
  refine ⟨?_, ?_⟩ <;> rw [World.cell?_alloc_at _ _ _ _ rfl] <;> rfl

set_option maxRecDepth 100000 in
set_option maxHeartbeats 16000000 in
theorem listsOwn_walk (xo yo lo : Option Addr) (xc yc lc : Nat) (x y : List (Int × Int)) (l : List (Int × Int × Int)) (p : Int × Int × Int) (w : World) (hX : IvAt w xo x) (hY : IvAt w yo y) (hL : PcAt w lo l) (hx : x.length ≤ xc) (hx' : xc ≤ 9223372036854775807) (hy : y.length ≤ yc) (hy' : yc ≤ 9223372036854775807) (hl : l.length ≤ lc) (hl' : lc ≤ 9223372036854775807) :
    Calls Try.prog 3 #[.slice xo x.length xc, .slice yo y.length yc, .slice lo l.length lc, .agg #[.int .i64 p.1, .int .i64 p.2.1, .int .i64 p.2.2]] w fun e w' => e = .returned (.bool true) ∧ Below w.heap.size w w' := by
  obtain ⟨w0, hw0⟩ : ∃ w0, w0 = w.alloc (.cells #[.int .i64 p.1, .int .i64 p.2.1, .int .i64 p.2.2] 25) := ⟨_, rfl⟩
  have B0 : Below w.heap.size w w0 := by rw [hw0]; exact pal _ _
  have HA := hide3 (fun W (h : Below w0.heap.size w0 W) => (⟨(hX.below B0).below h, (hY.below B0).below h, (hL.below B0).below h⟩ : IvAt W xo x ∧ IvAt W yo y ∧ PcAt W lo l))
  have HD : Hid (∀ W, Below w0.heap.size w0 W → W.cell? ⟨w.heap.size, 0, none⟩ = some (.int .i64 p.1) ∧ W.cell? ⟨w.heap.size, 1, none⟩ = some (.int .i64 p.2.1) ∧ W.cell? ⟨w.heap.size, 2, none⟩ = some (.int .i64 p.2.2) ∧ Below w.heap.size w W) := by
    intro W h
    rw [hw0] at h
    refine ⟨(h.cell (p := ⟨w.heap.size, 0, none⟩) (by simp)).trans (by simp), (h.cell (p := ⟨w.heap.size, 1, none⟩) (by simp)).trans (by simp), (h.cell (p := ⟨w.heap.size, 2, none⟩) (by simp)).trans (by simp), ptw (pal _ _) h⟩
  clear hX hY hL B0
  go_enter Try.func3, Try.ntmps3
  go_wp2_with fail
  rw [← hw0]
  clear hw0
  refine (begun_any _).mono ?_
  rintro e w1 ⟨rfl, g1⟩
  go_wp2_with fail
  refine (made_own xo xc x _ (HA.out _ g1).1 hx hx').mono ?_
  rintro e w2 ⟨v2, A, rfl, hAl, ho2, hb⟩
  have g2 := ptw g1 hb
  clear hb g1
  go_wp2_with fail
  refine (roomy2_any v2 _ A (7, 7) _ ho2 (by omega)).mono ?_
  rintro e w3 ⟨ga, ca, rfl, hca, hca', za, hb⟩
  have g3 := ptw g2 hb
  clear hb g2 ho2
  go_wp2_with fail
  refine (made_own yo yc y _ (HA.out _ g3).2.1 hy hy').mono ?_
  rintro e w4 ⟨v4, B, rfl, hBl, ho4, hb⟩
  have g4 := ptw g3 hb
  have za4 := za.below hb
  clear hb g3 za
  go_wp2_with fail
  refine (roomy2_any v4 _ B (7, 7) _ ho4 (by omega)).mono ?_
  rintro e w5 ⟨gb, cb, rfl, hcb, hcb', zb, hb⟩
  have g5 := ptw g4 hb
  have za5 := za4.below hb
  clear hb g4 ho4 za4
  go_wp2_with fail
  refine (built_any lo lc l _ (HA.out _ g5).2.2 hl hl').mono ?_
  rintro e w6 ⟨v6, M, rfl, hB, ho6, hb⟩
  obtain ⟨T, hT, hM⟩ := built_of hB
  have hml := hM.len
  have g6 := ptw g5 hb
  have za6 := za5.below hb
  have zb6 := zb.below hb
  clear hb g5 za5 zb hB hM
  go_wp2_with fail
  refine (roomy3_any v6 _ M (0, 0, 7) _ ho6 (by omega)).mono ?_
  rintro e w7 ⟨gm, cm, rfl, hcm, hcm', zm, hb⟩
  have g7 := ptw g6 hb
  have za7 := za6.below hb
  have zb7 := zb6.below hb
  clear hb g6 za6 zb6 ho6 HA
  go_wp2_with fail
  refine (clone2_any ga ca A _ _ za7 (by omega)).mono ?_
  rintro e w8 ⟨v8, rfl, ho8, hb⟩
  obtain ⟨oA, cA, rfl, zA⟩ := ivAt_of_owns ho8
  have g8 := ptw g7 hb
  have za8 := za7.below hb
  have zb8 := zb7.below hb
  have zm8 := zm.below hb
  clear hb g7 za7 zb7 zm ho8
  go_wp2_with fail
  refine (clone2_any gb cb B _ _ zb8 (by omega)).mono ?_
  rintro e w9 ⟨v9, rfl, ho9, hb⟩
  obtain ⟨oB, cB, rfl, zB⟩ := ivAt_of_owns ho9
  have g9 := ptw g8 hb
  have za9 := za8.below hb
  have zb9 := zb8.below hb
  have zm9 := zm8.below hb
  have zA9 := zA.below hb
  clear hb g8 za8 zb8 zm8 zA ho9
  go_wp2_with fail
  refine (clone3_any gm cm M _ _ zm9 (by omega)).mono ?_
  rintro e w10 ⟨v10, rfl, ho10, hb⟩
  obtain ⟨oM, cM, rfl, zM⟩ := pcAt_of_owns ho10
  have g10 := ptw g9 hb
  have Z10 := hide3 (⟨za9.below hb, zb9.below hb, zm9.below hb, zA9.below hb, zB.below hb, zM⟩ : Lists w10 ga gb gm oA oB oM A B M)
  clear hb g9 za9 zb9 zm9 zA9 zB zM ho10
  go_wp2_with fail
  obtain ⟨wF, hwF⟩ : ∃ wF, wF = w10.alloc (.cells #[.func (.func 11) #[] #[], .func (.func 12) #[] #[], .func (.func 13) #[] #[]] 33) := ⟨_, rfl⟩
  rw [← hwF]
  obtain ⟨f0, f1, f2⟩ := cell_fn3 w10 (.func (.func 11) #[] #[]) (.func (.func 12) #[] #[]) (.func (.func 13) #[] #[]) 33
  rw [← hwF] at f0 f1 f2
  have hF : Below w10.heap.size w10 wF := by rw [hwF]; exact pal _ _
  have hFl : w10.heap.size < wF.heap.size := World.block_lt_of_cell? wF _ f0
  have gF := ptw g10 hF
  have ZF := hide3 (Z10.out.below hF)
  clear hwF g10 Z10 hF
  go_loopw [51] (fun i wr => ∃ k : Nat, k ≤ 3 ∧ i = .int .i64 k ∧ Below wF.heap.size wF wr) (fun i _ => 3 - (intOf i).toNat)
  case atStart => exact ⟨0, Nat.zero_le _, rfl, Below.refl _ _⟩
  case round =>
    obtain ⟨k, hk, rfl, hb⟩ := hrel
    by_cases hlt : k < 3
    · rcases (show k = 0 ∨ k = 1 ∨ k = 2 by omega) with rfl | rfl | rfl
      · have cf := (hb.cell (p := ⟨w10.heap.size, 0, none⟩) hFl).trans f0
        have Zr := ZF.out.below hb
        have h1 := Union_own (some ⟨ga, 0, none⟩) (some ⟨gb, 0, none⟩) ca cb A B wr (ivAt_pre Zr.a) (ivAt_pre Zr.b)
        clear Zr
        go_wp2_with fail
        refine h1.mono ?_
        rintro e wa ⟨n, r, hC, v, rfl, ho, hba⟩
        have h2 := spoil2_any wr.heap.size v _ _ (1, 0) wa ho hba.size
        clear hC ho
        go_wp2_with fail
        refine h2.mono ?_
        rintro e wb ⟨rfl, hbb⟩
        have hb' : Below wF.heap.size wF wb := hb.trans ((hba.trans hbb).mono hb.size)
        clear hba hbb h1 h2 cf hb
        go_wp2
        go_roundw
        case rel => exact ⟨0 + 1, by omega, by go_num, hb'⟩
        case measure => simp [intOf]
      · have cf := (hb.cell (p := ⟨w10.heap.size, 1, none⟩) hFl).trans f1
        have Zr := ZF.out.below hb
        have h1 := Meet_own (some ⟨ga, 0, none⟩) (some ⟨gb, 0, none⟩) ca cb A B wr (ivAt_pre Zr.a) (ivAt_pre Zr.b)
        clear Zr
        go_wp2_with fail
        refine h1.mono ?_
        rintro e wa ⟨n, r, hC, v, rfl, ho, hba⟩
        have h2 := spoil2_any wr.heap.size v _ _ (1, 0) wa ho hba.size
        clear hC ho
        go_wp2_with fail
        refine h2.mono ?_
        rintro e wb ⟨rfl, hbb⟩
        have hb' : Below wF.heap.size wF wb := hb.trans ((hba.trans hbb).mono hb.size)
        clear hba hbb h1 h2 cf hb
        go_wp2
        go_roundw
        case rel => exact ⟨1 + 1, by omega, by go_num, hb'⟩
        case measure => simp [intOf]
      · have cf := (hb.cell (p := ⟨w10.heap.size, 2, none⟩) hFl).trans f2
        have Zr := ZF.out.below hb
        have h1 := Minus_own (some ⟨ga, 0, none⟩) (some ⟨gb, 0, none⟩) ca cb A B wr (ivAt_pre Zr.a) (ivAt_pre Zr.b)
        clear Zr
        go_wp2_with fail
        refine h1.mono ?_
        rintro e wa ⟨n, r, hC, v, rfl, ho, hba⟩
        have h2 := spoil2_any wr.heap.size v _ _ (1, 0) wa ho hba.size
        clear hC ho
        go_wp2_with fail
        refine h2.mono ?_
        rintro e wb ⟨rfl, hbb⟩
        have hb' : Below wF.heap.size wF wb := hb.trans ((hba.trans hbb).mono hb.size)
        clear hba hbb h1 h2 cf hb
        go_wp2
        go_roundw
        case rel => exact ⟨2 + 1, by omega, by go_num, hb'⟩
        case measure => simp [intOf]
    · have hkl : k = 3 := by omega
      subst hkl
      have gG := ptw gF hb
      have ZG := hide3 (ZF.out.below hb)
      have h1 := Norm_own (some ⟨ga, 0, none⟩) ca A wr (ivAt_pre ZG.out.a)
      clear hb gF ZF f0 f1 f2 hFl
      go_wp2_with fail
      refine h1.mono ?_
      rintro e wa ⟨n, r, hC, v, rfl, ho, hba⟩
      have h2 := spoil2_any wr.heap.size v _ _ (2, 0) wa ho hba.size
      clear hC ho
      go_wp2_with fail
      refine h2.mono ?_
      rintro e wb ⟨rfl, hbb⟩
      have hb' : Below wr.heap.size wr wb := hba.trans hbb
      have gH := ptw gG hb'
      have ZH := hide3 (ZG.out.below hb')
      clear hba hbb h1 h2 gG ZG hb'
      go_wp2_with fail
      obtain ⟨wI, hwI⟩ : ∃ wI, wI = wb.alloc (.cells #[.func (.func 16) #[] #[], .func (.func 17) #[] #[]] 39) := ⟨_, rfl⟩
      rw [← hwI]
      obtain ⟨f0, f1⟩ := cell_fn2 wb (.func (.func 16) #[] #[]) (.func (.func 17) #[] #[]) 39
      rw [← hwI] at f0 f1
      have hI : Below wb.heap.size wb wI := by rw [hwI]; exact pal _ _
      have hIl : wb.heap.size < wI.heap.size := World.block_lt_of_cell? wI _ f0
      have gI := ptw gH hI
      have ZI := hide3 (ZH.out.below hI)
      clear hwI gH ZH hI
      go_loopw [76] (fun i wr => ∃ k : Nat, k ≤ 2 ∧ i = .int .i64 k ∧ Below wI.heap.size wI wr) (fun i _ => 2 - (intOf i).toNat)
      case atStart => exact ⟨0, Nat.zero_le _, rfl, Below.refl _ _⟩
      case round =>
        obtain ⟨k, hk, rfl, hb⟩ := hrel
        by_cases hlt : k < 2
        · rcases (show k = 0 ∨ k = 1 by omega) with rfl | rfl
          · have cf := (hb.cell (p := ⟨wb.heap.size, 0, none⟩) hIl).trans f0
            have Zr := ZI.out.below hb
            have h1 := Cut_any (some ⟨gm, 0, none⟩) (some ⟨ga, 0, none⟩) cm ca M A wr (pcAt_pre Zr.m) (ivAt_pre Zr.a)
            clear Zr
            go_wp2_with fail
            refine h1.mono ?_
            rintro e wc ⟨n', r', hC, v', rfl, ho, hba⟩
            have h2 := spoil3_any wr.heap.size v' _ _ (3, 0, 0) wc ho hba.size
            clear hC ho
            go_wp2_with fail
            refine h2.mono ?_
            rintro e wd ⟨rfl, hbb⟩
            have hb' : Below wI.heap.size wI wd := hb.trans ((hba.trans hbb).mono hb.size)
            clear hba hbb h1 h2 cf hb
            go_wp2
            go_roundw
            case rel => exact ⟨0 + 1, by omega, by go_num, hb'⟩
            case measure => simp [intOf]
          · have cf := (hb.cell (p := ⟨wb.heap.size, 1, none⟩) hIl).trans f1
            have Zr := ZI.out.below hb
            have h1 := Keep_any (some ⟨gm, 0, none⟩) (some ⟨ga, 0, none⟩) cm ca M A wr (pcAt_pre Zr.m) (ivAt_pre Zr.a)
            clear Zr
            go_wp2_with fail
            refine h1.mono ?_
            rintro e wc ⟨n', r', hC, v', rfl, ho, hba⟩
            have h2 := spoil3_any wr.heap.size v' _ _ (3, 0, 0) wc ho hba.size
            clear hC ho
            go_wp2_with fail
            refine h2.mono ?_
            rintro e wd ⟨rfl, hbb⟩
            have hb' : Below wI.heap.size wI wd := hb.trans ((hba.trans hbb).mono hb.size)
            clear hba hbb h1 h2 cf hb
            go_wp2
            go_roundw
            case rel => exact ⟨1 + 1, by omega, by go_num, hb'⟩
            case measure => simp [intOf]
        · have hkl : k = 2 := by omega
          subst hkl
          have gJ := ptw gI hb
          have ZJ := hide3 (ZI.out.below hb)
          have h1 := Put_any (some ⟨gm, 0, none⟩) cm M p wr (pcAt_pre ZJ.out.m)
          obtain ⟨d0, d1, d2, _⟩ := HD.out _ gJ
          clear hb gI ZI f0 f1 hIl
          go_wp2_with fail
          refine h1.mono ?_
          rintro e wc ⟨n', r', hC, v', rfl, ho, hba⟩
          have h2 := spoil3_any wr.heap.size v' _ _ (4, 0, 0) wc ho hba.size
          clear hC ho d0 d1 d2
          go_wp2_with fail
          refine h2.mono ?_
          rintro e wd ⟨rfl, hbb⟩
          have hb' : Below wr.heap.size wr wd := hba.trans hbb
          have gK := ptw gJ hb'
          have ZK := hide3 (ZJ.out.below hb')
          have h3 := Merge_any 1 (some ⟨gm, 0, none⟩) (some ⟨gm, 0, none⟩) cm cm M M wd (pcAt_pre ZK.out.m) (pcAt_pre ZK.out.m)
          clear hba hbb h1 h2 gJ ZJ hb'
          go_wp2_with fail
          refine h3.mono ?_
          rintro e we ⟨n'', r'', hC, v'', rfl, ho, hba⟩
          have h2 := spoil3_any wd.heap.size v'' _ _ (5, 0, 0) we ho hba.size
          clear hC ho
          go_wp2_with fail
          refine h2.mono ?_
          rintro e wf ⟨rfl, hbb⟩
          have hb' : Below wd.heap.size wd wf := hba.trans hbb
          have gL := ptw gK hb'
          have ZL := hide3 (ZK.out.below hb')
          clear hba hbb h3 h2 gK ZK hb'
          go_wp2_with fail
          refine (Equal_any (some ⟨ga, 0, none⟩) oA ca cA A A _ (ivAt_pre ZL.out.a) ZL.out.wa (by omega)).mono ?_
          rintro e wg ⟨rfl, hb⟩
          rw [show decide (A = A) = true from by simp]
          have gM := ptw gL hb
          have ZM := hide3 (ZL.out.below hb)
          clear hb gL ZL
          go_wp2_with fail
          refine (Equal_any (some ⟨gb, 0, none⟩) oB cb cB B B _ (ivAt_pre ZM.out.b) ZM.out.wb (by omega)).mono ?_
          rintro e wh ⟨rfl, hb⟩
          rw [show decide (B = B) = true from by simp]
          have gN := ptw gM hb
          have ZN := hide3 (ZM.out.below hb)
          clear hb gM ZM
          go_wp2_with fail
          refine (Equal3_any (some ⟨gm, 0, none⟩) oM cm cM M M _ (pcAt_pre ZN.out.m) ZN.out.wm (by omega)).mono ?_
          rintro e wi ⟨rfl, hb⟩
          rw [show decide (M = M) = true from by simp]
          have gO := ptw gN hb
          have ZO := hide3 (ZN.out.below hb)
          clear hb gN ZN
          go_wp2_with fail
          refine (kept2_any ga ca A (7, 7) _ ZO.out.a (by omega) hca).mono ?_
          rintro e wj ⟨rfl, hb⟩
          have gP := ptw gO hb
          have ZP := hide3 (ZO.out.below hb)
          clear hb gO ZO
          go_wp2_with fail
          refine (kept2_any gb cb B (7, 7) _ ZP.out.b (by omega) hcb).mono ?_
          rintro e wk ⟨rfl, hb⟩
          have gQ := ptw gP hb
          have ZQ := hide3 (ZP.out.below hb)
          clear hb gP ZP
          go_wp2_with fail
          refine (kept3_any gm cm M (0, 0, 7) _ ZQ.out.m (by omega) hcm).mono ?_
          rintro e wl ⟨rfl, hb⟩
          have hbF := (HD.out _ (ptw gQ hb)).2.2.2
          clear hb gQ ZQ
          go_wp2
          go_ret
          exact ⟨rfl, hbF⟩

end Go.Proofs.Ytjlnokjaabcldah
