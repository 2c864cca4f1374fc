/-
  The walk of the law WarpCovers: it returns true, and nothing that was there is changed.
-/
import Derived.Test.YtjlnokjaabcldaeCtM
import Derived.Test.YtjlnokjaabcldaeEqC
import Derived.Test.YtjlnokjaabcldaeBegun
namespace Go.Proofs.Ytjlnokjaabcldae
open Go.RowKit

theorem exC_ans : CellsAns [(0, 5, 3)] [(3, 8, 9)] 1 0 exC :=
  .inr (.inr ⟨mchk_ok (by simp) (by intro i hi; have : i = 0 := by simpa using hi
                                    subst this; simp [Sound, NearP, nearB]), by
    have : lchk [(3, 8, 9)] = 0 := lchk_ok (by simp) (by simp [GoodM, NearP, nearB])
    unfold cbChk; rw [this]; rfl, exC_is⟩)
theorem foldAns_zero {l : List (Int × Int × Int)} {how : Int} {r : List (Int × Int × Int)} (h : FoldAns l how 0 r) : mchk r = 0 ∧ ∀ t, tel r t = mix how l t := by
  rcases h with ⟨h0, h1, _⟩ | ⟨_, h⟩
  · exact absurd h1.symm h0
  · exact mapIs_zero h fun S hS => mix_turns fun x hx => (hS x).2 hx
theorem foldAns_bad {l : List (Int × Int × Int)} {how n : Int} {r : List (Int × Int × Int)} (h : FoldAns l how n r) (hn : n ≠ 0) : r = [] := by
  rcases h with ⟨_, _, h⟩ | ⟨_, h⟩
  · exact h
  · exact mapIs_err h hn
theorem cellsAns_bad {m l : List (Int × Int × Int)} {how n : Int} {r : List Cl} (h : CellsAns m l how n r) (hn : n ≠ 0) : r = [] := by
  rcases h with ⟨_, _, h⟩ | ⟨_, _, _, h⟩ | ⟨_, _, S, _, h⟩
  · exact h
  · exact h
  · rcases h with ⟨_, _, h⟩ | ⟨_, _, _, h⟩ | ⟨_, _, h, _⟩
    · exact h
    · exact h
    · exact absurd h hn
theorem cellsAns_zero {m l : List (Int × Int × Int)} {how : Int} {r : List Cl} (h : CellsAns m l how 0 r) : cbChk l how = 0 ∧ ∃ S, Ordered (turnsOf m ++ turnsOf l) S ∧ r = cellsTo m l how S (S.length - 1) ∧ r.length ≤ 200 := by
  rcases h with ⟨h0, h1, _⟩ | ⟨_, h0, h1, _⟩ | ⟨_, hc, S, hO, h⟩
  · exact absurd h1.symm h0
  · exact absurd h1.symm h0
  · refine ⟨hc, S, hO, ?_⟩
    rcases h with ⟨_, h, _⟩ | ⟨_, _, h, _⟩ | ⟨_, h1, _, h⟩
    · cases h
    · cases h
    · exact ⟨h, by rw [h]; exact h1⟩

/-- what the walk of the cells needs to know of them -/
structure CovC (st l : List (Int × Int × Int)) (how t : Int) (r : List Cl) : Prop where
  pos : ∀ c ∈ r, c.1 < c.2.1
  next : ∀ k, ∀ h : k + 1 < r.length, r[k].2.1 ≤ r[k + 1].1
  at' : ∀ c ∈ r, inC t c = true → c.2.2.1 = (tel st t).getD 0 ∧ c.2.2.2.1 = (tel st t).isSome ∧ mix how l t = some c.2.2.2.2
  all : cn t r = if (mix how l t).isSome = true then 1 else 0
theorem covC_of {st l : List (Int × Int × Int)} {how t : Int} {r : List Cl} (h : CellsAns st l how 0 r) : CovC st l how t r := by
  obtain ⟨_, S, hO, rfl, _⟩ := cellsAns_zero h
  have hi : S.length - 1 + 1 ≤ S.length ∨ S.length - 1 = 0 := by omega
  exact ⟨fun c hc => (cells_low hO.inc hi c hc).1, fun k hk => cells_next hO.inc hi hk, fun c hc ht => cells_at hO hi hc ht, cn_all hO t⟩

set_option maxRecDepth 100000 in
set_option maxHeartbeats 8000000 in
theorem warpCovers_walk (ao bo : Option Addr) (ca cb : Nat) (l : List (Int × Int × Int)) (ms : List (Int × Int × Int)) (how t : Int) (w : World) (hA : PcAt w ao l) (hB : PcAt w bo ms) (hc : l.length ≤ ca) (hm : ca ≤ 9223372036854775807) :
    Calls Try.prog 5 #[.slice ao l.length ca, .slice bo ms.length cb, .int .i64 how, .int .i64 t] w fun e w' => e = .returned (.bool true) ∧ Below w.heap.size w w' := by
  have HA := hideW hA
  have HB := hideW hB
  clear hA hB
  obtain ⟨w0, hw0⟩ : ∃ x, x = w.alloc (.cells #[.int .i64 t] 3) := ⟨_, rfl⟩
  have B0 : Below w.heap.size w w0 := by rw [hw0]; exact pal w _
  have t0 : w0.cell? ⟨w.heap.size, 0, none⟩ = some (.int .i64 t) := by rw [hw0]; simp
  have hs0 : w0.heap.size = w.heap.size + 1 := by rw [hw0]; simp
  have hlt0 : w.heap.size < w0.heap.size := World.block_lt_of_cell? w0 _ t0
  have HT := hideW (fun W (h : Below w0.heap.size w0 W) => (⟨(h.cell (p := ⟨w.heap.size, 0, none⟩) hlt0).trans t0, ptw B0 h⟩ : W.cell? ⟨w.heap.size, 0, none⟩ = some (.int .i64 t) ∧ Below w.heap.size w W))
  go_enter Try.func5, Try.ntmps5
  go_wp2_with fail
  rw [← hw0]
  clear hw0 B0 t0
  have hx1 : PcAt ((w0.alloc (.cells #[.int .i64 0, .int .i64 5, .int .i64 3] 31)).alloc (.cells #[.int .i64 3, .int .i64 8, .int .i64 9] 55)) (some ⟨w.heap.size + 1, 0, none⟩) [(0, 5, 3)] := (pcAt_new (by rw [hs0]) rfl).below (pal _ _)
  have hx2 : PcAt ((w0.alloc (.cells #[.int .i64 0, .int .i64 5, .int .i64 3] 31)).alloc (.cells #[.int .i64 3, .int .i64 8, .int .i64 9] 55)) (some ⟨w.heap.size + 1 + 1, 0, none⟩) [(3, 8, 9)] := pcAt_new (by simp [hs0]) rfl
  have hb00 := ptw (pal w0 (.cells #[.int .i64 0, .int .i64 5, .int .i64 3] 31)) (pal _ (.cells #[.int .i64 3, .int .i64 8, .int .i64 9] 55))
  refine (Cells_any _ _ 1 1 [(0, 5, 3)] [(3, 8, 9)] 1 _ hx1 hx2).mono ?_
  rintro e w1 ⟨n1, r1, hC1, v1, rfl, ho1, hb1⟩
  obtain ⟨rfl, rfl⟩ := cellsAns_unique exC_ans hC1
  obtain ⟨xo, xc, rfl, hz1⟩ := ceAt_of_owns ho1
  have g1 := ptw hb00 hb1
  clear hC1 ho1 hb1 hx1 hx2 hb00
  have hq := fun o => EqualC_any xo (some ⟨w1.heap.size, 0, none⟩) xc 2 exC exC (w1.alloc (.cells #[.int .i64 3, .int .i64 5, .int .i64 3, .bool true, .int .i64 9, .int .i64 5, .int .i64 8, .int .i64 0, .bool false, .int .i64 9] o)) (hz1.below (pal _ _)) (ceAt_new rfl rfl) (by simp [exC])
  rw [show decide (exC = exC) = true from by simp] at hq
  have hle : exC.length = 2 := rfl
  rw [hle] at hq ⊢
  have HP1 := hideW (pal w1)
  clear hz1 hle
  go_wp2_with fail
  refine (hq _).mono ?_
  rintro e w2 ⟨rfl, hb2⟩
  have g2 := ptw (ptw g1 (HP1.out _)) hb2
  clear hq hb2 g1 HP1
  go_wp2_with fail
  refine (built_any ao ca l w2 (HA.out.below (HT.out w2 g2).2) hc hm).mono ?_
  rintro e w3 ⟨v3, st, rfl, hB3, ho3, hb3⟩
  obtain ⟨T, hT80, hMO⟩ := built_of hB3
  have hst0 := MOf.chk hMO (by omega)
  obtain ⟨so, sc, rfl, hz3⟩ := pcAt_of_owns ho3
  have hstl : st.length ≤ 80 := by have := hMO.len; omega
  have g3 := ptw g2 hb3
  clear hB3 ho3 hb3 g2 hMO hT80
  go_wp2_with fail
  refine (Cells_any so bo sc cb st ms how w3 hz3 (HB.out.below (HT.out w3 g3).2)).mono ?_
  rintro e w4 ⟨n4, r4, hC4, v4, rfl, ho4, hb4⟩
  have HC4 := hideW hC4
  obtain ⟨ro, rc, rfl, hz4⟩ := ceAt_of_owns ho4
  have g4 := ptw g3 hb4
  have hz3' := hz3.below hb4
  clear ho4 hb4 hz3 g3 hC4
  go_wp2_with fail
  refine (Fold_any bo cb ms how w4 (HB.out.below (HT.out w4 g4).2)).mono ?_
  rintro e w5 ⟨n5, r5, hF5, v5, rfl, ho5, hb5⟩
  have HF5 := hideW hF5
  obtain ⟨fo, fc, rfl, hz5⟩ := pcAt_of_owns ho5
  have g5 := ptw g4 hb5
  have HZS := hideW (hz3'.below hb5)
  have HZR := hideW (hz4.below hb5)
  have HZF := hideW hz5
  clear ho5 hb5 g4 hF5 hz3' hz4 hz5
  by_cases e4 : n4 = 0
  case neg =>
    have hr := cellsAns_bad HC4.out e4
    subst hr
    have d4 : (n4 != 0) = true := by simpa using e4
    have hbF := (HT.out w5 g5).2
    clear HC4 HF5 HZS HZR HZF e4
    generalize r5.length = k5
    simp only [List.length_nil]
    go_wp2
    go_ret
    exact ⟨by first | rfl | simp, hbF⟩
  by_cases e5 : n5 = 0
  case neg =>
    have hr := foldAns_bad HF5.out e5
    subst hr
    have d5 : (n5 != 0) = true := by simpa using e5
    have hbF := (HT.out w5 g5).2
    subst e4
    clear HC4 HF5 HZS HZR HZF e5
    generalize hk4 : r4.length = k4
    have hd : decide ((k4 : Int) = 0) = true ∨ decide ((k4 : Int) = 0) = false := by cases decide ((k4 : Int) = 0) <;> simp
    clear hk4
    simp only [List.length_nil]
    go_wp2
    all_goals go_ret
    all_goals exact ⟨by first | rfl | simp, hbF⟩
  subst e4
  subst e5
  have HCV := hideW (covC_of (t := t) HC4.out)
  obtain ⟨hcb, hS⟩ := cellsAns_zero HC4.out
  have hr200 : r4.length ≤ 200 := by obtain ⟨S, _, _, h⟩ := hS; exact h
  clear hS
  obtain ⟨hm200, _, _, _⟩ := cbChk_good hcb
  have HFZ := hideW (foldAns_zero HF5.out)
  have hf200 : r5.length ≤ 200 := by
    rcases mchk_cases r5 with e | e | ⟨_, e, _⟩
    · rw [HFZ.out.1] at e; cases e
    · rw [HFZ.out.1] at e; cases e
    · exact e
  have hmf : ∀ (fn : Fn) (first cap : Array Value) (w : World), (Instr.makeFunc fn first cap).run Try.prog w = .ok (.func fn first cap) w := fun _ _ _ _ => rfl
  have hct := containsMsg_any 25 #[.pointer (some ⟨w.heap.size, 0, none⟩)] (fun p => inP p t) (enters_of Try.func25 (by kernel_rfl) rfl) bo cb ms w5 (HB.out.below (HT.out w5 g5).2) hm200 (fun p _ wq hq => covers1_any w.heap.size t p wq (HT.out wq (ptw g5 hq)).1)
  rw [mix_any how ms t] at hct
  clear HC4 HF5 hcb
  go_wp2_with fail
  refine hct.mono ?_
  rintro e w6 ⟨rfl, hb6⟩
  have g6 := ptw g5 hb6
  have HZS6 := hideW (HZS.out.below hb6)
  have HZR6 := hideW (HZR.out.below hb6)
  have HZF6 := hideW (HZF.out.below hb6)
  clear hct hb6 g5 HZS HZR HZF
  go_wp2_with fail
  go_loopw [17, 74] (fun nv vi wr => ∃ k : Nat, k ≤ r4.length ∧ vi = .int .i64 k ∧ nv = .int .i64 (cn t (r4.take k) : Nat) ∧ Below w6.heap.size w6 wr) (fun _ vi _ => r4.length - (intOf vi).toNat)
  case atStart => exact ⟨0, Nat.zero_le _, rfl, rfl, Below.refl _ _⟩
  case round =>
    obtain ⟨k, hk, rfl, rfl, hb⟩ := hrel
    have hcle := cn_le t r4 k
    have g := ptw g6 hb
    by_cases hlt : k < r4.length
    · rcases HZR6.out.below hb with h0 | ⟨b, off, rfl, hbw, hcc⟩
      · subst h0; simp at hlt
      obtain ⟨c0, c1, c2, c3, c4⟩ := CeAt.get hlt hcc
      have hpos := HCV.out.pos r4[k] (List.getElem_mem hlt)
      have d2 : decide (r4[k].2.1 ≤ r4[k].1) = false := by simp; omega
      by_cases hk0 : k = 0
      · subst hk0
        rw [List.take_zero, show cn t ([] : List Cl) = 0 from rfl]
        simp only [Nat.zero_mul, Nat.add_zero] at c0 c1 c2 c3 c4
        clear hcc hpos
        go_wp2_with fail
        obtain ⟨w7, hw7⟩ : ∃ x, x = wr.alloc (.cells #[.int .i64 r4[0].1, .int .i64 r4[0].2.1, .int .i64 r4[0].2.2.1, .bool r4[0].2.2.2.1, .int .i64 r4[0].2.2.2.2] 58) := ⟨_, rfl⟩
        rw [← hw7]
        have cB0 : w7.cell? ⟨wr.heap.size, 0, none⟩ = some (.int .i64 r4[0].1) := by rw [hw7]; simp
        have cB1 : w7.cell? ⟨wr.heap.size, 1, none⟩ = some (.int .i64 r4[0].2.1) := by rw [hw7]; simp
        have cB2 : w7.cell? ⟨wr.heap.size, 2, none⟩ = some (.int .i64 r4[0].2.2.1) := by rw [hw7]; simp
        have cB3 : w7.cell? ⟨wr.heap.size, 3, none⟩ = some (.bool r4[0].2.2.2.1) := by rw [hw7]; simp
        have cB4 : w7.cell? ⟨wr.heap.size, 4, none⟩ = some (.int .i64 r4[0].2.2.2.2) := by rw [hw7]; simp
        have B7 : Below wr.heap.size wr w7 := by rw [hw7]; exact pal wr _
        have ct7 := (HT.out w7 (ptw g B7)).1
        clear c0 c1 c2 c3 c4
        have HF : Hid (∀ n, (((w7.drewN n).cell? ⟨wr.heap.size, 0, none⟩ = some (.int .i64 r4[0].1) ∧ (w7.drewN n).cell? ⟨wr.heap.size, 1, none⟩ = some (.int .i64 r4[0].2.1) ∧ (w7.drewN n).cell? ⟨wr.heap.size, 2, none⟩ = some (.int .i64 r4[0].2.2.1) ∧ (w7.drewN n).cell? ⟨wr.heap.size, 3, none⟩ = some (.bool r4[0].2.2.2.1) ∧ (w7.drewN n).cell? ⟨wr.heap.size, 4, none⟩ = some (.int .i64 r4[0].2.2.2.2)) ∧ Below wr.heap.size wr (w7.drewN n))) := fun n => ⟨⟨cB0, cB1, cB2, cB3, cB4⟩, below_drewN B7 n⟩
        clear hw7 B7
        go_quiet (fail)
        have F := HF.out nq
        generalize w7.drewN nq = wq at F ⊢
        clear cB0 cB1 cB2 cB3 cB4 ct7 HF
        obtain ⟨⟨cB0, cB1, cB2, cB3, cB4⟩, B9⟩ := F
        have g9 := ptw g B9
        obtain ⟨ctq, _⟩ := HT.out wq g9
        have B69 := ptw hb B9
        have hBlt := World.block_lt_of_cell? wq _ cB0
        by_cases q1 : r4[0].1 ≤ t
        · by_cases q2 : t < r4[0].2.1
          · have hin : inC t r4[0] = true := (inC_iff _ _).2 ⟨q1, q2⟩
            have HCn := hideW (cn_take_yes hlt hin)
            obtain ⟨a1, a2, a3⟩ := HCV.out.at' r4[0] (List.getElem_mem hlt) hin
            have HA3 := hideW a3
            rw [a1] at cB2
            rw [a2] at cB3
            have hAt := PAt_any so sc st t wq (HZS6.out.below B69) (by omega)
            clear a1 a2 a3 hin
            go_wp2_with fail
            refine hAt.mono ?_
            rintro e w10 ⟨rfl, hb10⟩
            have HK := hideW (fun W (h : Below wq.heap.size wq W) => (⟨(h.cell (p := ⟨wr.heap.size, 2, none⟩) hBlt).trans cB2, (h.cell (p := ⟨wr.heap.size, 3, none⟩) hBlt).trans cB3, (h.cell (p := ⟨wr.heap.size, 4, none⟩) hBlt).trans cB4, (HT.out W (ptw g9 h)).1⟩ : W.cell? ⟨wr.heap.size, 2, none⟩ = some (.int .i64 ((tel st t).getD 0)) ∧ W.cell? ⟨wr.heap.size, 3, none⟩ = some (.bool (tel st t).isSome) ∧ W.cell? ⟨wr.heap.size, 4, none⟩ = some (.int .i64 r4[0].2.2.2.2) ∧ W.cell? ⟨w.heap.size, 0, none⟩ = some (.int .i64 t)))
            have f2 : ∀ s : HeldIn w10, s.w.cell? ⟨wr.heap.size, 2, none⟩ = some (.int .i64 ((tel st t).getD 0)) := fun s => (HK.out _ (ptw hb10 s.h)).1
            have f3 : ∀ s : HeldIn w10, s.w.cell? ⟨wr.heap.size, 3, none⟩ = some (.bool (tel st t).isSome) := fun s => (HK.out _ (ptw hb10 s.h)).2.1
            have f4 : ∀ s : HeldIn w10, s.w.cell? ⟨wr.heap.size, 4, none⟩ = some (.int .i64 r4[0].2.2.2.2) := fun s => (HK.out _ (ptw hb10 s.h)).2.2.1
            have f5 : ∀ s : HeldIn w10, s.w.cell? ⟨w.heap.size, 0, none⟩ = some (.int .i64 t) := fun s => (HK.out _ (ptw hb10 s.h)).2.2.2
            have Htd : Hid (∀ s : HeldIn w10, Calls Try.prog 11 #[.slice fo r5.length fc, .int .i64 t] s.w fun e w' => e = .returned (.agg #[.int .i64 r4[0].2.2.2.2, .int .i64 1]) ∧ Below s.w.heap.size s.w w') := by
              intro s
              have h := told_any fo fc r5 t s.w (HZF6.out.below (ptw B69 (ptw hb10 s.h))) (by omega)
              rw [HFZ.out.2, HA3.out] at h
              exact h
            have hnq : ∀ W : World, (binOp .neq 32 (.agg #[.int .i64 r4[0].2.2.2.2, .int .i64 1]) (.agg #[.int .i64 r4[0].2.2.2.2, .int .i64 1])).run Try.prog W = .ok (.bool false) W := fun W => by rw [neq_pair, prB_same]; rfl
            have hgd : Try.prog.eqGuardType Try.prog.depth 32 = false := by kernel_rfl
            have hne : Nonempty (HeldIn w10) := ⟨⟨w10, Below.refl _ _⟩⟩
            have HBX := hideW (fun (s : HeldIn w10) => ptw B69 (ptw hb10 s.h))
            generalize (tel st t).getD 0 = tv at *
            generalize (tel st t).isSome = tb at *
            generalize r4[0].2.2.2.2 = cv at *
            clear hAt hb10 cB0 cB1 cB2 cB3 cB4 ctq HK B69 B9 g9
            go_wp2_with fail
            refine wp_region_held w10 (Below.refl _ _) (by kernel_rfl) (by kernel_rfl) ?_
            repeat (go_big_quiet_step ((go_at_call 11; exact held_of (Htd.out _))))
            refine wpQuiet_nil ?_
            rintro _ ⟨s, rfl⟩
            have hbF := HBX.out s
            generalize s.w = w11 at hbF ⊢
            clear f2 f3 f4 f5 hnq hne Htd HBX
            go_wp2
            go_roundw
            case rel => exact ⟨0 + 1, by omega, by go_num, by first | (rw [HCn.out]; go_num; done) | (rw [HCn.out]; rfl), hbF⟩
            case measure => simp [intOf]; omega
          · have HCn := hideW (cn_take_no hlt (show inC t r4[0] = false by rw [← Bool.not_eq_true, inC_iff]; omega))
            clear cB2 cB3 cB4
            go_wp2
            go_roundw
            case rel => exact ⟨0 + 1, by omega, by go_num, by first | (rw [HCn.out]; done) | (rw [HCn.out]; rfl), B69⟩
            case measure => simp [intOf]; omega
        · have HCn := hideW (cn_take_no hlt (show inC t r4[0] = false by rw [← Bool.not_eq_true, inC_iff]; omega))
          clear cB2 cB3 cB4
          go_wp2
          go_roundw
          case rel => exact ⟨0 + 1, by omega, by go_num, by first | (rw [HCn.out]; done) | (rw [HCn.out]; rfl), B69⟩
          case measure => simp [intOf]; omega
      · obtain ⟨m0, rfl⟩ : ∃ m0, k = m0 + 1 := ⟨k - 1, by omega⟩
        obtain ⟨_, p1, _⟩ := CeAt.get (show m0 < r4.length by omega) hcc
        have hnx := HCV.out.next m0 hlt
        have d3 : decide (r4[m0 + 1].1 < r4[m0].2.1) = false := by simp; omega
        have hm0 : (0 : Int) < (m0 : Int) + 1 := by omega
        have hm1 : (0 : Int) ≤ (m0 : Int) := by omega
        have hm2 : (m0 : Int) < (r4.length : Int) := by omega
        have hw1 : IntKind.i64.wrap ((m0 : Int) + 1 - 1) = (m0 : Int) := by rw [Int.add_sub_cancel]; exact wrap_small _ (by omega) (by omega)
        clear hcc hpos hnx
        go_wp2_with fail
        obtain ⟨w7, hw7⟩ : ∃ x, x = wr.alloc (.cells #[.int .i64 r4[m0 + 1].1, .int .i64 r4[m0 + 1].2.1, .int .i64 r4[m0 + 1].2.2.1, .bool r4[m0 + 1].2.2.2.1, .int .i64 r4[m0 + 1].2.2.2.2] 58) := ⟨_, rfl⟩
        rw [← hw7]
        have cB0 : w7.cell? ⟨wr.heap.size, 0, none⟩ = some (.int .i64 r4[m0 + 1].1) := by rw [hw7]; simp
        have cB1 : w7.cell? ⟨wr.heap.size, 1, none⟩ = some (.int .i64 r4[m0 + 1].2.1) := by rw [hw7]; simp
        have cB2 : w7.cell? ⟨wr.heap.size, 2, none⟩ = some (.int .i64 r4[m0 + 1].2.2.1) := by rw [hw7]; simp
        have cB3 : w7.cell? ⟨wr.heap.size, 3, none⟩ = some (.bool r4[m0 + 1].2.2.2.1) := by rw [hw7]; simp
        have cB4 : w7.cell? ⟨wr.heap.size, 4, none⟩ = some (.int .i64 r4[m0 + 1].2.2.2.2) := by rw [hw7]; simp
        have B7 : Below wr.heap.size wr w7 := by rw [hw7]; exact pal wr _
        have ct7 := (HT.out w7 (ptw g B7)).1
        have p1' : w7.cell? ⟨b, off + m0 * 5 + 1, none⟩ = some (.int .i64 r4[m0].2.1) := (B7.cell (p := ⟨b, off + m0 * 5 + 1, none⟩) hbw).trans p1
        clear c0 c1 c2 c3 c4 p1
        have HF : Hid (∀ n, (((w7.drewN n).cell? ⟨wr.heap.size, 0, none⟩ = some (.int .i64 r4[m0 + 1].1) ∧ (w7.drewN n).cell? ⟨wr.heap.size, 1, none⟩ = some (.int .i64 r4[m0 + 1].2.1) ∧ (w7.drewN n).cell? ⟨wr.heap.size, 2, none⟩ = some (.int .i64 r4[m0 + 1].2.2.1) ∧ (w7.drewN n).cell? ⟨wr.heap.size, 3, none⟩ = some (.bool r4[m0 + 1].2.2.2.1) ∧ (w7.drewN n).cell? ⟨wr.heap.size, 4, none⟩ = some (.int .i64 r4[m0 + 1].2.2.2.2)) ∧ Below wr.heap.size wr (w7.drewN n))) := fun n => ⟨⟨cB0, cB1, cB2, cB3, cB4⟩, below_drewN B7 n⟩
        clear hw7 B7
        go_quiet (fail)
        clear p1'
        have F := HF.out nq
        generalize w7.drewN nq = wq at F ⊢
        clear cB0 cB1 cB2 cB3 cB4 ct7 HF
        obtain ⟨⟨cB0, cB1, cB2, cB3, cB4⟩, B9⟩ := F
        have g9 := ptw g B9
        obtain ⟨ctq, _⟩ := HT.out wq g9
        have B69 := ptw hb B9
        have hBlt := World.block_lt_of_cell? wq _ cB0
        by_cases q1 : r4[m0 + 1].1 ≤ t
        · by_cases q2 : t < r4[m0 + 1].2.1
          · have hin : inC t r4[m0 + 1] = true := (inC_iff _ _).2 ⟨q1, q2⟩
            have HCn := hideW (cn_take_yes hlt hin)
            obtain ⟨a1, a2, a3⟩ := HCV.out.at' r4[m0 + 1] (List.getElem_mem hlt) hin
            have HA3 := hideW a3
            rw [a1] at cB2
            rw [a2] at cB3
            have hAt := PAt_any so sc st t wq (HZS6.out.below B69) (by omega)
            clear a1 a2 a3 hin
            go_wp2_with fail
            refine hAt.mono ?_
            rintro e w10 ⟨rfl, hb10⟩
            have HK := hideW (fun W (h : Below wq.heap.size wq W) => (⟨(h.cell (p := ⟨wr.heap.size, 2, none⟩) hBlt).trans cB2, (h.cell (p := ⟨wr.heap.size, 3, none⟩) hBlt).trans cB3, (h.cell (p := ⟨wr.heap.size, 4, none⟩) hBlt).trans cB4, (HT.out W (ptw g9 h)).1⟩ : W.cell? ⟨wr.heap.size, 2, none⟩ = some (.int .i64 ((tel st t).getD 0)) ∧ W.cell? ⟨wr.heap.size, 3, none⟩ = some (.bool (tel st t).isSome) ∧ W.cell? ⟨wr.heap.size, 4, none⟩ = some (.int .i64 r4[m0 + 1].2.2.2.2) ∧ W.cell? ⟨w.heap.size, 0, none⟩ = some (.int .i64 t)))
            have f2 : ∀ s : HeldIn w10, s.w.cell? ⟨wr.heap.size, 2, none⟩ = some (.int .i64 ((tel st t).getD 0)) := fun s => (HK.out _ (ptw hb10 s.h)).1
            have f3 : ∀ s : HeldIn w10, s.w.cell? ⟨wr.heap.size, 3, none⟩ = some (.bool (tel st t).isSome) := fun s => (HK.out _ (ptw hb10 s.h)).2.1
            have f4 : ∀ s : HeldIn w10, s.w.cell? ⟨wr.heap.size, 4, none⟩ = some (.int .i64 r4[m0 + 1].2.2.2.2) := fun s => (HK.out _ (ptw hb10 s.h)).2.2.1
            have f5 : ∀ s : HeldIn w10, s.w.cell? ⟨w.heap.size, 0, none⟩ = some (.int .i64 t) := fun s => (HK.out _ (ptw hb10 s.h)).2.2.2
            have Htd : Hid (∀ s : HeldIn w10, Calls Try.prog 11 #[.slice fo r5.length fc, .int .i64 t] s.w fun e w' => e = .returned (.agg #[.int .i64 r4[m0 + 1].2.2.2.2, .int .i64 1]) ∧ Below s.w.heap.size s.w w') := by
              intro s
              have h := told_any fo fc r5 t s.w (HZF6.out.below (ptw B69 (ptw hb10 s.h))) (by omega)
              rw [HFZ.out.2, HA3.out] at h
              exact h
            have hnq : ∀ W : World, (binOp .neq 32 (.agg #[.int .i64 r4[m0 + 1].2.2.2.2, .int .i64 1]) (.agg #[.int .i64 r4[m0 + 1].2.2.2.2, .int .i64 1])).run Try.prog W = .ok (.bool false) W := fun W => by rw [neq_pair, prB_same]; rfl
            have hgd : Try.prog.eqGuardType Try.prog.depth 32 = false := by kernel_rfl
            have hne : Nonempty (HeldIn w10) := ⟨⟨w10, Below.refl _ _⟩⟩
            have HBX := hideW (fun (s : HeldIn w10) => ptw B69 (ptw hb10 s.h))
            generalize (tel st t).getD 0 = tv at *
            generalize (tel st t).isSome = tb at *
            generalize r4[m0 + 1].2.2.2.2 = cv at *
            clear hAt hb10 cB0 cB1 cB2 cB3 cB4 ctq HK B69 B9 g9
            go_wp2_with fail
            refine wp_region_held w10 (Below.refl _ _) (by kernel_rfl) (by kernel_rfl) ?_
            repeat (go_big_quiet_step ((go_at_call 11; exact held_of (Htd.out _))))
            refine wpQuiet_nil ?_
            rintro _ ⟨s, rfl⟩
            have hbF := HBX.out s
            generalize s.w = w11 at hbF ⊢
            clear f2 f3 f4 f5 hnq hne Htd HBX
            go_wp2
            go_roundw
            case rel => exact ⟨m0 + 1 + 1, by omega, by go_num, by first | (rw [HCn.out]; go_num; done) | (rw [HCn.out]; rfl), hbF⟩
            case measure => simp [intOf]; omega
          · have HCn := hideW (cn_take_no hlt (show inC t r4[m0 + 1] = false by rw [← Bool.not_eq_true, inC_iff]; omega))
            clear cB2 cB3 cB4
            go_wp2
            go_roundw
            case rel => exact ⟨m0 + 1 + 1, by omega, by go_num, by first | (rw [HCn.out]; done) | (rw [HCn.out]; rfl), B69⟩
            case measure => simp [intOf]; omega
        · have HCn := hideW (cn_take_no hlt (show inC t r4[m0 + 1] = false by rw [← Bool.not_eq_true, inC_iff]; omega))
          clear cB2 cB3 cB4
          go_wp2
          go_roundw
          case rel => exact ⟨m0 + 1 + 1, by omega, by go_num, by first | (rw [HCn.out]; done) | (rw [HCn.out]; rfl), B69⟩
          case measure => simp [intOf]; omega
    · have hkl : k = r4.length := by omega
      subst hkl
      have hcn := HCV.out.all
      rw [List.take_length] at *
      rw [hcn]
      have hck := PCheck_any fo fc r5 wr (HZF6.out.below hb) 
      rw [HFZ.out.1] at hck
      have g9 := (HT.out wr g).2
      clear hcn hcle
      cases (mix how ms t).isSome with
      | true =>
        simp only [if_pos]
        go_wp2_with fail
        refine hck.mono ?_
        rintro e w12 ⟨rfl, hb12⟩
        have hbF := ptw g9 hb12
        clear hck hb12 g9
        go_wp2
        go_ret
        exact ⟨rfl, hbF⟩
      | false =>
        simp only [Bool.false_eq_true, if_false]
        go_wp2_with fail
        refine hck.mono ?_
        rintro e w12 ⟨rfl, hb12⟩
        have hbF := ptw g9 hb12
        clear hck hb12 g9
        go_wp2
        go_ret
        exact ⟨rfl, hbF⟩

end Go.Proofs.Ytjlnokjaabcldae
