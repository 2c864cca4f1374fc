/-
  What leastPrices answers; Costs and Hops.
-/
import Derived.Test.YtjjhhmlogddnkaiDoorChD
namespace Go.Proofs.YtjjhhmlogddnkaiDoor
open Go.RowKit

/-- what Costs and Hops tell -/
def LeastE (g : Gr) (pr : Ri → Int) (v t : Int) (L : List Int) : Prop := (placeE g v t ≠ 0 ∧ L = []) ∨ (placeE g v t = 0 ∧ LeastIs g pr v t L)
def prCost : Ri → Int := fun r => r.2.2.2.2.2
def prOne : Ri → Int := fun _ => 1
def prZero : Ri → Int := fun _ => 0
theorem prCost_ok {g : Gr} (R : Right g) : PrOk g prCost := fun _ hr => (mem_rides R hr).c0
theorem prOne_ok (g : Gr) : PrOk g prOne := fun _ _ => by unfold prOne; omega
theorem prZero_ok (g : Gr) : PrOk g prZero := fun _ _ => by unfold prZero; omega

set_option maxRecDepth 100000 in
set_option maxHeartbeats 1000000 in
theorem leastPrices_any (g : Gr) (la ea : Option Addr) (lc ec : Nat) (pr : Ri → Int) (v t : Int) (fv : FuncId) (eg : ∀ args w, (callFunc fv args).run Tryd.prog w = .ok (.enter fv args) w) (w : World) (hG : GAt w la ea g) (hpr : Right g → PrOk g pr)
    (hfv : ∀ r W, Calls Tryd.prog fv #[rideV r] W fun res w' => res = .returned (.int .i64 (pr r)) ∧ Below W.heap.size W w') :
    Calls Tryd.prog 19 #[.agg #[.int .i64 g.hor, .slice la g.lives.length lc, .slice ea g.edges.length ec], .int .i64 v, .int .i64 t, .func (.func fv) #[] #[]] w fun r w' => ∃ u L, r = .returned (.tuple #[u, .int .i64 (placeE g v t)]) ∧ LeastE g pr v t L ∧ w'.ownsRow w.heap.size 3 1 u L.length (L.map (Value.int .i64)) ∧ Below w.heap.size w w' := by
  obtain ⟨i0, hi, hz0, hz1, hz2⟩ := info_parts Tryd.infoInt
  have B0 := gbx_start w g la ea lc ec 25
  have h1 := jcheck_any g la ea lc ec v t _ (hG.below B0.bel)
  by_cases e1 : placeE g v t = 0
  case neg =>
    have HP : Hid (LeastE g pr v t []) := .inl ⟨e1, rfl⟩
    have d1 : (placeE g v t != 0) = true := by simpa using e1
    generalize placeE g v t = n at *
    clear e1 hG hpr hfv eg
    go_enter Tryd.func19, Tryd.ntmps19
    go_wp2_with fail
    refine h1.mono ?_
    rintro r w1 ⟨rfl, hb1⟩
    have hbF := (B0.below hb1).bel
    clear h1 hb1 B0
    go_wp2
    (try simp only [Exit.inBlock, Exit.then]); refine bodyPost_ret (results_two_e rfl _ _ _) rfl ?_
    exact ⟨_, _, rfl, HP.out, World.ownsRow_nil _ _ _ _, hbF⟩
  obtain ⟨hg0, ⟨hv0, hv1⟩, ht0, ht1⟩ := placeE_zero e1
  have hR := gChk_right hg0
  have hlv := hR.lvs
  have HV := hideg (fun W (hW : Below w.heap.size w W) => visitsFrom_any g la ea lc ec pr v t fv eg W (hG.below hW) e1 (hpr hR) hfv)
  have HL := hideg (fun W (hW : Below w.heap.size w W) (x : Nat) (hx : x < g.lives.length) => atLast_any g la ea lc ec x W (hG.below hW) hR hx)
  have HE : Hid (∀ M, VisOk g pr v t M → LeastE g pr v t (fillL (fun x => prF M (x : Int) (lastT g x)) g.lives.length g.lives.length)) := fun M h => .inr ⟨e1, least_of hR hv0 h⟩
  have HLt : Hid (∀ x, x < g.lives.length → 0 ≤ lastT g x ∧ lastT g x < 100) := fun x hx => (last_alive hR hx).2.2
  rw [e1] at h1 ⊢
  clear hG e1 hg0 hR hpr hfv eg hv0 hv1 ht0 ht1
  go_enter Tryd.func19, Tryd.ntmps19
  go_wp2_with fail
  refine h1.mono ?_
  rintro r w1 ⟨rfl, hb1⟩
  have B1 := B0.below hb1
  have h2 := HV.out w1 B1.bel
  have g0 := B1.c0
  have g1 := B1.c1
  have g2 := B1.c2
  clear h1 hb1 B0 HV
  go_wp2_with fail
  refine h2.mono ?_
  rintro r w2 ⟨b, n, M, rfl, hM2, hV2, hb2⟩
  have B2 := B1.below hb2
  have HE2 := hideg (HE.out M hV2)
  clear h2 hb2 B1 g0 g1 g2 HE hV2
  have g1 := B2.c1
  go_wp2_with (at_make; refine wpList_make_full _ rfl _ _ 32 rfl w.heap.size 3 i0 (.int .i64 0) 1 Tryd.underlying32 hi hz0 hz1 .i64 .i64 _ _ g.lives.length rfl rfl rfl rfl (by rw [hz2]; omega) (by unfold maxLen; omega) B2.bel.size ?_; intro w3 hown3 hgrow3)
  have e3 : (madeCells (Value.int .i64 0).cells (g.lives.length * 1)).toList = (fillL (fun x => prF M (x : Int) (lastT g x)) g.lives.length 0).map (Value.int .i64) := by
    rw [Nat.mul_one, fill_zero]
    show (madeCells #[Value.int .i64 0] g.lives.length).toList = _
    rw [toList_madeCells_one, List.map_replicate]
  rw [e3] at hown3
  have hb3 : Below w2.heap.size w2 w3 := (Below.refl _ _).grown hgrow3 (Nat.le_refl _) (fun k hk => by cases hk)
  have B3 := B2.below hb3
  have M3 := hM2.below hb3
  have hs3 := (World.ownsRow.lt hown3 _ rfl).2
  have hlt2 := B2.lt
  have hMl := hM2.lt
  have HB3 := hideg B3
  have HM3 := hideg M3
  have HbR : Hid (w.heap.size ≤ w2.heap.size) := B2.bel.size
  have hbne : b ≠ w2.heap.size := by omega
  have hwne : w.heap.size ≠ w2.heap.size := by omega
  obtain ⟨m, hm⟩ : ∃ m, m = w2.heap.size := ⟨_, rfl⟩
  rw [← hm] at hown3 hs3 hbne hwne ⊢
  clear hgrow3 e3 hb3 B2 hM2 g1 hm hlt2 hMl B3 M3
  generalize hf : (fun x : Nat => prF M (x : Int) (lastT g x)) = f at hown3 HE2
  have HF : Hid (∀ x : Nat, f x = prF M (x : Int) (lastT g x)) := fun x => by rw [← hf]
  clear hf
  go_wp2_with fail
  go_loopw [34] (fun i wr => ∃ k : Nat, k ≤ g.lives.length ∧ i = .int .i64 k ∧ Zo wr w.heap.size m g.lives.length g.lives.length (fillL f g.lives.length k) ∧ w3.grownBy wr (some m)) (fun i _ => g.lives.length - (intOf i).toNat)
  case atStart => exact ⟨0, Nat.zero_le _, rfl, hown3, gby_refl _ _⟩
  case round =>
    clear hown3
    obtain ⟨k, hk, rfl, hZ, hg⟩ := hrel
    by_cases hkl : k < g.lives.length
    · have hki : (k : Int) < (g.lives.length : Int) := by omega
      have hkw : IntKind.i64.wrap ((k : Int) + 1) = (k : Int) + 1 := wrap_nj _ (by omega) (by omega)
      have fz := World.ownsRow.frozenAt hZ k
      have cv := Zo.cell hZ hkl
      obtain ⟨w4, hw4⟩ : ∃ x, x = wr.setCell ⟨m, k, none⟩ (.int .i64 1099511627776) := ⟨_, rfl⟩
      have hZ4 : Zo w4 w.heap.size m g.lives.length g.lives.length ((fillL f g.lives.length k).set k 1099511627776) := by rw [hw4]; exact Zo.set hZ k _
      have hg4 : w3.grownBy w4 (some m) := by rw [hw4]; exact gby_trans hg (gby_setOne _ _ _ _)
      have k0 : w4.cell? ⟨w.heap.size, 0, none⟩ = some (.int .i64 g.hor) := hg4.cell HB3.out.c0 (by simp only; intro h; cases h; exact hwne rfl)
      have k1 : w4.cell? ⟨w.heap.size, 1, none⟩ = some (.slice la g.lives.length lc) := hg4.cell HB3.out.c1 (by simp only; intro h; cases h; exact hwne rfl)
      have k2 : w4.cell? ⟨w.heap.size, 2, none⟩ = some (.slice ea g.edges.length ec) := hg4.cell HB3.out.c2 (by simp only; intro h; cases h; exact hwne rfl)
      have hb4 : Below w.heap.size w w4 := HB3.out.bel.grown hg4 HB3.out.bel.size (fun j hj => by cases hj; have := (World.ownsRow.lt hZ _ rfl).1; omega)
      have hL4 := HL.out w4 hb4 k hkl
      have M4 : MapAt w4 b n M := HM3.out.kept hg4 (fun h => hbne (by cases h; rfl))
      have hlt := HLt.out k hkl
      have HFk := hideg (HF.out k)
      have HSt := hideg (fill_set f g.lives.length k hkl)
      have hw4s := hw4.symm
      clear hw4 hZ hg hb4
      generalize lastT g k = T at *
      go_wp2_with fail
      refine hL4.mono ?_
      rintro r w5 ⟨rfl, hb5⟩
      have M5 := M4.below hb5
      have hZ5 := ownsRow_below hZ4 hb5
      have hg5 := gby_trans hg4 (gby_of_below hb5 (some m))
      have q1 := M5.look (v := (k : Int)) (t := T) (wi_small (by omega) (by omega)) (wi_small (by omega) (by omega))
      clear hL4 hb5 M4 M5 hZ4 hg4 k0 k1 k2 hw4s fz cv
      unfold prF at HFk
      cases hz : M (k : Int) T with
      | none =>
        rw [hz] at q1 HFk
        simp only [keyV, Option.getD_none, encV_mk, Option.isSome_none] at q1
        simp only at HFk
        have HZ6 : Hid (∀ o, Zo (w5.alloc o) w.heap.size m g.lives.length g.lives.length (fillL f g.lives.length (k + 1)) ∧ w3.grownBy (w5.alloc o) (some m)) := fun o => by
          rw [← HSt.out, HFk.out]; exact ⟨ownsRow_below hZ5 (gal w5 o), gby_trans hg5 (gby_of_below (gal w5 o) _)⟩
        clear hZ5 hg5 hz HFk HSt
        go_wp2
        go_roundw
        case rel => exact ⟨k + 1, by omega, by go_num, (HZ6.out _).1, (HZ6.out _).2⟩
        case measure => simp [intOf]; omega
      | some z =>
        obtain ⟨q, E2, d2, a2, e2, ar2, c2⟩ := z
        rw [hz] at q1 HFk
        simp only [keyV, Option.getD_some, encV_mk, Option.isSome_some] at q1
        simp only at HFk
        obtain ⟨w6, hw6⟩ : ∃ x, x = w5.alloc (.cells #[.int .i64 q, .int .i64 E2, .int .i64 d2, .int .i64 a2, .int .i64 e2, .int .i64 ar2, .int .i64 c2] 90) := ⟨_, rfl⟩
        have b6 : Below w5.heap.size w5 w6 := by rw [hw6]; exact gal w5 _
        have v0 : w6.cell? ⟨w5.heap.size, 0, none⟩ = some (.int .i64 q) := by rw [hw6]; exact new_cell rfl rfl
        have hZ6 := ownsRow_below hZ5 b6
        have fz := World.ownsRow.frozenAt hZ6 k
        have cv := Zo.cell hZ6 hkl
        have HZ7 : Hid (Zo (w6.setCell ⟨m, k, none⟩ (.int .i64 q)) w.heap.size m g.lives.length g.lives.length (fillL f g.lives.length (k + 1)) ∧ w3.grownBy (w6.setCell ⟨m, k, none⟩ (.int .i64 q)) (some m)) := by
          refine ⟨?_, gby_trans (gby_trans hg5 (gby_of_below b6 _)) (gby_setOne _ _ _ _)⟩
          have h7 := Zo.set hZ6 k q
          have e7 := HSt.out
          rw [HFk.out] at e7
          rw [List.set_set, e7] at h7
          exact h7
        have hw6s := hw6.symm
        clear hZ5 hg5 hz HFk HSt hw6 hZ6 b6
        go_wp2
        go_roundw
        case rel => exact ⟨k + 1, by omega, by go_num, HZ7.out.1, HZ7.out.2⟩
        case measure => simp [intOf]; omega
    · have hke : k = g.lives.length := by omega
      subst hke
      have HZ := hideg hZ
      have hm0 := (World.ownsRow.lt hZ _ rfl).1
      have HbF : Hid (Below w.heap.size w wr) := HB3.out.bel.grown hg HB3.out.bel.size (fun j hj => by cases hj; omega)
      have HLn := hideg (fill_len f g.lives.length g.lives.length)
      clear hZ hg
      go_wp2
      (try simp only [Exit.inBlock, Exit.then]); refine bodyPost_ret (results_two_e rfl _ _ _) rfl ?_
      refine ⟨_, rfl, fillL f g.lives.length g.lives.length, HE2.out, ?_, HbF.out⟩
      rw [HLn.out]; exact HZ.out

set_option maxRecDepth 100000 in
theorem cCosts_any (g : Gr) (la ea : Option Addr) (lc ec : Nat) (v t : Int) (w : World) (hG : GAt w la ea g) :
    Calls Tryd.prog 10 #[.agg #[.int .i64 g.hor, .slice la g.lives.length lc, .slice ea g.edges.length ec], .int .i64 v, .int .i64 t] w fun r w' => ∃ u L, r = .returned (.tuple #[u, .int .i64 (placeE g v t)]) ∧ LeastE g prCost v t L ∧ w'.ownsRow w.heap.size 3 1 u L.length (L.map (Value.int .i64)) ∧ Below w.heap.size w w' := by
  have B0 := gbx_start w g la ea lc ec 25
  have h1 := leastPrices_any g la ea lc ec prCost v t 20 (fun args w => Tryd.call20 args w) _ (hG.below B0.bel) (fun R => prCost_ok R) costOf_any
  have HB := hideg B0
  clear hG B0
  go_enter Tryd.func10, Tryd.ntmps10
  go_wp2_with fail
  refine h1.mono ?_
  rintro r w1 ⟨u, L, rfl, hL, ho, hb⟩
  have HL := hideg hL
  have HO := hideg (owns_base2 ho HB.out.bel.size)
  have HB1 := hideg (HB.out.below hb).bel
  clear h1 hL ho hb
  go_wp2
  (try simp only [Exit.inBlock, Exit.then]); refine bodyPost_ret (results_two_e rfl _ _ _) rfl ?_
  exact ⟨_, _, rfl, HL.out, HO.out, HB1.out⟩
end Go.Proofs.YtjjhhmlogddnkaiDoor
