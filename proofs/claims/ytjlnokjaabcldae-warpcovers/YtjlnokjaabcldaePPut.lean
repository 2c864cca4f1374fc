/-
  What Put of the program's maps answers.
-/
import Derived.Test.YtjlnokjaabcldaePMrg2
namespace Go.Proofs.Ytjlnokjaabcldae
open Go.RowKit

/-- the two boxes of Put: the map's and the piece's -/
structure Bx2 (w W : World) (x : Value) (p : Int × Int × Int) : Prop where
  c1 : W.cell? ⟨w.heap.size, 0, none⟩ = some x
  p0 : W.cell? ⟨w.heap.size + 1, 0, none⟩ = some (.int .i64 p.1)
  p1 : W.cell? ⟨w.heap.size + 1, 1, none⟩ = some (.int .i64 p.2.1)
  p2 : W.cell? ⟨w.heap.size + 1, 2, none⟩ = some (.int .i64 p.2.2)
  bel : Below w.heap.size w W
  lt : w.heap.size + 1 < W.heap.size
theorem bx2_start (w : World) (x : Value) (p : Int × Int × Int) (t1 t2 : TypeId) : Bx2 w ((w.alloc (.cells #[x] t1)).alloc (.cells #[.int .i64 p.1, .int .i64 p.2.1, .int .i64 p.2.2] t2)) x p := by
  refine ⟨?_, ?_, ?_, ?_, ptw (pal _ _) (pal _ _), by simp⟩
  · rw [World.cell?_alloc_past _ _ _ (by simp), World.cell?_alloc_at _ _ _ _ rfl]; rfl
  · rw [World.cell?_alloc_at _ _ _ _ (by simp)]; rfl
  · rw [World.cell?_alloc_at _ _ _ _ (by simp)]; rfl
  · rw [World.cell?_alloc_at _ _ _ _ (by simp)]; rfl
theorem Bx2.below {w W W' : World} {x : Value} {p : Int × Int × Int} (h : Bx2 w W x p) (hb : Below W.heap.size W W') : Bx2 w W' x p := by
  have l := h.lt
  refine ⟨?_, ?_, ?_, ?_, ptw h.bel hb, Nat.lt_of_lt_of_le l hb.size⟩
  · rw [hb.cell (p := ⟨w.heap.size, 0, none⟩) (by show w.heap.size < _; omega)]; exact h.c1
  · rw [hb.cell (p := ⟨w.heap.size + 1, 0, none⟩) (by show w.heap.size + 1 < _; omega)]; exact h.p0
  · rw [hb.cell (p := ⟨w.heap.size + 1, 1, none⟩) (by show w.heap.size + 1 < _; omega)]; exact h.p1
  · rw [hb.cell (p := ⟨w.heap.size + 1, 2, none⟩) (by show w.heap.size + 1 < _; omega)]; exact h.p2

set_option maxRecDepth 100000 in
set_option maxHeartbeats 2000000 in
theorem put1_any (Bm Bp : Nat) (ao : Option Addr) (ca : Nat) (m : List (Int × Int × Int)) (p : Int × Int × Int) (t : Int) (w : World) (hA : PcAt w ao m) (la : m.length ≤ 200)
    (c1 : w.cell? ⟨Bm, 0, none⟩ = some (.slice ao m.length ca)) (p0 : w.cell? ⟨Bp, 0, none⟩ = some (.int .i64 p.1)) (p1 : w.cell? ⟨Bp, 1, none⟩ = some (.int .i64 p.2.1)) (p2 : w.cell? ⟨Bp, 2, none⟩ = some (.int .i64 p.2.2)) :
    Calls Try.prog 55 #[.int .i64 t, .pointer (some ⟨Bp, 0, none⟩), .pointer (some ⟨Bm, 0, none⟩)] w fun e w' => (∃ x, e = .returned (.tuple #[.int .i64 x, .bool (putF m p t).isSome]) ∧ ∀ y, putF m p t = some y → x = y) ∧ Below w.heap.size w w' := by
  have hhas := fun W => phas_any p.1 p.2.1 p.2.2 t W
  have l1 := World.block_lt_of_cell? w _ c1
  have l2 := World.block_lt_of_cell? w _ p2
  simp only at l1 l2
  have HC : Hid (∀ W, Below w.heap.size w W → W.cell? ⟨Bm, 0, none⟩ = some (.slice ao m.length ca) ∧ W.cell? ⟨Bp, 2, none⟩ = some (.int .i64 p.2.2) ∧ Calls Try.prog 26 #[.slice ao m.length ca, .int .i64 t] W fun e w' => e = .returned (.tuple #[.int .i64 ((tel m t).getD 0), .bool (tel m t).isSome]) ∧ Below W.heap.size W w') := fun W h =>
    ⟨(h.cell (p := ⟨Bm, 0, none⟩) l1).trans c1, (h.cell (p := ⟨Bp, 2, none⟩) l2).trans p2, PAt_any ao ca m t W (hA.below h) (by omega)⟩
  clear hA
  cases hp : inP p t with
  | true =>
    have e1 : inB p.1 p.2.1 t = true := hp
    have HF : Hid (putF m p t = some p.2.2) := by show _ = _; unfold putF; rw [hp]; rfl
    rw [HF.out]
    rw [e1] at hhas
    clear hp e1 HF
    go_enter Try.func55, Try.ntmps55
    go_wp2_with fail
    refine (hhas _).mono ?_
    rintro e w1 ⟨rfl, hb1⟩
    have d2 := (HC.out w1 hb1).2.1
    go_wp2
    go_ret2
    exact ⟨⟨_, rfl, fun y h => by cases h; rfl⟩, hb1⟩
  | false =>
    have e1 : inB p.1 p.2.1 t = false := hp
    have HF : Hid (putF m p t = tel m t) := by show _ = _; unfold putF; rw [hp]; rfl
    rw [HF.out]
    rw [e1] at hhas
    clear hp e1 HF
    have HX : Hid (∀ y, tel m t = some y → (tel m t).getD 0 = y) := fun y h => by rw [h]; rfl
    generalize tel m t = q at HC HX ⊢
    go_enter Try.func55, Try.ntmps55
    go_wp2_with fail
    refine (hhas _).mono ?_
    rintro e w1 ⟨rfl, hb1⟩
    have d1 := (HC.out w1 hb1).1
    have hAt := (HC.out w1 hb1).2.2
    go_wp2_with fail
    refine hAt.mono ?_
    rintro e w2 ⟨rfl, hb2⟩
    have hbb := ptw hb1 hb2
    clear hb1 hb2 hAt d1
    go_wp2
    go_ret2
    exact ⟨⟨_, rfl, HX.out⟩, hbb⟩

/-- what Put comes to -/
def PutIs (m : List (Int × Int × Int)) (p : Int × Int × Int) (n : Int) (r : List (Int × Int × Int)) : Prop :=
  (¬ mchk m = 0 ∧ n = mchk m ∧ r = []) ∨ (mchk m = 0 ∧ ¬ NearP p ∧ n = 5 ∧ r = []) ∨ (mchk m = 0 ∧ NearP p ∧ MapIs (turnsOf m ++ [p.1, p.2.1]) (putF m p) n r)
theorem putIs_unique {m : List (Int × Int × Int)} {p : Int × Int × Int} {n n' : Int} {r r' : List (Int × Int × Int)} (h : PutIs m p n r) (h' : PutIs m p n' r') : n = n' ∧ r = r' := by
  rcases h with ⟨h0, h1, h2⟩ | ⟨h0, h0', h1, h2⟩ | ⟨h0, h0', h1⟩
  · rcases h' with ⟨g0, g1, g2⟩ | ⟨g0, g0', g1, g2⟩ | ⟨g0, g0', g1⟩
    · exact ⟨h1.trans g1.symm, h2.trans g2.symm⟩
    · exact absurd g0 h0
    · exact absurd g0 h0
  · rcases h' with ⟨g0, g1, g2⟩ | ⟨g0, g0', g1, g2⟩ | ⟨g0, g0', g1⟩
    · exact absurd h0 g0
    · exact ⟨h1.trans g1.symm, h2.trans g2.symm⟩
    · exact absurd g0' h0'
  · rcases h' with ⟨g0, g1, g2⟩ | ⟨g0, g0', g1, g2⟩ | ⟨g0, g0', g1⟩
    · exact absurd h0 g0
    · exact absurd h0' g0'
    · exact mapIs_unique h1 g1

set_option maxRecDepth 100000 in
set_option maxHeartbeats 4000000 in
theorem Put_any (ao : Option Addr) (ca : Nat) (m : List (Int × Int × Int)) (p : Int × Int × Int) (w : World) (hA : PcAt w ao m) :
    Calls Try.prog 28 #[.slice ao m.length ca, .agg #[.int .i64 p.1, .int .i64 p.2.1, .int .i64 p.2.2]] w fun e w' => ∃ n r, PutIs m p n r ∧ Told3 w w' e n r := by
  have h1 := fun W (h : Below w.heap.size w W) => PCheck_any ao ca m W (hA.below h)
  have h2 := fun W => pnear_any p.1 p.2.1 p.2.2 W
  have B0 := bx2_start w (.slice ao m.length ca) p 22 31
  by_cases e1 : ¬ mchk m = 0
  · obtain ⟨n, en, hn⟩ := mchk_bad e1
    have HC : Hid (PutIs m p n []) := .inl ⟨e1, en.symm, rfl⟩
    simp only [en] at h1
    clear e1 en h2
    rcases hn with rfl | rfl
    all_goals
      go_enter Try.func28, Try.ntmps28
      go_wp2_with fail
      refine (h1 _ B0.bel).mono ?_
      rintro e w1 ⟨rfl, hb1⟩
      have g1 := ptw B0.bel hb1
      clear B0 hb1
      go_wp2
      go_ret2
      exact ⟨_, _, HC.out, _, rfl, nil3 _ _, g1⟩
  rw [Decidable.not_not] at e1
  simp only [e1] at h1
  obtain ⟨la, _, na⟩ := mchk_good e1
  have HE1 : Hid (mchk m = 0) := e1
  have HNA : Hid (∀ p ∈ m, NearP p) := na
  clear e1 na
  by_cases e2 : ¬ NearP p
  · have HC : Hid (PutIs m p 5 []) := .inr (.inl ⟨HE1.out, e2, rfl, rfl⟩)
    rw [show nr3 p.1 p.2.1 p.2.2 = false from by rw [← Bool.not_eq_true, nr3_iff]; exact e2] at h2
    clear e2
    go_enter Try.func28, Try.ntmps28
    go_wp2_with fail
    refine (h1 _ B0.bel).mono ?_
    rintro e w1 ⟨rfl, hb1⟩
    have B1 := B0.below hb1
    have d0 := B1.p0
    have d1 := B1.p1
    have d2 := B1.p2
    have g1 := B1.bel
    clear B0 hb1 B1
    go_wp2_with fail
    refine (h2 _).mono ?_
    rintro e w2 ⟨rfl, hb2⟩
    have g2 := ptw g1 hb2
    clear g1 hb2 d0 d1 d2
    go_wp2
    go_ret2
    exact ⟨_, _, HC.out, _, rfl, nil3 _ _, g2⟩
  rw [Classical.not_not] at e2
  rw [(nr3_iff _).2 e2] at h2
  have HE2 : Hid (NearP p) := e2
  clear e2
  obtain ⟨i0, hi, hz0, hz1, hz2⟩ := info_parts Try.infoInt
  have hmf : ∀ (fn : Fn) (first cap : Array Value) (w : World), (Instr.makeFunc fn first cap).run Try.prog w = .ok (.func fn first cap) w := fun _ _ _ _ => rfl
  have HLN : Hid ((turnsOf m ++ [p.1, p.2.1]).length = 2 * m.length + 2) := by show _ = _; rw [List.length_append, turnsOf_length]; rfl
  have hgo : Hid (∀ w2, Bx2 w w2 (.slice ao m.length ca) p → ∀ W gg cap1, W.ownsRow w2.heap.size 3 1 (.slice (some ⟨gg, 0, none⟩) (2 * m.length + 2) cap1) (2 * m.length + 2) ((turnsOf m).map (Value.int .i64) ++ [.int .i64 p.1, .int .i64 p.2.1]) → Below w2.heap.size w2 W →
      Calls Try.prog 30 #[.slice (some ⟨gg, 0, none⟩) (2 * m.length + 2) cap1, .func (.func 55) #[] #[.pointer (some ⟨w.heap.size + 1, 0, none⟩), .pointer (some ⟨w.heap.size, 0, none⟩)]] W fun e w' => ∃ n r v', PutIs m p n r ∧ e = .returned (.tuple #[v', .int .i64 n]) ∧ w'.ownsRow w.heap.size 31 3 v' r.length (enc3 r) ∧ Below w2.heap.size w2 w') := by
    intro w2 B2 W gg cap1 hv hbW
    have hp : ∀ t wq, Below w2.heap.size w2 wq → Calls Try.prog 55 (#[.int .i64 t] ++ #[.pointer (some ⟨w.heap.size + 1, 0, none⟩), .pointer (some ⟨w.heap.size, 0, none⟩)]) wq fun e w' => (∃ x, e = .returned (.tuple #[.int .i64 x, .bool (putF m p t).isSome]) ∧ ∀ y, putF m p t = some y → x = y) ∧ Below wq.heap.size wq w' := by
      intro t wq hq
      have Bq := B2.below hq
      exact put1_any w.heap.size (w.heap.size + 1) ao ca m p t wq (hA.below Bq.bel) la Bq.c1 Bq.p0 Bq.p1 Bq.p2
    have hbl := build_own 55 _ (putF m p) (enters_of Try.func55 (by kernel_rfl) rfl) w2 W hbW hp gg cap1 (turnsOf m ++ [p.1, p.2.1]) (by rw [HLN.out, List.map_append]; exact hv) (by rw [HLN.out]; omega)
    rw [HLN.out] at hbl
    refine hbl.mono ?_
    rintro e w' ⟨n, r, v', hM, rfl, ho, hb⟩
    exact ⟨n, r, v', .inr (.inr ⟨HE1.out, HE2.out, hM⟩), rfl, ownsRow_base ho B2.bel.size, hb⟩
  have HPA : Hid (∀ W, Below w.heap.size w W → PcAt W ao m) := fun W h => hA.below h
  clear hA
  go_enter Try.func28, Try.ntmps28
  go_wp2_with fail
  refine (h1 _ B0.bel).mono ?_
  rintro e w1 ⟨rfl, hb1⟩
  have B1 := B0.below hb1
  have d0 := B1.p0
  have d1 := B1.p1
  have d2 := B1.p2
  clear B0 hb1
  go_wp2_with fail
  refine (h2 _).mono ?_
  rintro e w2 ⟨rfl, hb2⟩
  have B2 := B1.below hb2
  clear hb2 B1 h1 h2 d0 d1 d2
  have cc1 := B2.c1
  have d0 := B2.p0
  have d1 := B2.p1
  have HL := B2.lt
  have HBel : Hid (Below w.heap.size w w2) := B2.bel
  have hEA : Hid (∀ W, Below w2.heap.size w2 W → Calls Try.prog 31 #[.slice ao m.length ca] W fun e w' => ∃ g, e = .returned (.slice (some ⟨g, 0, none⟩) (2 * m.length) (2 * m.length)) ∧ w'.ownsRow w2.heap.size 3 1 (.slice (some ⟨g, 0, none⟩) (2 * m.length) (2 * m.length)) (2 * m.length) ((turnsOf m).map (Value.int .i64)) ∧ Below W.heap.size W w') := fun W h =>
    (pbounds_any ao ca m W (HPA.out W (ptw B2.bel h)) la).mono fun e w' ⟨g, he, ho, hb⟩ => ⟨g, he, ownsRow_base ho h.size, hb⟩
  have hl1 : w.heap.size < w2.heap.size := by omega
  have HGF := hide3 (hgo.out w2 B2)
  clear B2 hgo HPA
  go_wp2_with fail
  go_region_held3 (fun w' => w'.cell? ⟨w.heap.size, 0, none⟩ = some (.slice ao m.length ca) ∧ w'.cell? ⟨w.heap.size + 1, 0, none⟩ = some (.int .i64 p.1) ∧ w'.cell? ⟨w.heap.size + 1, 1, none⟩ = some (.int .i64 p.2.1))
    (first | go_keep | (refine ⟨?_, ?_, ?_⟩ <;> assumption))
    (first
      | (go_at_call 31; refine (hEA.out _ (by first | exact (Below.refl _ _).drew | exact ((Below.refl _ _).alloc (Nat.le_refl _) _).drew)).mono ?_; rintro e w3 ⟨g1, rfl, hownA, hb3⟩; have hb3' : Below w2.heap.size w2 w3 := (by first | exact ptw (Below.refl _ _).drew hb3 | exact ptw ((pal w2 _).drew) hb3); have k1 := (hb3'.cell (p := ⟨w.heap.size, 0, none⟩) hl1).trans cc1; have k2 := (hb3'.cell (p := ⟨w.heap.size + 1, 0, none⟩) HL).trans d0; have k3 := (hb3'.cell (p := ⟨w.heap.size + 1, 1, none⟩) HL).trans d1)
      | (go_at_call 30; refine (HGF.out _ _ _ hown5 hb5').mono ?_; rintro e w6 ⟨n6, r6, v6, hM6, rfl, ho6, hb6⟩; have k16 := (hb6.cell (p := ⟨w.heap.size, 0, none⟩) hl1).trans cc1; have k26 := (hb6.cell (p := ⟨w.heap.size + 1, 0, none⟩) HL).trans d0; have k36 := (hb6.cell (p := ⟨w.heap.size + 1, 1, none⟩) HL).trans d1)
      | (revert hb3; intro hb3; refine step_append_row _ (by rfl) _ _ _ (by rfl) w2.heap.size 3 i0 _ 1 8 Try.underlying40 hi hz0 hz1 hz2 rfl Nat.one_pos g1 (2 * m.length) (2 * m.length) ((turnsOf m).map (Value.int .i64)) (by rfl) (World.ownsRow.alloc (w := w3) hownA _) ⟨w3.heap.size, 0, none⟩ 2 2 [.int .i64 p.1, .int .i64 p.2.1] (by rfl) (by rfl) (World.news_of_block (cs := #[.int .i64 p.1, .int .i64 p.2.1]) (t := 3) (fr := (0, 0)) (heap_alloc_new w3 _)) (by simp [Value.oneCell']) (by unfold maxLen; omega) (by omega) (by have := hb3'.size; simp; omega) ?_; intro gg cap1 w5 hown5 hgrow; have hb5' : Below w2.heap.size w2 w5 := (hb3'.alloc hb3'.size _).grown hgrow (by have := hb3'.size; simp; omega) (fun j hj => by cases hj; exact (hownA.lt g1 rfl).1); have k15 := (hb5'.cell (p := ⟨w.heap.size, 0, none⟩) hl1).trans cc1; have k25 := (hb5'.cell (p := ⟨w.heap.size + 1, 0, none⟩) HL).trans d0; have k35 := (hb5'.cell (p := ⟨w.heap.size + 1, 1, none⟩) HL).trans d1)
      | (revert hb3; intro hb3; refine step_append_row _ (by rfl) _ _ _ (by rfl) w2.heap.size 3 i0 _ 1 8 Try.underlying40 hi hz0 hz1 hz2 rfl Nat.one_pos g1 (2 * m.length) (2 * m.length) ((turnsOf m).map (Value.int .i64)) (by rfl) hownA ⟨w2.heap.size, 0, none⟩ 2 2 [.int .i64 p.1, .int .i64 p.2.1] (by rfl) (by rfl) (World.news_of_block (cs := #[.int .i64 p.1, .int .i64 p.2.1]) (t := 3) (fr := (0, 0)) ((hb3.block w2.heap.size (by simp)).trans (heap_alloc_new w2 _))) (by simp [Value.oneCell']) (by unfold maxLen; omega) (by omega) hb3'.size ?_; intro gg cap1 w5 hown5 hgrow; have hb5' : Below w2.heap.size w2 w5 := hb3'.grown hgrow hb3'.size (fun j hj => by cases hj; exact (hownA.lt g1 rfl).1); have k15 := (hb5'.cell (p := ⟨w.heap.size, 0, none⟩) hl1).trans cc1; have k25 := (hb5'.cell (p := ⟨w.heap.size + 1, 0, none⟩) HL).trans d0; have k35 := (hb5'.cell (p := ⟨w.heap.size + 1, 1, none⟩) HL).trans d1))
  all_goals
    have HM6 : Hid (PutIs m p n6 r6) := hM6
    have hbF : Below w.heap.size w w6 := ptw HBel.out hb6
    clear hM6 hb6
    go_wp2
    go_ret2
    exact ⟨n6, r6, HM6.out, v6, rfl, ho6, hbF⟩

end Go.Proofs.Ytjlnokjaabcldae
