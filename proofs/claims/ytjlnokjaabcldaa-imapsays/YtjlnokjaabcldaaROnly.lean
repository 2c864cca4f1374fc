/-
  What Only of the reference answers: what Cut and Keep of the program answer.
-/
import Derived.Test.YtjlnokjaabcldaaRPut
import Derived.Test.YtjlnokjaabcldaaPPick
namespace Go.Proofs.Ytjlnokjaabcldaa
open Go.RowKit

set_option maxRecDepth 100000 in
set_option maxHeartbeats 2000000 in
theorem ronly1_any (bb : Bool) (Bm Bl Bi : Nat) (ao lo : Option Addr) (ca cl : Nat) (m : List (Int × Int × Int)) (l : List (Int × Int)) (t : Int) (w : World) (hA : PcAt w ao m) (hL : IvAt w lo l) (la : m.length ≤ 200) (ll : l.length ≤ 200)
    (c1 : w.cell? ⟨Bm, 0, none⟩ = some (.slice ao m.length ca)) (c2 : w.cell? ⟨Bl, 0, none⟩ = some (.slice lo l.length cl)) (c3 : w.cell? ⟨Bi, 0, none⟩ = some (.bool bb)) :
    Calls Try.prog 56 #[.int .i64 t, .pointer (some ⟨Bm, 0, none⟩), .pointer (some ⟨Bl, 0, none⟩), .pointer (some ⟨Bi, 0, none⟩)] w fun e w' => (∃ x, e = .returned (.tuple #[.int .i64 x, .bool (onlyF m l bb t).isSome]) ∧ ∀ y, onlyF m l bb t = some y → x = y) ∧ Below w.heap.size w w' := by
  have hHa := RAt_any ao ca m t w hA (by omega)
  have hHb := fun n => RHas_any lo cl l t (w.drewN n) hL (by omega)
  clear hA hL
  cases hx : tel m t with
  | none =>
    simp only [hx, Option.getD_none, Option.isSome_none] at hHa
    have HF : Hid (onlyF m l bb t = none) := by show _ = _; unfold onlyF; rw [hx]; split <;> rfl
    rw [HF.out]
    clear hx HF
    go_enter Try.func56, Try.ntmps56
    go_wp2_with fail
    refine hHa.mono ?_
    rintro e w1 ⟨rfl, rfl⟩
    go_wp2_with fail
    go_quiet (fail)
    go_wp2
    go_ret2
    exact ⟨⟨0, rfl, fun y h => by cases h⟩, below_drewN (Below.refl _ _) _⟩
  | some x =>
    simp only [hx, Option.getD_some, Option.isSome_some] at hHa
    have HF : Hid (onlyF m l bb t = if has l t = bb then some x else none) := by show _ = _; unfold onlyF; rw [hx]
    rw [HF.out]
    clear hx HF
    generalize has l t = h at hHb ⊢
    have HY : Hid (∀ y, (if h = bb then some x else none : Option Int) = some y → x = y) := by
      intro y hy
      split at hy
      · cases hy; rfl
      · cases hy
    have HR : Hid ((if h = bb then some x else none : Option Int).isSome = (h == bb)) := by
      show _ = _
      cases h <;> cases bb <;> rfl
    generalize (if h = bb then some x else none : Option Int) = o at HR HY ⊢
    rw [HR.out]
    clear HR
    cases h <;> cases bb
    all_goals
      go_enter Try.func56, Try.ntmps56
      go_wp2_with fail
      refine hHa.mono ?_
      rintro e w1 ⟨rfl, rfl⟩
      go_wp2_with fail
      go_quiet ((go_at_call 14; exact Calls.quiet_of_same (hHb _)))
      go_wp2
      go_ret2
      exact ⟨⟨x, rfl, HY.out⟩, below_drewN (Below.refl _ _) _⟩

theorem ends_nil (ao : Option Addr) (cap : Nat) (l : List (Int × Int)) (w : World) (hl : IvAt w ao l) (h0 : l = []) :
    Calls Try.prog 37 #[.slice ao l.length cap] w fun e w' => e = .returned (.slice none 0 0) ∧ Below w.heap.size w w' :=
  (ends_any ao cap l w hl (by rw [h0]; simp)).mono fun e w' ⟨v, he, _, hn, hb⟩ => ⟨by rw [he, hn (by rw [h0]; rfl)], hb⟩
theorem ends_some (ao : Option Addr) (cap : Nat) (l : List (Int × Int)) (w : World) (hl : IvAt w ao l) (h3 : l.length ≤ 200) (h0 : l ≠ []) :
    Calls Try.prog 37 #[.slice ao l.length cap] w fun e w' => ∃ g c, e = .returned (.slice (some ⟨g, 0, none⟩) (2 * l.length) c) ∧ w'.ownsRow w.heap.size 3 1 (.slice (some ⟨g, 0, none⟩) (2 * l.length) c) (2 * l.length) ((flat l).map (Value.int .i64)) ∧ Below w.heap.size w w' := by
  refine (ends_any ao cap l w hl h3).mono ?_
  rintro e w' ⟨v, rfl, hown, _, hb⟩
  have hp : 0 < l.length := by cases l; exact absurd rfl h0; simp
  rcases hown.2 with ⟨_, h⟩ | ⟨g, c, cur, rfl, _⟩
  · omega
  · exact ⟨g, c, rfl, hown, hb⟩

set_option maxRecDepth 100000 in
set_option maxHeartbeats 4000000 in
theorem ROnly_any (bb : Bool) (ao lo : Option Addr) (ca cl : Nat) (m : List (Int × Int × Int)) (l : List (Int × Int)) (w : World) (hA : PcAt w ao m) (hL : IvAt w lo l) :
    Calls Try.prog 26 #[.slice ao m.length ca, .slice lo l.length cl, .bool bb] w fun e w' => ∃ n r, OnlyIs m l bb n r ∧ Told3 w w' e n r := by
  have h1 := fun W (h : Below w.heap.size w W) => RMap_any ao ca m W (hA.below h)
  have h2 := fun W (h : Below w.heap.size w W) => RSet_any lo cl l W (hL.below h)
  have B0 := bx3_start w (.slice ao m.length ca) (.slice lo l.length cl) (.bool bb) 36 22 4
  by_cases e1 : ¬ mchk m = 0
  · obtain ⟨n, en, hn⟩ := mchk_bad e1
    have HC : Hid (OnlyIs m l bb n []) := .inl ⟨e1, en.symm, rfl⟩
    simp only [en] at h1
    clear e1 h2 en
    rcases hn with rfl | rfl
    all_goals
      go_enter Try.func26, Try.ntmps26
      go_wp2_with fail
      refine (h1 _ B0.bel).mono ?_
      rintro e w1 ⟨rfl, hb1⟩
      have g1 := ptw B0.bel hb1
      clear B0 hb1
      go_wp2
      go_ret2
      exact ⟨_, _, HC.out, _, rfl, nil3 _ _, g1⟩
  rw [Decidable.not_not] at e1
  simp only [e1] at h1
  obtain ⟨la, _, na⟩ := mchk_good e1
  have HE1 : Hid (mchk m = 0) := e1
  have HNA : Hid (∀ p ∈ m, NearP p) := na
  clear e1 na
  by_cases e2 : ¬ chk l = 0
  · obtain ⟨n, en, hn⟩ := chk_bad e2
    have HC : Hid (OnlyIs m l bb n []) := .inr (.inl ⟨HE1.out, e2, en.symm, rfl⟩)
    simp only [en] at h2
    clear e2 en
    rcases hn with rfl | rfl
    all_goals
      go_enter Try.func26, Try.ntmps26
      go_wp2_with fail
      refine (h1 _ B0.bel).mono ?_
      rintro e w1 ⟨rfl, hb1⟩
      have B1 := B0.below hb1
      have cc2 := B1.c2
      have g1 := B1.bel
      clear B0 hb1 B1
      go_wp2_with fail
      refine (h2 _ g1).mono ?_
      rintro e w2 ⟨rfl, hb2⟩
      have g2 := ptw g1 hb2
      clear g1 hb2 cc2
      go_wp2
      go_ret2
      exact ⟨_, _, HC.out, _, rfl, nil3 _ _, g2⟩
  rw [Decidable.not_not] at e2
  simp only [e2] at h2
  obtain ⟨lb, _, nb⟩ := chk_good e2
  have HE2 : Hid (chk l = 0) := e2
  have HNB : Hid (∀ x ∈ flat l, nearB x) := nb
  clear e2 nb
  obtain ⟨i0, hi, hz0, hz1, hz2⟩ := info_parts Try.infoInt
  have hmf : ∀ (fn : Fn) (first cap : Array Value) (w : World), (Instr.makeFunc fn first cap).run Try.prog w = .ok (.func fn first cap) w := fun _ _ _ _ => rfl
  have hlA : (turnsOf m).length = 2 * m.length := turnsOf_length m
  have hlB : (flat l).length = 2 * l.length := flat_length l
  have HLN : Hid ((turnsOf m ++ flat l).length = 2 * m.length + 2 * l.length) := by show _ = _; rw [List.length_append, hlA, hlB]
  have hNB : Hid (((flat l).map (Value.int .i64)).length = 2 * l.length * 1) := by show _ = _; rw [List.length_map, hlB]; omega
  have hOB : Hid (∀ u ∈ (flat l).map (Value.int .i64), u.oneCell' = true) := by intro u hu; rw [List.mem_map] at hu; obtain ⟨z, _, rfl⟩ := hu; rfl
  have hMx : Hid (2 * m.length + 2 * l.length ≤ maxLen) := by show _ ≤ _; unfold maxLen; omega
  have hBy : Hid ((2 * m.length + 2 * l.length) * 8 ≤ 140737488355328) := by show _ ≤ _; omega
  have HAN : Hid (∀ x ∈ turnsOf m ++ flat l, nearB x) := by
    intro x hx
    rw [List.mem_append] at hx
    rcases hx with hx | hx
    · exact turnsOf_near HNA.out x hx
    · exact HNB.out x hx
  clear hlA hlB
  have hTh : Hid (∀ w2, Bx3 w w2 (.slice ao m.length ca) (.slice lo l.length cl) (.bool bb) → ∀ W v, W.ownsRow w2.heap.size 3 1 v (turnsOf m ++ flat l).length ((turnsOf m ++ flat l).map (Value.int .i64)) → Below w2.heap.size w2 W →
      Calls Try.prog 51 #[v, .func (.func 56) #[] #[.pointer (some ⟨w.heap.size, 0, none⟩), .pointer (some ⟨w.heap.size + 1, 0, none⟩), .pointer (some ⟨w.heap.size + 1 + 1, 0, none⟩)]] W fun e w' => ∃ vo cap' out, e = .returned (.slice vo out.length cap') ∧ out.length ≤ 1000 ∧ (∀ q ∈ out, NearP q) ∧ (∀ n r, FitIs out n r → OnlyIs m l bb n r) ∧ w'.ownsRow w.heap.size 38 3 (.slice vo out.length cap') out.length (enc3 out) ∧ Below w2.heap.size w2 w') := by
    intro w2 B2 W v hv hbW
    have hp : ∀ t wq, Below W.heap.size W wq → Calls Try.prog 56 (#[.int .i64 t] ++ #[.pointer (some ⟨w.heap.size, 0, none⟩), .pointer (some ⟨w.heap.size + 1, 0, none⟩), .pointer (some ⟨w.heap.size + 1 + 1, 0, none⟩)]) wq fun e w' => (∃ x, e = .returned (.tuple #[.int .i64 x, .bool (onlyF m l bb t).isSome]) ∧ ∀ y, onlyF m l bb t = some y → x = y) ∧ Below wq.heap.size wq w' := by
      intro t wq hq
      have Bq := B2.below (ptw hbW hq)
      exact ronly1_any bb w.heap.size (w.heap.size + 1) (w.heap.size + 1 + 1) ao lo ca cl m l t wq (hA.below Bq.bel) (hL.below Bq.bel) la lb Bq.c1 Bq.c2 Bq.c3
    have htl := told_own 56 _ (onlyF m l bb) (enters_of Try.func56 (by kernel_rfl) rfl) W hp hv (by rw [HLN.out]; omega)
    refine htl.mono ?_
    rintro e w' ⟨v', S, out, rfl, hO, hT, ho, hb⟩
    obtain ⟨vo, vc, rfl, _⟩ := pcAt_of_owns ho
    have hl1 := hT.len
    have hl2 := hO.len
    rw [HLN.out] at hl2
    refine ⟨vo, vc, out, rfl, by omega, fun q hq => tl_near hO hT HAN.out q hq ?_, fun n r h => .inr (.inr ⟨HE1.out, HE2.out, S, out, hO, hT, h⟩), ownsRow_base ho (Nat.le_trans B2.bel.size hbW.size), ptw hbW hb⟩
    obtain ⟨s, _, hs⟩ := (hT.mem q hq).2.2
    unfold onlyF at hs
    split at hs
    · exact tel_near HNA.out hs
    · cases hs
  have HPA : Hid (∀ W, Below w.heap.size w W → PcAt W ao m ∧ IvAt W lo l) := fun W h => ⟨hA.below h, hL.below h⟩
  clear hA hL
  by_cases hb0 : l = []
  · have hEB : Hid (∀ W, Below w.heap.size w W → Calls Try.prog 37 #[.slice lo l.length cl] W fun e w' => e = .returned (.slice none 0 0) ∧ Below W.heap.size W w') := fun W h => ends_nil lo cl l W (HPA.out W h).2 hb0
    have hEA : Hid (∀ w2, Below w.heap.size w w2 → ∀ W, Below w2.heap.size w2 W → Calls Try.prog 52 #[.slice ao m.length ca] W fun e w' => ∃ v, e = .returned v ∧ w'.ownsRow w2.heap.size 3 1 v (turnsOf m ++ flat l).length ((turnsOf m ++ flat l).map (Value.int .i64)) ∧ Below W.heap.size W w') := by
      intro w2 h2' W h
      refine (turns_any ao ca m W (HPA.out W (ptw h2' h)).1 la).mono ?_
      rintro e w' ⟨v, rfl, hown, _, hb⟩
      refine ⟨v, rfl, ?_, hb⟩
      rw [hb0, show flat [] = [] from rfl, List.append_nil, turnsOf_length]
      exact ownsRow_base hown h.size
    clear hb0
    go_enter Try.func26, Try.ntmps26
    go_wp2_with fail
    refine (h1 _ B0.bel).mono ?_
    rintro e w1 ⟨rfl, hb1⟩
    have B1 := B0.below hb1
    have cc2 := B1.c2
    have g1 := B1.bel
    clear B0 hb1
    go_wp2_with fail
    refine (h2 _ g1).mono ?_
    rintro e w2 ⟨rfl, hb2⟩
    have B2 := B1.below hb2
    clear g1 hb2 cc2 B1 h1 h2
    have cc1 := B2.c1
    have cc2 := B2.c2
    have HL := B2.lt
    have hl1 : w.heap.size < w2.heap.size := by omega
    have hl2 : w.heap.size + 1 < w2.heap.size := by omega
    have HBel : Hid (Below w.heap.size w w2) := B2.bel
    have HTT := hide3 (hTh.out w2 B2)
    have HEA := hide3 (hEA.out w2 B2.bel)
    clear hTh B2 HPA hEA
    go_wp2_with fail
    go_region_held3 (fun w' => w'.cell? ⟨w.heap.size, 0, none⟩ = some (.slice ao m.length ca) ∧ w'.cell? ⟨w.heap.size + 1, 0, none⟩ = some (.slice lo l.length cl))
      (first | go_keep | (refine ⟨?_, ?_⟩ <;> assumption))
      (first
        | (go_at_call 52; refine (HEA.out _ (Below.refl _ _).drew).mono ?_; rintro e w3 ⟨va, rfl, hownA, hb3⟩; have hb3' : Below w2.heap.size w2 w3 := ptw (Below.refl _ _).drew hb3; have k13 := (hb3'.cell (p := ⟨w.heap.size, 0, none⟩) hl1).trans cc1; have k23 := (hb3'.cell (p := ⟨w.heap.size + 1, 0, none⟩) hl2).trans cc2)
        | (go_at_call 37; refine (hEB.out _ (ptw HBel.out hb3')).mono ?_; rintro e w4 ⟨rfl, hb4⟩; have hb4' : Below w2.heap.size w2 w4 := ptw hb3' hb4; have k14 := (hb4'.cell (p := ⟨w.heap.size, 0, none⟩) hl1).trans cc1; have k24 := (hb4'.cell (p := ⟨w.heap.size + 1, 0, none⟩) hl2).trans cc2)
        | (go_at_call 51; refine (HTT.out _ va (ownsRow_below hownA hb4) hb4').mono ?_; rintro e w6 ⟨oo, oc, out, rfl, hol, hall, hPI, ho6, hb6⟩; have k16 := (hb6.cell (p := ⟨w.heap.size, 0, none⟩) hl1).trans cc1; have k26 := (hb6.cell (p := ⟨w.heap.size + 1, 0, none⟩) hl2).trans cc2)
        | (go_at_call 50; refine (small_below w.heap.size _ out _ ho6 hall hol).mono ?_; rintro e w7 ⟨n7, r7, v7, hF7, rfl, ho7, hb7⟩; have hb7' : Below w2.heap.size w2 w7 := ptw hb6 hb7; have k17 := (hb7'.cell (p := ⟨w.heap.size, 0, none⟩) hl1).trans cc1; have k27 := (hb7'.cell (p := ⟨w.heap.size + 1, 0, none⟩) hl2).trans cc2)
        | (revert hb4; intro hb4; refine step_append_none (by rfl) _ _ _ (by rfl) w2.heap.size 3 i0 1 Try.underlying54 hi va _ _ (by rfl) (ownsRow_below hownA hb4) (by rfl) ?_))
    all_goals
      have HM7 := hide3 (hPI n7 r7 hF7)
      have hbF : Below w.heap.size w w7 := ptw HBel.out hb7'
      clear hPI hF7 hall hb6 hb7 hb7' ho6
      go_wp2
      go_ret2
      exact ⟨n7, r7, HM7.out, v7, rfl, ho7, hbF⟩
  · have hEB : Hid (∀ W, Below w.heap.size w W → Calls Try.prog 37 #[.slice lo l.length cl] W fun e w' => ∃ g c, e = .returned (.slice (some ⟨g, 0, none⟩) (2 * l.length) c) ∧ w'.ownsRow W.heap.size 3 1 (.slice (some ⟨g, 0, none⟩) (2 * l.length) c) (2 * l.length) ((flat l).map (Value.int .i64)) ∧ Below W.heap.size W w') := fun W h => ends_some lo cl l W (HPA.out W h).2 lb hb0
    have hEA : Hid (∀ w2, Below w.heap.size w w2 → ∀ W, Below w2.heap.size w2 W → Calls Try.prog 52 #[.slice ao m.length ca] W fun e w' => ∃ v, e = .returned v ∧ w'.ownsRow w2.heap.size 3 1 v (2 * m.length) ((turnsOf m).map (Value.int .i64)) ∧ Below W.heap.size W w') := by
      intro w2 h2' W h
      refine (turns_any ao ca m W (HPA.out W (ptw h2' h)).1 la).mono ?_
      rintro e w' ⟨v, rfl, hown, _, hb⟩
      exact ⟨v, rfl, ownsRow_base hown h.size, hb⟩
    have hbp : 0 < l.length := by cases l; exact absurd rfl hb0; simp
    have hPo : Hid (0 < 2 * l.length) := by show 0 < _; omega
    clear hb0
    go_enter Try.func26, Try.ntmps26
    go_wp2_with fail
    refine (h1 _ B0.bel).mono ?_
    rintro e w1 ⟨rfl, hb1⟩
    have B1 := B0.below hb1
    have cc2 := B1.c2
    have g1 := B1.bel
    clear B0 hb1
    go_wp2_with fail
    refine (h2 _ g1).mono ?_
    rintro e w2 ⟨rfl, hb2⟩
    have B2 := B1.below hb2
    clear g1 hb2 cc2 B1 h1 h2
    have cc1 := B2.c1
    have cc2 := B2.c2
    have HL := B2.lt
    have hl1 : w.heap.size < w2.heap.size := by omega
    have hl2 : w.heap.size + 1 < w2.heap.size := by omega
    have HBel : Hid (Below w.heap.size w w2) := B2.bel
    have HTT : Hid (∀ W gg cap1, W.ownsRow w2.heap.size 3 1 (.slice (some ⟨gg, 0, none⟩) (2 * m.length + 2 * l.length) cap1) (2 * m.length + 2 * l.length) ((turnsOf m).map (Value.int .i64) ++ (flat l).map (Value.int .i64)) → Below w2.heap.size w2 W →
        Calls Try.prog 51 #[.slice (some ⟨gg, 0, none⟩) (2 * m.length + 2 * l.length) cap1, .func (.func 56) #[] #[.pointer (some ⟨w.heap.size, 0, none⟩), .pointer (some ⟨w.heap.size + 1, 0, none⟩), .pointer (some ⟨w.heap.size + 1 + 1, 0, none⟩)]] W fun e w' => ∃ vo cap' out, e = .returned (.slice vo out.length cap') ∧ out.length ≤ 1000 ∧ (∀ q ∈ out, NearP q) ∧ (∀ n r, FitIs out n r → OnlyIs m l bb n r) ∧ w'.ownsRow w.heap.size 38 3 (.slice vo out.length cap') out.length (enc3 out) ∧ Below w2.heap.size w2 w') := by
      intro W gg cap1 h1' h2'
      exact hTh.out w2 B2 W _ (by rw [HLN.out, List.map_append]; exact h1') h2'
    have HEA := hide3 (hEA.out w2 B2.bel)
    clear hTh B2 HPA hEA
    go_wp2_with fail
    go_region_held3 (fun w' => w'.cell? ⟨w.heap.size, 0, none⟩ = some (.slice ao m.length ca) ∧ w'.cell? ⟨w.heap.size + 1, 0, none⟩ = some (.slice lo l.length cl))
      (first | go_keep | (refine ⟨?_, ?_⟩ <;> assumption))
      (first
        | (go_at_call 52; refine (HEA.out _ (Below.refl _ _).drew).mono ?_; rintro e w3 ⟨va, rfl, hownA, hb3⟩; have hb3' : Below w2.heap.size w2 w3 := ptw (Below.refl _ _).drew hb3; have k13 := (hb3'.cell (p := ⟨w.heap.size, 0, none⟩) hl1).trans cc1; have k23 := (hb3'.cell (p := ⟨w.heap.size + 1, 0, none⟩) hl2).trans cc2)
        | (go_at_call 37; refine (hEB.out _ (ptw HBel.out hb3')).mono ?_; rintro e w4 ⟨g2, c2, rfl, hownB, hb4⟩; have hb4' : Below w2.heap.size w2 w4 := ptw hb3' hb4; have k14 := (hb4'.cell (p := ⟨w.heap.size, 0, none⟩) hl1).trans cc1; have k24 := (hb4'.cell (p := ⟨w.heap.size + 1, 0, none⟩) hl2).trans cc2)
        | (go_at_call 51; refine (HTT.out _ _ _ hown5 hb5').mono ?_; rintro e w6 ⟨oo, oc, out, rfl, hol, hall, hPI, ho6, hb6⟩; have k16 := (hb6.cell (p := ⟨w.heap.size, 0, none⟩) hl1).trans cc1; have k26 := (hb6.cell (p := ⟨w.heap.size + 1, 0, none⟩) hl2).trans cc2)
        | (go_at_call 50; refine (small_below w.heap.size _ out _ ho6 hall hol).mono ?_; rintro e w7 ⟨n7, r7, v7, hF7, rfl, ho7, hb7⟩; have hb7' : Below w2.heap.size w2 w7 := ptw hb6 hb7; have k17 := (hb7'.cell (p := ⟨w.heap.size, 0, none⟩) hl1).trans cc1; have k27 := (hb7'.cell (p := ⟨w.heap.size + 1, 0, none⟩) hl2).trans cc2)
        | (revert hb4; intro hb4; refine step_append_lies _ (by rfl) _ _ _ (by rfl) w2.heap.size 3 i0 _ 1 8 Try.underlying54 hi hz0 hz1 hz2 rfl Nat.one_pos va (2 * m.length) ((turnsOf m).map (Value.int .i64)) (by rfl) (ownsRow_below hownA hb4) ⟨g2, 0, none⟩ (2 * l.length) c2 ((flat l).map (Value.int .i64)) (by rfl) hNB.out (hownB.cells (g := g2) rfl) hOB.out hPo.out hMx.out hBy.out hb4'.size w4.heap.size rfl ?_; intro gg cap1 w5 hown5 hgrow hat hltg; have hb5' : Below w2.heap.size w2 w5 := hb4'.grown hgrow hb4'.size (fun j hj => ((ownsRow_below hownA hb4).lt j hj).1); have k15 := (hb5'.cell (p := ⟨w.heap.size, 0, none⟩) hl1).trans cc1; have k25 := (hb5'.cell (p := ⟨w.heap.size + 1, 0, none⟩) hl2).trans cc2))
    all_goals
      have HM7 := hide3 (hPI n7 r7 hF7)
      have hbF : Below w.heap.size w w7 := ptw HBel.out hb7'
      clear hPI hF7 hall hb6 hb7 hb7' ho6
      go_wp2
      go_ret2
      exact ⟨n7, r7, HM7.out, v7, rfl, ho7, hbF⟩

end Go.Proofs.Ytjlnokjaabcldaa
