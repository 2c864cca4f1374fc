/-
  What Put of the reference answers: what Put of the program answers.
-/
import Derived.Test.YtjlnokjaabcldaaRMrg
import Derived.Test.YtjlnokjaabcldaaPPut
namespace Go.Proofs.Ytjlnokjaabcldaa
open Go.RowKit

theorem small_below (base : Nat) (v : Value) (out : List (Int × Int × Int)) (w : World) (hown : w.ownsRow base 38 3 v out.length (enc3 out)) (hn : ∀ q ∈ out, NearP q) (hlen : out.length ≤ 1000) :
    Calls Try.prog 50 #[v] w fun e w' => ∃ n r v', FitIs out n r ∧ e = .returned (.tuple #[v', .int .i64 n]) ∧ w'.ownsRow base 38 3 v' r.length (enc3 r) ∧ Below w.heap.size w w' :=
  (small_any base v out w hown hn hlen).mono fun _ w' ⟨n, r, v', h1, h2, h3, h4⟩ => ⟨n, r, v', h1, h2, h3, by rw [h4]; exact Below.refl _ _⟩

set_option maxRecDepth 100000 in
set_option maxHeartbeats 2000000 in
theorem rput1_any (Bm Bp : Nat) (ao : Option Addr) (ca : Nat) (m : List (Int × Int × Int)) (p : Int × Int × Int) (t : Int) (w : World) (hA : PcAt w ao m) (la : m.length ≤ 200)
    (c1 : w.cell? ⟨Bm, 0, none⟩ = some (.slice ao m.length ca)) (p0 : w.cell? ⟨Bp, 0, none⟩ = some (.int .i64 p.1)) (p1 : w.cell? ⟨Bp, 1, none⟩ = some (.int .i64 p.2.1)) (p2 : w.cell? ⟨Bp, 2, none⟩ = some (.int .i64 p.2.2)) :
    Calls Try.prog 53 #[.int .i64 t, .pointer (some ⟨Bp, 0, none⟩), .pointer (some ⟨Bm, 0, none⟩)] w fun e w' => (∃ x, e = .returned (.tuple #[.int .i64 x, .bool (putF m p t).isSome]) ∧ ∀ y, putF m p t = some y → x = y) ∧ Below w.heap.size w w' := by
  have hAt := RAt_any ao ca m t w hA (by omega)
  clear hA
  by_cases g1 : p.1 ≤ t
  · by_cases g2 : t < p.2.1
    · have HF : Hid (putF m p t = some p.2.2) := by show _ = _; unfold putF; rw [(inP_iff _ _).2 ⟨g1, g2⟩]; rfl
      rw [HF.out]
      clear HF hAt
      go_enter Try.func53, Try.ntmps53
      go_wp2
      go_ret2
      exact ⟨⟨_, rfl, fun y h => by cases h; rfl⟩, Below.refl _ _⟩
    · have HF : Hid (putF m p t = tel m t) := by show _ = _; unfold putF; rw [if_neg (by rw [inP_iff]; omega)]
      rw [HF.out]
      have HX : Hid (∀ y, tel m t = some y → (tel m t).getD 0 = y) := fun y h => by rw [h]; rfl
      clear HF
      generalize tel m t = q at hAt HX ⊢
      go_enter Try.func53, Try.ntmps53
      go_wp2_with (go_at_call 21; refine hAt.mono ?_; rintro e w' ⟨rfl, rfl⟩)
      go_ret2
      exact ⟨⟨_, rfl, HX.out⟩, Below.refl _ _⟩
  · have HF : Hid (putF m p t = tel m t) := by show _ = _; unfold putF; rw [if_neg (by rw [inP_iff]; omega)]
    rw [HF.out]
    have HX : Hid (∀ y, tel m t = some y → (tel m t).getD 0 = y) := fun y h => by rw [h]; rfl
    clear HF
    generalize tel m t = q at hAt HX ⊢
    go_enter Try.func53, Try.ntmps53
    go_wp2_with (go_at_call 21; refine hAt.mono ?_; rintro e w' ⟨rfl, rfl⟩)
    go_ret2
    exact ⟨⟨_, rfl, HX.out⟩, Below.refl _ _⟩

set_option maxRecDepth 100000 in
set_option maxHeartbeats 4000000 in
theorem RPut_any (ao : Option Addr) (ca : Nat) (m : List (Int × Int × Int)) (p : Int × Int × Int) (w : World) (hA : PcAt w ao m) :
    Calls Try.prog 24 #[.slice ao m.length ca, .agg #[.int .i64 p.1, .int .i64 p.2.1, .int .i64 p.2.2]] w fun e w' => ∃ n r, PutIs m p n r ∧ Told3 w w' e n r := by
  have h1 := fun W (h : Below w.heap.size w W) => RMap_any ao ca m W (hA.below h)
  have B0 := bx2_start w (.slice ao m.length ca) p 36 38
  by_cases e1 : ¬ mchk m = 0
  · obtain ⟨n, en, hn⟩ := mchk_bad e1
    have HC : Hid (PutIs m p n []) := .inl ⟨e1, en.symm, rfl⟩
    simp only [en] at h1
    clear e1 en
    rcases hn with rfl | rfl
    all_goals
      go_enter Try.func24, Try.ntmps24
      go_wp2_with fail
      refine (h1 _ B0.bel).mono ?_
      rintro e w1 ⟨rfl, hb1⟩
      have g1 := ptw B0.bel hb1
      clear B0 hb1
      go_wp2
      go_ret2
      exact ⟨_, _, HC.out, _, rfl, nil3 _ _, g1⟩
  rw [Decidable.not_not] at e1
  simp only [e1] at h1
  obtain ⟨la, _, na⟩ := mchk_good e1
  have HE1 : Hid (mchk m = 0) := e1
  have HNA : Hid (∀ p ∈ m, NearP p) := na
  clear e1 na
  by_cases e2 : ¬ NearP p
  · have HC : Hid (PutIs m p 5 []) := .inr (.inl ⟨HE1.out, e2, rfl, rfl⟩)
    have hor : nb p.1 = false ∨ (nb p.1 = true ∧ nb p.2.1 = false) ∨ (nb p.1 = true ∧ nb p.2.1 = true ∧ nb p.2.2 = false) := by
      by_cases n0 : nearB p.1
      · by_cases n1 : nearB p.2.1
        · exact .inr (.inr ⟨nb_yes n0, nb_yes n1, nb_no (fun h => e2 ⟨n0, n1, h⟩)⟩)
        · exact .inr (.inl ⟨nb_yes n0, nb_no n1⟩)
      · exact .inl (nb_no n0)
    clear e2
    rcases hor with y0 | ⟨y0, y1⟩ | ⟨y0, y1, y2⟩
    all_goals
      go_enter Try.func24, Try.ntmps24
      go_wp2_with fail
      refine (h1 _ B0.bel).mono ?_
      rintro e w1 ⟨rfl, hb1⟩
      have B1 := B0.below hb1
      have d0 := B1.p0
      have d1 := B1.p1
      have d2 := B1.p2
      have g1 := B1.bel
      clear B0 hb1 B1
      go_wp2_with (go_at_call 32; refine (near_any _ _).mono ?_; rintro e w' ⟨rfl, rfl⟩)
      go_ret2
      exact ⟨_, _, HC.out, _, rfl, nil3 _ _, g1⟩
  rw [Classical.not_not] at e2
  have HE2 : Hid (NearP p) := e2
  have y0 := nb_yes e2.1
  have y1 := nb_yes e2.2.1
  have y2 := nb_yes e2.2.2
  clear e2
  obtain ⟨i0, hi, hz0, hz1, hz2⟩ := info_parts Try.infoInt
  have hmf : ∀ (fn : Fn) (first cap : Array Value) (w : World), (Instr.makeFunc fn first cap).run Try.prog w = .ok (.func fn first cap) w := fun _ _ _ _ => rfl
  have HLN : Hid ((turnsOf m ++ [p.1, p.2.1]).length = 2 * m.length + 2) := by show _ = _; rw [List.length_append, turnsOf_length]; rfl
  have HAN : Hid (∀ x ∈ turnsOf m ++ [p.1, p.2.1], nearB x) := by
    intro x hx
    simp only [List.mem_append, List.mem_cons, List.not_mem_nil, or_false] at hx
    rcases hx with hx | rfl | rfl
    · exact turnsOf_near HNA.out x hx
    · exact HE2.out.1
    · exact HE2.out.2.1
  have hgo : Hid (∀ w2, Bx2 w w2 (.slice ao m.length ca) p → ∀ W gg cap1, W.ownsRow w2.heap.size 3 1 (.slice (some ⟨gg, 0, none⟩) (2 * m.length + 2) cap1) (2 * m.length + 2) ((turnsOf m).map (Value.int .i64) ++ [.int .i64 p.1, .int .i64 p.2.1]) → Below w2.heap.size w2 W →
      Calls Try.prog 51 #[.slice (some ⟨gg, 0, none⟩) (2 * m.length + 2) cap1, .func (.func 53) #[] #[.pointer (some ⟨w.heap.size + 1, 0, none⟩), .pointer (some ⟨w.heap.size, 0, none⟩)]] W fun e w' => ∃ vo cap' out, e = .returned (.slice vo out.length cap') ∧ out.length ≤ 1000 ∧ (∀ q ∈ out, NearP q) ∧ (∀ n r, FitIs out n r → PutIs m p n r) ∧ w'.ownsRow w.heap.size 38 3 (.slice vo out.length cap') out.length (enc3 out) ∧ Below w2.heap.size w2 w') := by
    intro w2 B2 W gg cap1 hv hbW
    have hp : ∀ t wq, Below W.heap.size W wq → Calls Try.prog 53 (#[.int .i64 t] ++ #[.pointer (some ⟨w.heap.size + 1, 0, none⟩), .pointer (some ⟨w.heap.size, 0, none⟩)]) wq fun e w' => (∃ x, e = .returned (.tuple #[.int .i64 x, .bool (putF m p t).isSome]) ∧ ∀ y, putF m p t = some y → x = y) ∧ Below wq.heap.size wq w' := by
      intro t wq hq
      have Bq := B2.below (ptw hbW hq)
      exact rput1_any w.heap.size (w.heap.size + 1) ao ca m p t wq (hA.below Bq.bel) la Bq.c1 Bq.p0 Bq.p1 Bq.p2
    have htl := told_own (A := turnsOf m ++ [p.1, p.2.1]) 53 _ (putF m p) (enters_of Try.func53 (by kernel_rfl) rfl) W hp (by rw [HLN.out, List.map_append]; exact hv) (by rw [HLN.out]; omega)
    refine htl.mono ?_
    rintro e w' ⟨v', S, out, rfl, hO, hT, ho, hb⟩
    obtain ⟨vo, vc, rfl, _⟩ := pcAt_of_owns ho
    have hl1 := hT.len
    have hl2 := hO.len
    rw [HLN.out] at hl2
    refine ⟨vo, vc, out, rfl, by omega, fun q hq => tl_near hO hT HAN.out q hq ?_, fun n r h => .inr (.inr ⟨HE1.out, HE2.out, S, out, hO, hT, h⟩), ownsRow_base ho (Nat.le_trans B2.bel.size hbW.size), ptw hbW hb⟩
    obtain ⟨s, _, hs⟩ := (hT.mem q hq).2.2
    unfold putF at hs
    split at hs
    · rw [Option.some.injEq] at hs; rw [← hs]; exact HE2.out.2.2
    · exact tel_near HNA.out hs
  have HPA : Hid (∀ W, Below w.heap.size w W → PcAt W ao m) := fun W h => hA.below h
  clear hA
  go_enter Try.func24, Try.ntmps24
  go_wp2_with fail
  refine (h1 _ B0.bel).mono ?_
  rintro e w2 ⟨rfl, hb1⟩
  have B2 := B0.below hb1
  clear B0 hb1 h1
  have cc1 := B2.c1
  have d0 := B2.p0
  have d1 := B2.p1
  have d2 := B2.p2
  have HL := B2.lt
  have HBel : Hid (Below w.heap.size w w2) := B2.bel
  have hEA : Hid (∀ W, Below w2.heap.size w2 W → Calls Try.prog 52 #[.slice ao m.length ca] W fun e w' => ∃ v, e = .returned v ∧ w'.ownsRow w2.heap.size 3 1 v (2 * m.length) ((turnsOf m).map (Value.int .i64)) ∧ Below W.heap.size W w') := fun W h =>
    (turns_any ao ca m W (HPA.out W (ptw B2.bel h)) la).mono fun e w' ⟨v, he, ho, _, hb⟩ => ⟨v, he, ownsRow_base ho h.size, hb⟩
  have hl1 : w.heap.size < w2.heap.size := by omega
  have HGF := hide3 (hgo.out w2 B2)
  clear B2 hgo HPA
  go_wp2_with (go_at_call 32; refine (near_any _ _).mono ?_; rintro e w2x ⟨rfl, hww⟩; have hwx := hww.symm; subst hwx; clear hww)
  clear d2
  go_region_held3 (fun w' => w'.cell? ⟨w.heap.size, 0, none⟩ = some (.slice ao m.length ca) ∧ w'.cell? ⟨w.heap.size + 1, 0, none⟩ = some (.int .i64 p.1) ∧ w'.cell? ⟨w.heap.size + 1, 1, none⟩ = some (.int .i64 p.2.1))
    (first | go_keep | (refine ⟨?_, ?_, ?_⟩ <;> assumption))
    (first
      | (go_at_call 52; refine (hEA.out _ (by first | exact (Below.refl _ _).drew | exact ((Below.refl _ _).alloc (Nat.le_refl _) _).drew)).mono ?_; rintro e w3 ⟨va, rfl, hownA, hb3⟩; have hb3' : Below w2.heap.size w2 w3 := (by first | exact ptw (Below.refl _ _).drew hb3 | exact ptw ((pal w2 _).drew) hb3); have k1 := (hb3'.cell (p := ⟨w.heap.size, 0, none⟩) hl1).trans cc1; have k2 := (hb3'.cell (p := ⟨w.heap.size + 1, 0, none⟩) HL).trans d0; have k3 := (hb3'.cell (p := ⟨w.heap.size + 1, 1, none⟩) HL).trans d1)
      | (go_at_call 51; refine (HGF.out _ _ _ hown5 hb5').mono ?_; rintro e w6 ⟨oo, oc, out, rfl, hol, hall, hPI, ho6, hb6⟩; have k16 := (hb6.cell (p := ⟨w.heap.size, 0, none⟩) hl1).trans cc1; have k26 := (hb6.cell (p := ⟨w.heap.size + 1, 0, none⟩) HL).trans d0; have k36 := (hb6.cell (p := ⟨w.heap.size + 1, 1, none⟩) HL).trans d1)
      | (go_at_call 50; refine (small_below w.heap.size _ out _ ho6 hall hol).mono ?_; rintro e w7 ⟨n7, r7, v7, hF7, rfl, ho7, hb7⟩; have hb7' : Below w2.heap.size w2 w7 := ptw hb6 hb7; have k17 := (hb7'.cell (p := ⟨w.heap.size, 0, none⟩) hl1).trans cc1; have k27 := (hb7'.cell (p := ⟨w.heap.size + 1, 0, none⟩) HL).trans d0; have k37 := (hb7'.cell (p := ⟨w.heap.size + 1, 1, none⟩) HL).trans d1)
      | (revert hb3; intro hb3; refine step_append_lies _ (by rfl) _ _ _ (by rfl) w2.heap.size 3 i0 _ 1 8 Try.underlying54 hi hz0 hz1 hz2 rfl Nat.one_pos va (2 * m.length) ((turnsOf m).map (Value.int .i64)) (by rfl) (World.ownsRow.alloc (w := w3) hownA _) ⟨w3.heap.size, 0, none⟩ 2 2 [.int .i64 p.1, .int .i64 p.2.1] (by rfl) (by rfl) (World.news_of_block (cs := #[.int .i64 p.1, .int .i64 p.2.1]) (t := 3) (fr := (0, 0)) (heap_alloc_new w3 _)) (by simp [Value.oneCell']) (by omega) (by unfold maxLen; omega) (by omega) (by have := hb3'.size; simp; omega) (w3.heap.size + 1) (by simp) ?_; intro gg cap1 w5 hown5 hgrow hat hltg; have hb5' : Below w2.heap.size w2 w5 := (hb3'.alloc hb3'.size _).grown hgrow (by have := hb3'.size; simp; omega) (fun j hj => (hownA.lt j hj).1); have k15 := (hb5'.cell (p := ⟨w.heap.size, 0, none⟩) hl1).trans cc1; have k25 := (hb5'.cell (p := ⟨w.heap.size + 1, 0, none⟩) HL).trans d0; have k35 := (hb5'.cell (p := ⟨w.heap.size + 1, 1, none⟩) HL).trans d1)
      | (revert hb3; intro hb3; refine step_append_lies _ (by rfl) _ _ _ (by rfl) w2.heap.size 3 i0 _ 1 8 Try.underlying54 hi hz0 hz1 hz2 rfl Nat.one_pos va (2 * m.length) ((turnsOf m).map (Value.int .i64)) (by rfl) hownA ⟨w2.heap.size, 0, none⟩ 2 2 [.int .i64 p.1, .int .i64 p.2.1] (by rfl) (by rfl) (World.news_of_block (cs := #[.int .i64 p.1, .int .i64 p.2.1]) (t := 3) (fr := (0, 0)) ((hb3.block w2.heap.size (by simp)).trans (heap_alloc_new w2 _))) (by simp [Value.oneCell']) (by omega) (by unfold maxLen; omega) (by omega) hb3'.size w3.heap.size rfl ?_; intro gg cap1 w5 hown5 hgrow hat hltg; have hb5' : Below w2.heap.size w2 w5 := hb3'.grown hgrow hb3'.size (fun j hj => (hownA.lt j hj).1); have k15 := (hb5'.cell (p := ⟨w.heap.size, 0, none⟩) hl1).trans cc1; have k25 := (hb5'.cell (p := ⟨w.heap.size + 1, 0, none⟩) HL).trans d0; have k35 := (hb5'.cell (p := ⟨w.heap.size + 1, 1, none⟩) HL).trans d1))
  all_goals
    have HM7 := hide3 (hPI n7 r7 hF7)
    have hbF : Below w.heap.size w w7 := ptw HBel.out hb7'
    clear hPI hF7 hall hb6 hb7 hb7' ho6
    go_wp2
    go_ret2
    exact ⟨n7, r7, HM7.out, v7, rfl, ho7, hbF⟩

end Go.Proofs.Ytjlnokjaabcldaa
