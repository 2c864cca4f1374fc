/-
  What Merge of the reference answers: what Merge of the program answers.
-/
import Derived.Test.YtjlnokjaabcldaaRMrg
import Derived.Test.YtjlnokjaabcldaaPMrg2
namespace Go.Proofs.Ytjlnokjaabcldaa
open Go.RowKit

theorem near_take2 {m : List (Int × Int × Int)} {k : Nat} (hk : k < m.length) (h : ∀ q ∈ m.take k, nearB q.2.2) (h1 : nearB m[k].2.2) : ∀ q ∈ m.take (k + 1), nearB q.2.2 := by
  intro q hq
  rw [take_succ_get m k hk, List.mem_append, List.mem_singleton] at hq
  rcases hq with hq | rfl
  · exact h q hq
  · exact h1

set_option maxRecDepth 100000 in
set_option maxHeartbeats 4000000 in
theorem RMerge_any (how : Int) (ao bo : Option Addr) (ca cb : Nat) (a b : List (Int × Int × Int)) (w : World) (hA : PcAt w ao a) (hB : PcAt w bo b) :
    Calls Try.prog 31 #[.slice ao a.length ca, .slice bo b.length cb, .int .i64 how] w fun e w' => ∃ n r, MergeIs a b how n r ∧ Told3 w w' e n r := by
  have h1 := fun W (h : Below w.heap.size w W) => RMap_any ao ca a W (hA.below h)
  have h2 := fun W (h : Below w.heap.size w W) => RMap_any bo cb b W (hB.below h)
  by_cases e1 : ¬ mchk a = 0
  · obtain ⟨n, en, hn⟩ := mchk_bad e1
    have HC : Hid (MergeIs a b how n []) := .inl ⟨e1, en.symm, rfl⟩
    simp only [en] at h1
    clear e1 h2 en
    rcases hn with rfl | rfl
    all_goals
      go_enter Try.func31, Try.ntmps31
      go_wp2_with fail
      have B0 := bx3_start w (.slice ao a.length ca) (.slice bo b.length cb) (.int .i64 how) 36 36 3
      refine (h1 _ B0.bel).mono ?_
      rintro e w1 ⟨rfl, hb1⟩
      have g1 := ptw B0.bel hb1
      clear B0 hb1
      go_wp2
      go_ret2
      exact ⟨_, _, HC.out, _, rfl, nil3 _ _, g1⟩
  rw [Decidable.not_not] at e1
  simp only [e1] at h1
  obtain ⟨la, ma, na⟩ := mchk_good e1
  have HE1 : Hid (mchk a = 0) := e1
  have HNA : Hid (∀ p ∈ a, NearP p) := na
  clear e1 na ma
  by_cases e2 : ¬ mchk b = 0
  · obtain ⟨n, en, hn⟩ := mchk_bad e2
    have HC : Hid (MergeIs a b how n []) := .inr (.inl ⟨HE1.out, e2, en.symm, rfl⟩)
    simp only [en] at h2
    clear e2 en
    rcases hn with rfl | rfl
    all_goals
      go_enter Try.func31, Try.ntmps31
      go_wp2_with fail
      have B0 := bx3_start w (.slice ao a.length ca) (.slice bo b.length cb) (.int .i64 how) 36 36 3
      refine (h1 _ B0.bel).mono ?_
      rintro e w1 ⟨rfl, hb1⟩
      have B1 := B0.below hb1
      have cc2 := B1.c2
      have g1 := B1.bel
      clear B0 hb1 B1
      go_wp2_with fail
      refine (h2 _ g1).mono ?_
      rintro e w2 ⟨rfl, hb2⟩
      have g2 := ptw g1 hb2
      clear g1 hb2 cc2
      go_wp2
      go_ret2
      exact ⟨_, _, HC.out, _, rfl, nil3 _ _, g2⟩
  rw [Decidable.not_not] at e2
  simp only [e2] at h2
  obtain ⟨lb, mb, nb⟩ := mchk_good e2
  have HE2 : Hid (mchk b = 0) := e2
  have HNB : Hid (∀ p ∈ b, NearP p) := nb
  clear e2 nb mb
  by_cases hh : ¬ (how = 1 ∨ how = 2 ∨ how = 3)
  · have HC : Hid (MergeIs a b how 1 []) := .inr (.inr (.inl ⟨HE1.out, HE2.out, hh, rfl, rfl⟩))
    have d1 := isHow_no hh
    clear hh
    go_enter Try.func31, Try.ntmps31
    go_wp2_with fail
    have B0 := bx3_start w (.slice ao a.length ca) (.slice bo b.length cb) (.int .i64 how) 36 36 3
    refine (h1 _ B0.bel).mono ?_
    rintro e w1 ⟨rfl, hb1⟩
    have B1 := B0.below hb1
    have cc2 := B1.c2
    have g1 := B1.bel
    clear B0 hb1
    go_wp2_with fail
    refine (h2 _ g1).mono ?_
    rintro e w2 ⟨rfl, hb2⟩
    have B2 := B1.below hb2
    have cc3 := B2.c3
    have g2 := B2.bel
    clear g1 hb2 cc2 B1 B2
    go_wp2_with (go_at_call 61; refine (In13_any how _).mono ?_; rintro e w' ⟨rfl, rfl⟩)
    go_ret2
    exact ⟨_, _, HC.out, _, rfl, nil3 _ _, g2⟩
  rw [Decidable.not_not] at hh
  have HH : Hid (how = 1 ∨ how = 2 ∨ how = 3) := hh
  have dh := isHow_yes hh
  clear hh
  obtain ⟨i0, hi, hz0, hz1, hz2⟩ := info_parts Try.infoInt
  have hmf : ∀ (fn : Fn) (first cap : Array Value) (w : World), (Instr.makeFunc fn first cap).run Try.prog w = .ok (.func fn first cap) w := fun _ _ _ _ => rfl
  have hlA : (turnsOf a).length = 2 * a.length := turnsOf_length a
  have hlB : (turnsOf b).length = 2 * b.length := turnsOf_length b
  have HLN : Hid ((turnsOf a ++ turnsOf b).length = 2 * a.length + 2 * b.length) := by show _ = _; rw [List.length_append, hlA, hlB]
  have hNB : Hid (((turnsOf b).map (Value.int .i64)).length = 2 * b.length * 1) := by show _ = _; rw [List.length_map, hlB]; omega
  have hOB : Hid (∀ u ∈ (turnsOf b).map (Value.int .i64), u.oneCell' = true) := by intro u hu; rw [List.mem_map] at hu; obtain ⟨z, _, rfl⟩ := hu; rfl
  have hMx : Hid (2 * a.length + 2 * b.length ≤ maxLen) := by show _ ≤ _; unfold maxLen; omega
  have hBy : Hid ((2 * a.length + 2 * b.length) * 8 ≤ 140737488355328) := by show _ ≤ _; omega
  have HAN : Hid (∀ x ∈ turnsOf a ++ turnsOf b, nearB x) := by
    intro x hx
    rw [List.mem_append] at hx
    rcases hx with hx | hx
    · exact turnsOf_near HNA.out x hx
    · exact turnsOf_near HNB.out x hx
  clear hlA hlB
  have hTh : Hid (∀ w2, Bx3 w w2 (.slice ao a.length ca) (.slice bo b.length cb) (.int .i64 how) → ∀ W v, W.ownsRow w2.heap.size 3 1 v (turnsOf a ++ turnsOf b).length ((turnsOf a ++ turnsOf b).map (Value.int .i64)) → Below w2.heap.size w2 W →
      Calls Try.prog 51 #[v, .func (.func 62) #[] #[.pointer (some ⟨w.heap.size, 0, none⟩), .pointer (some ⟨w.heap.size + 1, 0, none⟩), .pointer (some ⟨w.heap.size + 1 + 1, 0, none⟩)]] W fun e w' => ∃ vo cap' out, e = .returned (.slice vo out.length cap') ∧ out.length ≤ 800 ∧ (∀ q ∈ out, nearB q.2.2 → NearP q) ∧ (∀ n r, FitIs out n r → MergeIs a b how n r) ∧ w'.ownsRow w.heap.size 38 3 (.slice vo out.length cap') out.length (enc3 out) ∧ Below W.heap.size W w') := by
    intro w2 B2 W v hv hbW
    have hp : ∀ t wq, Below W.heap.size W wq → Calls Try.prog 62 (#[.int .i64 t] ++ #[.pointer (some ⟨w.heap.size, 0, none⟩), .pointer (some ⟨w.heap.size + 1, 0, none⟩), .pointer (some ⟨w.heap.size + 1 + 1, 0, none⟩)]) wq fun e w' => (∃ x, e = .returned (.tuple #[.int .i64 x, .bool (mergeF a b how t).isSome]) ∧ ∀ y, mergeF a b how t = some y → x = y) ∧ Below wq.heap.size wq w' := by
      intro t wq hq
      have Bq := B2.below (ptw hbW hq)
      exact rmerge1_any w.heap.size (w.heap.size + 1) (w.heap.size + 1 + 1) how HH.out ao bo ca cb a b t wq (hA.below Bq.bel) (hB.below Bq.bel) la lb HNA.out HNB.out Bq.c1 Bq.c2 Bq.c3
    have htl := told_own 62 _ (mergeF a b how) (enters_of Try.func62 (by kernel_rfl) rfl) W hp hv (by rw [HLN.out]; omega)
    refine htl.mono ?_
    rintro e w' ⟨v', S, out, rfl, hO, hT, ho, hb⟩
    obtain ⟨vo, vc, rfl, _⟩ := pcAt_of_owns ho
    have hl1 := hT.len
    have hl2 := hO.len
    rw [HLN.out] at hl2
    exact ⟨vo, vc, out, rfl, by omega, tl_near hO hT HAN.out, fun n r h => .inr (.inr (.inr ⟨HE1.out, HE2.out, HH.out, S, out, hO, hT, h⟩)), ownsRow_base ho (Nat.le_trans B2.bel.size hbW.size), hb⟩
  have HPA : Hid (∀ W, Below w.heap.size w W → PcAt W ao a ∧ PcAt W bo b) := fun W h => ⟨hA.below h, hB.below h⟩
  clear hA hB
  by_cases hb0 : b = []
  · have hEB : Hid (∀ W, Below w.heap.size w W → Calls Try.prog 52 #[.slice bo b.length cb] W fun e w' => e = .returned (.slice none 0 0) ∧ Below W.heap.size W w') := fun W h => turns_nil bo cb b W (HPA.out W h).2 hb0
    have hEA : Hid (∀ w2, Below w.heap.size w w2 → ∀ W, Below w2.heap.size w2 W → Calls Try.prog 52 #[.slice ao a.length ca] W fun e w' => ∃ v, e = .returned v ∧ w'.ownsRow w2.heap.size 3 1 v (turnsOf a ++ turnsOf b).length ((turnsOf a ++ turnsOf b).map (Value.int .i64)) ∧ Below W.heap.size W w') := by
      intro w2 h2' W h
      refine (turns_any ao ca a W (HPA.out W (ptw h2' h)).1 la).mono ?_
      rintro e w' ⟨v, rfl, hown, _, hb⟩
      refine ⟨v, rfl, ?_, hb⟩
      rw [hb0, show turnsOf [] = [] from rfl, List.append_nil, turnsOf_length]
      exact ownsRow_base hown h.size
    clear hb0
    go_enter Try.func31, Try.ntmps31
    go_wp2_with fail
    have B0 := bx3_start w (.slice ao a.length ca) (.slice bo b.length cb) (.int .i64 how) 36 36 3
    refine (h1 _ B0.bel).mono ?_
    rintro e w1 ⟨rfl, hb1⟩
    have B1 := B0.below hb1
    have cc2 := B1.c2
    have g1 := B1.bel
    clear B0 hb1
    go_wp2_with fail
    refine (h2 _ g1).mono ?_
    rintro e w2 ⟨rfl, hb2⟩
    have B2 := B1.below hb2
    clear g1 hb2 cc2 B1 h1 h2
    have cc1 := B2.c1
    have cc2 := B2.c2
    have cc3 := B2.c3
    have HL := B2.lt
    have hl1 : w.heap.size < w2.heap.size := by omega
    have hl2 : w.heap.size + 1 < w2.heap.size := by omega
    have HBel : Hid (Below w.heap.size w w2) := B2.bel
    have HTT := hide3 (hTh.out w2 B2)
    have HEA := hide3 (hEA.out w2 B2.bel)
    clear hTh B2 HPA hEA
    go_wp2_with (go_at_call 61; refine (In13_any how _).mono ?_; rintro e w2x ⟨rfl, hww⟩; have hwx := hww.symm; subst hwx; clear hww)
    go_region_held3 (fun w' => w'.cell? ⟨w.heap.size, 0, none⟩ = some (.slice ao a.length ca) ∧ w'.cell? ⟨w.heap.size + 1, 0, none⟩ = some (.slice bo b.length cb))
      (first | go_keep | (refine ⟨?_, ?_⟩ <;> assumption))
      (first
        | (go_at_call_of 52 (Value.slice ao a.length ca); refine (HEA.out _ (Below.refl _ _).drew).mono ?_; rintro e w3 ⟨va, rfl, hownA, hb3⟩; have hb3' : Below w2.heap.size w2 w3 := ptw (Below.refl _ _).drew hb3; have k13 := (hb3'.cell (p := ⟨w.heap.size, 0, none⟩) hl1).trans cc1; have k23 := (hb3'.cell (p := ⟨w.heap.size + 1, 0, none⟩) hl2).trans cc2)
        | (go_at_call_of 52 (Value.slice bo b.length cb); refine (hEB.out _ (ptw HBel.out hb3')).mono ?_; rintro e w4 ⟨rfl, hb4⟩; have hb4' : Below w2.heap.size w2 w4 := ptw hb3' hb4; have k14 := (hb4'.cell (p := ⟨w.heap.size, 0, none⟩) hl1).trans cc1; have k24 := (hb4'.cell (p := ⟨w.heap.size + 1, 0, none⟩) hl2).trans cc2)
        | (go_at_call 51; refine (HTT.out _ va (ownsRow_below hownA hb4) hb4').mono ?_; rintro e w6 ⟨oo, oc, out, rfl, hol, hnr, hMI, ho6, hb6⟩; have k16 := ((ptw hb4' hb6).cell (p := ⟨w.heap.size, 0, none⟩) hl1).trans cc1; have k26 := ((ptw hb4' hb6).cell (p := ⟨w.heap.size + 1, 0, none⟩) hl2).trans cc2)
        | (revert hb4; intro hb4; refine step_append_none (by rfl) _ _ _ (by rfl) w2.heap.size 3 i0 1 Try.underlying54 hi va _ _ (by rfl) (ownsRow_below hownA hb4) (by rfl) ?_))
    all_goals
      have hbF : Below w.heap.size w w6 := ptw HBel.out (ptw hb4' hb6)
      have HMI := hide3 hMI
      have HNR := hide3 hnr
      have HO6 := hide3 ho6
      obtain ⟨po, pc, hpe, hpz⟩ := pcAt_of_owns ho6
      simp only [Value.slice.injEq, true_and] at hpe
      obtain ⟨rfl, rfl⟩ := hpe
      clear hMI hnr ho6 hb6 cc1 cc2 cc3
      go_wp2
      go_loop [11] (fun i => ∃ k : Nat, k ≤ out.length ∧ i = .int .i64 k ∧ ∀ q ∈ out.take k, nearB q.2.2) (fun i => out.length - (intOf i).toNat)
      case atStart => exact ⟨0, Nat.zero_le _, rfl, fun q hq => by simp at hq⟩
      case round =>
        obtain ⟨k, hk, rfl, hn⟩ := hrel
        have HN := hide3 hn
        clear hn
        by_cases hlt : k < out.length
        · rcases hpz with h0 | ⟨b', off', rfl, hbw, hc⟩
          · subst h0; simp at hlt
          obtain ⟨p0, p1, p2⟩ := PcAt.get hlt hc
          clear hc
          by_cases n1 : nearB out[k].2.2
          · have y1 := nb_yes n1
            have HS := hide3 (near_take2 hlt HN.out n1)
            clear n1
            go_wp2_with (go_at_call 32; refine (near_any _ _).mono ?_; rintro e w' ⟨rfl, rfl⟩)
            go_round
            case rel => exact ⟨k + 1, by omega, by go_num, HS.out⟩
            case measure => simp [intOf]; omega
          · have y1 := nb_no n1
            have HC := hide3 (HMI.out 5 [] (.inl ⟨fun h => n1 (h _ (List.getElem_mem hlt)).2.2, rfl, rfl⟩))
            clear n1
            go_wp2_with (go_at_call 32; refine (near_any _ _).mono ?_; rintro e w' ⟨rfl, rfl⟩)
            go_ret2
            exact ⟨_, _, HC.out, _, rfl, nil3 _ _, hbF⟩
        · have hkl : k = out.length := by omega
          have hall := HN.out
          rw [hkl, List.take_length] at hall
          have hsm := small_any w.heap.size _ out w6 HO6.out (fun q hq => HNR.out q hq (hall q hq)) (by omega)
          clear hall hkl
          go_wp2_with fail
          refine hsm.mono ?_
          rintro e w7 ⟨n7, r7, v7, hF7, rfl, ho7, rfl⟩
          have HM7 := hide3 (HMI.out n7 r7 hF7)
          clear hF7 hsm
          go_wp2
          go_ret2
          exact ⟨n7, r7, HM7.out, v7, rfl, ho7, hbF⟩
  · have hEB : Hid (∀ W, Below w.heap.size w W → Calls Try.prog 52 #[.slice bo b.length cb] W fun e w' => ∃ g c, e = .returned (.slice (some ⟨g, 0, none⟩) (2 * b.length) c) ∧ w'.ownsRow W.heap.size 3 1 (.slice (some ⟨g, 0, none⟩) (2 * b.length) c) (2 * b.length) ((turnsOf b).map (Value.int .i64)) ∧ Below W.heap.size W w') := fun W h => turns_some bo cb b W (HPA.out W h).2 lb hb0
    have hEA : Hid (∀ w2, Below w.heap.size w w2 → ∀ W, Below w2.heap.size w2 W → Calls Try.prog 52 #[.slice ao a.length ca] W fun e w' => ∃ v, e = .returned v ∧ w'.ownsRow w2.heap.size 3 1 v (2 * a.length) ((turnsOf a).map (Value.int .i64)) ∧ Below W.heap.size W w') := by
      intro w2 h2' W h
      refine (turns_any ao ca a W (HPA.out W (ptw h2' h)).1 la).mono ?_
      rintro e w' ⟨v, rfl, hown, _, hb⟩
      exact ⟨v, rfl, ownsRow_base hown h.size, hb⟩
    have hbp : 0 < b.length := by cases b; exact absurd rfl hb0; simp
    have hPo : Hid (0 < 2 * b.length) := by show 0 < _; omega
    clear hb0
    go_enter Try.func31, Try.ntmps31
    go_wp2_with fail
    have B0 := bx3_start w (.slice ao a.length ca) (.slice bo b.length cb) (.int .i64 how) 36 36 3
    refine (h1 _ B0.bel).mono ?_
    rintro e w1 ⟨rfl, hb1⟩
    have B1 := B0.below hb1
    have cc2 := B1.c2
    have g1 := B1.bel
    clear B0 hb1
    go_wp2_with fail
    refine (h2 _ g1).mono ?_
    rintro e w2 ⟨rfl, hb2⟩
    have B2 := B1.below hb2
    clear g1 hb2 cc2 B1 h1 h2
    have cc1 := B2.c1
    have cc2 := B2.c2
    have cc3 := B2.c3
    have HL := B2.lt
    have hl1 : w.heap.size < w2.heap.size := by omega
    have hl2 : w.heap.size + 1 < w2.heap.size := by omega
    have HBel : Hid (Below w.heap.size w w2) := B2.bel
    have HTT : Hid (∀ W gg cap1, W.ownsRow w2.heap.size 3 1 (.slice (some ⟨gg, 0, none⟩) (2 * a.length + 2 * b.length) cap1) (2 * a.length + 2 * b.length) ((turnsOf a).map (Value.int .i64) ++ (turnsOf b).map (Value.int .i64)) → Below w2.heap.size w2 W →
        Calls Try.prog 51 #[.slice (some ⟨gg, 0, none⟩) (2 * a.length + 2 * b.length) cap1, .func (.func 62) #[] #[.pointer (some ⟨w.heap.size, 0, none⟩), .pointer (some ⟨w.heap.size + 1, 0, none⟩), .pointer (some ⟨w.heap.size + 1 + 1, 0, none⟩)]] W fun e w' => ∃ vo cap' out, e = .returned (.slice vo out.length cap') ∧ out.length ≤ 800 ∧ (∀ q ∈ out, nearB q.2.2 → NearP q) ∧ (∀ n r, FitIs out n r → MergeIs a b how n r) ∧ w'.ownsRow w.heap.size 38 3 (.slice vo out.length cap') out.length (enc3 out) ∧ Below W.heap.size W w') := by
      intro W gg cap1 h1' h2'
      exact hTh.out w2 B2 W _ (by rw [HLN.out, List.map_append]; exact h1') h2'
    have HEA := hide3 (hEA.out w2 B2.bel)
    clear hTh B2 HPA hEA
    go_wp2_with (go_at_call 61; refine (In13_any how _).mono ?_; rintro e w2x ⟨rfl, hww⟩; have hwx := hww.symm; subst hwx; clear hww)
    go_region_held3 (fun w' => w'.cell? ⟨w.heap.size, 0, none⟩ = some (.slice ao a.length ca) ∧ w'.cell? ⟨w.heap.size + 1, 0, none⟩ = some (.slice bo b.length cb))
      (first | go_keep | (refine ⟨?_, ?_⟩ <;> assumption))
      (first
        | (go_at_call_of 52 (Value.slice ao a.length ca); refine (HEA.out _ (Below.refl _ _).drew).mono ?_; rintro e w3 ⟨va, rfl, hownA, hb3⟩; have hb3' : Below w2.heap.size w2 w3 := ptw (Below.refl _ _).drew hb3; have k13 := (hb3'.cell (p := ⟨w.heap.size, 0, none⟩) hl1).trans cc1; have k23 := (hb3'.cell (p := ⟨w.heap.size + 1, 0, none⟩) hl2).trans cc2)
        | (go_at_call_of 52 (Value.slice bo b.length cb); refine (hEB.out _ (ptw HBel.out hb3')).mono ?_; rintro e w4 ⟨g2, c2, rfl, hownB, hb4⟩; have hb4' : Below w2.heap.size w2 w4 := ptw hb3' hb4; have k14 := (hb4'.cell (p := ⟨w.heap.size, 0, none⟩) hl1).trans cc1; have k24 := (hb4'.cell (p := ⟨w.heap.size + 1, 0, none⟩) hl2).trans cc2)
        | (go_at_call 51; refine (HTT.out _ _ _ hown5 hb5').mono ?_; rintro e w6 ⟨oo, oc, out, rfl, hol, hnr, hMI, ho6, hb6⟩; have k16 := ((ptw hb5' hb6).cell (p := ⟨w.heap.size, 0, none⟩) hl1).trans cc1; have k26 := ((ptw hb5' hb6).cell (p := ⟨w.heap.size + 1, 0, none⟩) hl2).trans cc2)
        | (revert hb4; intro hb4; refine step_append_lies _ (by rfl) _ _ _ (by rfl) w2.heap.size 3 i0 _ 1 8 Try.underlying54 hi hz0 hz1 hz2 rfl Nat.one_pos va (2 * a.length) ((turnsOf a).map (Value.int .i64)) (by rfl) (ownsRow_below hownA hb4) ⟨g2, 0, none⟩ (2 * b.length) c2 ((turnsOf b).map (Value.int .i64)) (by rfl) hNB.out (hownB.cells (g := g2) rfl) hOB.out hPo.out hMx.out hBy.out hb4'.size w4.heap.size rfl ?_; intro gg cap1 w5 hown5 hgrow hat hltg; have hb5' : Below w2.heap.size w2 w5 := hb4'.grown hgrow hb4'.size (fun j hj => ((ownsRow_below hownA hb4).lt j hj).1); have k15 := (hb5'.cell (p := ⟨w.heap.size, 0, none⟩) hl1).trans cc1; have k25 := (hb5'.cell (p := ⟨w.heap.size + 1, 0, none⟩) hl2).trans cc2))
    all_goals
      have hbF : Below w.heap.size w w6 := ptw HBel.out (ptw hb5' hb6)
      have HMI := hide3 hMI
      have HNR := hide3 hnr
      have HO6 := hide3 ho6
      obtain ⟨po, pc, hpe, hpz⟩ := pcAt_of_owns ho6
      simp only [Value.slice.injEq, true_and] at hpe
      obtain ⟨rfl, rfl⟩ := hpe
      clear hMI hnr ho6 hb6 cc1 cc2 cc3
      go_wp2
      go_loop [11] (fun i => ∃ k : Nat, k ≤ out.length ∧ i = .int .i64 k ∧ ∀ q ∈ out.take k, nearB q.2.2) (fun i => out.length - (intOf i).toNat)
      case atStart => exact ⟨0, Nat.zero_le _, rfl, fun q hq => by simp at hq⟩
      case round =>
        obtain ⟨k, hk, rfl, hn⟩ := hrel
        have HN := hide3 hn
        clear hn
        by_cases hlt : k < out.length
        · rcases hpz with h0 | ⟨b', off', rfl, hbw, hc⟩
          · subst h0; simp at hlt
          obtain ⟨p0, p1, p2⟩ := PcAt.get hlt hc
          clear hc
          by_cases n1 : nearB out[k].2.2
          · have y1 := nb_yes n1
            have HS := hide3 (near_take2 hlt HN.out n1)
            clear n1
            go_wp2_with (go_at_call 32; refine (near_any _ _).mono ?_; rintro e w' ⟨rfl, rfl⟩)
            go_round
            case rel => exact ⟨k + 1, by omega, by go_num, HS.out⟩
            case measure => simp [intOf]; omega
          · have y1 := nb_no n1
            have HC := hide3 (HMI.out 5 [] (.inl ⟨fun h => n1 (h _ (List.getElem_mem hlt)).2.2, rfl, rfl⟩))
            clear n1
            go_wp2_with (go_at_call 32; refine (near_any _ _).mono ?_; rintro e w' ⟨rfl, rfl⟩)
            go_ret2
            exact ⟨_, _, HC.out, _, rfl, nil3 _ _, hbF⟩
        · have hkl : k = out.length := by omega
          have hall := HN.out
          rw [hkl, List.take_length] at hall
          have hsm := small_any w.heap.size _ out w6 HO6.out (fun q hq => HNR.out q hq (hall q hq)) (by omega)
          clear hall hkl
          go_wp2_with fail
          refine hsm.mono ?_
          rintro e w7 ⟨n7, r7, v7, hF7, rfl, ho7, rfl⟩
          have HM7 := hide3 (HMI.out n7 r7 hF7)
          clear hF7 hsm
          go_wp2
          go_ret2
          exact ⟨n7, r7, HM7.out, v7, rfl, ho7, hbF⟩

end Go.Proofs.Ytjlnokjaabcldaa
