/-
  What Merge of the program's maps answers, whole.
-/
import Derived.Test.YtjlnokjaabcldaePMrg
namespace Go.Proofs.Ytjlnokjaabcldae
open Go.RowKit

/-- what Merge comes to -/
def MergeIs (a b : List (Int × Int × Int)) (how n : Int) (r : List (Int × Int × Int)) : Prop :=
  (¬ mchk a = 0 ∧ n = mchk a ∧ r = []) ∨ (mchk a = 0 ∧ ¬ mchk b = 0 ∧ n = mchk b ∧ r = []) ∨ (mchk a = 0 ∧ mchk b = 0 ∧ ¬ (how = 1 ∨ how = 2 ∨ how = 3) ∧ n = 1 ∧ r = []) ∨
  (mchk a = 0 ∧ mchk b = 0 ∧ (how = 1 ∨ how = 2 ∨ how = 3) ∧ MapIs (turnsOf a ++ turnsOf b) (mergeF a b how) n r)

theorem mergeIs_unique {a b : List (Int × Int × Int)} {how n n' : Int} {r r' : List (Int × Int × Int)} (h : MergeIs a b how n r) (h' : MergeIs a b how n' r') : n = n' ∧ r = r' := by
  rcases h with ⟨h0, h1, h2⟩ | ⟨h0, h0', h1, h2⟩ | ⟨h0, h0', h0'', h1, h2⟩ | ⟨h0, h0', h0'', h1⟩
  · rcases h' with ⟨g0, g1, g2⟩ | ⟨g0, g0', g1, g2⟩ | ⟨g0, g0', g0'', g1, g2⟩ | ⟨g0, g0', g0'', g1⟩
    · exact ⟨h1.trans g1.symm, h2.trans g2.symm⟩
    · exact absurd g0 h0
    · exact absurd g0 h0
    · exact absurd g0 h0
  · rcases h' with ⟨g0, g1, g2⟩ | ⟨g0, g0', g1, g2⟩ | ⟨g0, g0', g0'', g1, g2⟩ | ⟨g0, g0', g0'', g1⟩
    · exact absurd h0 g0
    · exact ⟨h1.trans g1.symm, h2.trans g2.symm⟩
    · exact absurd g0' h0'
    · exact absurd g0' h0'
  · rcases h' with ⟨g0, g1, g2⟩ | ⟨g0, g0', g1, g2⟩ | ⟨g0, g0', g0'', g1, g2⟩ | ⟨g0, g0', g0'', g1⟩
    · exact absurd h0 g0
    · exact absurd h0' g0'
    · exact ⟨h1.trans g1.symm, h2.trans g2.symm⟩
    · exact absurd g0'' h0''
  · rcases h' with ⟨g0, g1, g2⟩ | ⟨g0, g0', g1, g2⟩ | ⟨g0, g0', g0'', g1, g2⟩ | ⟨g0, g0', g0'', g1⟩
    · exact absurd h0 g0
    · exact absurd h0' g0'
    · exact absurd h0'' g0''
    · exact mapIs_unique h1 g1

theorem hide3 {p : Prop} (h : p) : Hid p := h
theorem nil3 (w W : World) : W.ownsRow w.heap.size 31 3 (.slice none 0 0) ([] : List (Int × Int × Int)).length (enc3 []) := World.ownsRow_nil _ _ _ _

set_option maxRecDepth 100000 in
set_option maxHeartbeats 4000000 in
theorem Merge_any (how : Int) (ao bo : Option Addr) (ca cb : Nat) (a b : List (Int × Int × Int)) (w : World) (hA : PcAt w ao a) (hB : PcAt w bo b) :
    Calls Try.prog 9 #[.slice ao a.length ca, .slice bo b.length cb, .int .i64 how] w fun e w' => ∃ n r, MergeIs a b how n r ∧ Told3 w w' e n r := by
  have h1 := fun W (h : Below w.heap.size w W) => PCheck_any ao ca a W (hA.below h)
  have h2 := fun W (h : Below w.heap.size w W) => PCheck_any bo cb b W (hB.below h)
  by_cases e1 : ¬ mchk a = 0
  · obtain ⟨n, en, hn⟩ := mchk_bad e1
    have HC : Hid (MergeIs a b how n []) := .inl ⟨e1, en.symm, rfl⟩
    simp only [en] at h1
    clear e1 h2 en
    rcases hn with rfl | rfl
    all_goals
      go_enter Try.func9, Try.ntmps9
      go_wp2_with fail
      have B0 := bx3_start w (.slice ao a.length ca) (.slice bo b.length cb) (.int .i64 how) 22 22 3
      refine (h1 _ B0.bel).mono ?_
      rintro e w1 ⟨rfl, hb1⟩
      have g1 := ptw B0.bel hb1
      clear B0 hb1
      go_wp2
      go_ret2
      exact ⟨_, _, HC.out, _, rfl, nil3 _ _, g1⟩
  rw [Decidable.not_not] at e1
  simp only [e1] at h1
  obtain ⟨la, ma, na⟩ := mchk_good e1
  have HE1 : Hid (mchk a = 0) := e1
  have HNA : Hid (∀ p ∈ a, NearP p) := na
  clear e1 na ma
  by_cases e2 : ¬ mchk b = 0
  · obtain ⟨n, en, hn⟩ := mchk_bad e2
    have HC : Hid (MergeIs a b how n []) := .inr (.inl ⟨HE1.out, e2, en.symm, rfl⟩)
    simp only [en] at h2
    clear e2 en
    rcases hn with rfl | rfl
    all_goals
      go_enter Try.func9, Try.ntmps9
      go_wp2_with fail
      have B0 := bx3_start w (.slice ao a.length ca) (.slice bo b.length cb) (.int .i64 how) 22 22 3
      refine (h1 _ B0.bel).mono ?_
      rintro e w1 ⟨rfl, hb1⟩
      have B1 := B0.below hb1
      have cc2 := B1.c2
      have g1 := B1.bel
      clear B0 hb1 B1
      go_wp2_with fail
      refine (h2 _ g1).mono ?_
      rintro e w2 ⟨rfl, hb2⟩
      have g2 := ptw g1 hb2
      clear g1 hb2 cc2
      go_wp2
      go_ret2
      exact ⟨_, _, HC.out, _, rfl, nil3 _ _, g2⟩
  rw [Decidable.not_not] at e2
  simp only [e2] at h2
  obtain ⟨lb, mb, nb⟩ := mchk_good e2
  have HE2 : Hid (mchk b = 0) := e2
  have HNB : Hid (∀ p ∈ b, NearP p) := nb
  clear e2 nb mb
  by_cases hh : ¬ (how = 1 ∨ how = 2 ∨ how = 3)
  · have HC : Hid (MergeIs a b how 1 []) := .inr (.inr (.inl ⟨HE1.out, HE2.out, hh, rfl, rfl⟩))
    have hJ := fun W => joins_any how W
    rw [isHow_no hh] at hJ
    clear hh
    go_enter Try.func9, Try.ntmps9
    go_wp2_with fail
    have B0 := bx3_start w (.slice ao a.length ca) (.slice bo b.length cb) (.int .i64 how) 22 22 3
    refine (h1 _ B0.bel).mono ?_
    rintro e w1 ⟨rfl, hb1⟩
    have B1 := B0.below hb1
    have cc2 := B1.c2
    have g1 := B1.bel
    clear B0 hb1
    go_wp2_with fail
    refine (h2 _ g1).mono ?_
    rintro e w2 ⟨rfl, hb2⟩
    have B2 := B1.below hb2
    have cc3 := B2.c3
    have g2 := B2.bel
    clear g1 hb2 cc2 B1 B2
    go_wp2_with (go_at_call 29; refine (hJ _).mono ?_; rintro e w' ⟨rfl, rfl⟩)
    go_ret2
    exact ⟨_, _, HC.out, _, rfl, nil3 _ _, g2⟩
  rw [Decidable.not_not] at hh
  have HH : Hid (how = 1 ∨ how = 2 ∨ how = 3) := hh
  obtain ⟨i0, hi, hz0, hz1, hz2⟩ := info_parts Try.infoInt
  have hmf : ∀ (fn : Fn) (first cap : Array Value) (w : World), (Instr.makeFunc fn first cap).run Try.prog w = .ok (.func fn first cap) w := fun _ _ _ _ => rfl
  have hlA : (turnsOf a).length = 2 * a.length := turnsOf_length a
  have hlB : (turnsOf b).length = 2 * b.length := turnsOf_length b
  have HLN : Hid ((turnsOf a ++ turnsOf b).length = 2 * a.length + 2 * b.length) := by show _ = _; rw [List.length_append, hlA, hlB]
  have hNB : Hid (((turnsOf b).map (Value.int .i64)).length = 2 * b.length * 1) := by show _ = _; rw [List.length_map, hlB]; omega
  have hOB : Hid (∀ u ∈ (turnsOf b).map (Value.int .i64), u.oneCell' = true) := by intro u hu; rw [List.mem_map] at hu; obtain ⟨z, _, rfl⟩ := hu; rfl
  have hMx : Hid (2 * a.length + 2 * b.length ≤ maxLen) := by show _ ≤ _; unfold maxLen; omega
  have hBy : Hid ((2 * a.length + 2 * b.length) * 8 ≤ 140737488355328) := by show _ ≤ _; omega
  clear hlA hlB
  have hJ := fun W => joins_any how W
  rw [isHow_yes hh] at hJ
  clear hh
  have hgo : ∀ w2, Bx3 w w2 (.slice ao a.length ca) (.slice bo b.length cb) (.int .i64 how) → ∀ W gg cap1, W.ownsRow w2.heap.size 3 1 (.slice (some ⟨gg, 0, none⟩) (2 * a.length + 2 * b.length) cap1) (2 * a.length + 2 * b.length) ((turnsOf a).map (Value.int .i64) ++ (turnsOf b).map (Value.int .i64)) → Below w2.heap.size w2 W →
      Calls Try.prog 30 #[.slice (some ⟨gg, 0, none⟩) (2 * a.length + 2 * b.length) cap1, .func (.func 32) #[] #[.pointer (some ⟨w.heap.size, 0, none⟩), .pointer (some ⟨w.heap.size + 1, 0, none⟩), .pointer (some ⟨w.heap.size + 1 + 1, 0, none⟩)]] W fun e w' => ∃ n r v', MergeIs a b how n r ∧ e = .returned (.tuple #[v', .int .i64 n]) ∧ w'.ownsRow w.heap.size 31 3 v' r.length (enc3 r) ∧ Below w2.heap.size w2 w' := by
    intro w2 B2 W gg cap1 hv hbW
    have hp : ∀ t wq, Below w2.heap.size w2 wq → Calls Try.prog 32 (#[.int .i64 t] ++ #[.pointer (some ⟨w.heap.size, 0, none⟩), .pointer (some ⟨w.heap.size + 1, 0, none⟩), .pointer (some ⟨w.heap.size + 1 + 1, 0, none⟩)]) wq fun e w' => (∃ x, e = .returned (.tuple #[.int .i64 x, .bool (mergeF a b how t).isSome]) ∧ ∀ y, mergeF a b how t = some y → x = y) ∧ Below wq.heap.size wq w' := by
      intro t wq hq
      have Bq := B2.below hq
      exact merge1_any w.heap.size (w.heap.size + 1) (w.heap.size + 1 + 1) how HH.out ao bo ca cb a b t wq (hA.below Bq.bel) (hB.below Bq.bel) la lb HNA.out HNB.out Bq.c1 Bq.c2 Bq.c3
    have hbl := build_own 32 _ (mergeF a b how) (enters_of Try.func32 (by kernel_rfl) rfl) w2 W hbW hp gg cap1 (turnsOf a ++ turnsOf b) (by rw [HLN.out, List.map_append]; exact hv) (by rw [HLN.out]; omega)
    rw [HLN.out] at hbl
    refine hbl.mono ?_
    rintro e w' ⟨n, r, v', hM, rfl, ho, hb⟩
    exact ⟨n, r, v', .inr (.inr (.inr ⟨HE1.out, HE2.out, HH.out, hM⟩)), rfl, ownsRow_base ho B2.bel.size, hb⟩
  have HGO := hgo
  have HGo : Hid (∀ w2, Bx3 w w2 (.slice ao a.length ca) (.slice bo b.length cb) (.int .i64 how) → ∀ W gg cap1, W.ownsRow w2.heap.size 3 1 (.slice (some ⟨gg, 0, none⟩) (2 * a.length + 2 * b.length) cap1) (2 * a.length + 2 * b.length) ((turnsOf a).map (Value.int .i64) ++ (turnsOf b).map (Value.int .i64)) → Below w2.heap.size w2 W →
      Calls Try.prog 30 #[.slice (some ⟨gg, 0, none⟩) (2 * a.length + 2 * b.length) cap1, .func (.func 32) #[] #[.pointer (some ⟨w.heap.size, 0, none⟩), .pointer (some ⟨w.heap.size + 1, 0, none⟩), .pointer (some ⟨w.heap.size + 1 + 1, 0, none⟩)]] W fun e w' => ∃ n r v', MergeIs a b how n r ∧ e = .returned (.tuple #[v', .int .i64 n]) ∧ w'.ownsRow w.heap.size 31 3 v' r.length (enc3 r) ∧ Below w2.heap.size w2 w') := hgo
  have HPA : Hid (∀ W, Below w.heap.size w W → PcAt W ao a ∧ PcAt W bo b) := fun W h => ⟨hA.below h, hB.below h⟩
  clear hgo HGO hA hB
  have B0 := bx3_start w (.slice ao a.length ca) (.slice bo b.length cb) (.int .i64 how) 22 22 3
  all_goals
    go_enter Try.func9, Try.ntmps9
    go_wp2_with fail
    refine (h1 _ B0.bel).mono ?_
    rintro e w1 ⟨rfl, hb1⟩
    have B1 := B0.below hb1
    have cc2 := B1.c2
    have g1 := B1.bel
    clear B0 hb1
    go_wp2_with fail
    refine (h2 _ g1).mono ?_
    rintro e w2 ⟨rfl, hb2⟩
    have B2 := B1.below hb2
    clear g1 hb2 cc2 B1 h1 h2
    have cc1 := B2.c1
    have cc2 := B2.c2
    have cc3 := B2.c3
    have hGo := HGo.out w2 B2
    have HG2 := hGo
    have HL := B2.lt
    have HBel : Hid (Below w.heap.size w w2) := B2.bel
    have hEA : Hid (∀ W, Below w2.heap.size w2 W → Calls Try.prog 31 #[.slice ao a.length ca] W fun e w' => ∃ g, e = .returned (.slice (some ⟨g, 0, none⟩) (2 * a.length) (2 * a.length)) ∧ w'.ownsRow w2.heap.size 3 1 (.slice (some ⟨g, 0, none⟩) (2 * a.length) (2 * a.length)) (2 * a.length) ((turnsOf a).map (Value.int .i64)) ∧ Below W.heap.size W w') := fun W h =>
      (pbounds_any ao ca a W (HPA.out W (ptw B2.bel h)).1 la).mono fun e w' ⟨g, he, ho, hb⟩ => ⟨g, he, ownsRow_base ho h.size, hb⟩
    have hEB : Hid (∀ W, Below w2.heap.size w2 W → Calls Try.prog 31 #[.slice bo b.length cb] W fun e w' => ∃ g, e = .returned (.slice (some ⟨g, 0, none⟩) (2 * b.length) (2 * b.length)) ∧ w'.ownsRow W.heap.size 3 1 (.slice (some ⟨g, 0, none⟩) (2 * b.length) (2 * b.length)) (2 * b.length) ((turnsOf b).map (Value.int .i64)) ∧ Below W.heap.size W w') := fun W h =>
      pbounds_any bo cb b W (HPA.out W (ptw B2.bel h)).2 lb
    have hl1 : w.heap.size < w2.heap.size := by omega
    have hl2 : w.heap.size + 1 < w2.heap.size := by omega
    have HGF := hide3 hGo
    clear B2 hGo HG2 HGo HPA
    go_wp2_with fail
    refine (hJ _).mono ?_
    rintro e w2' ⟨rfl, hw2⟩
    have hw2s := hw2.symm
    subst hw2s
    clear hJ hw2
    go_wp2_with fail
    go_region_held3 (fun w' => w'.cell? ⟨w.heap.size, 0, none⟩ = some (.slice ao a.length ca) ∧ w'.cell? ⟨w.heap.size + 1, 0, none⟩ = some (.slice bo b.length cb))
      (first | go_keep | (refine ⟨?_, ?_⟩ <;> assumption))
      (first
        | (go_at_call_of 31 (Value.slice ao a.length ca); refine (hEA.out _ (Below.refl _ _).drew).mono ?_; rintro e w3 ⟨g1, rfl, hownA, hb3⟩; have hb3' : Below w2.heap.size w2 w3 := ptw (Below.refl _ _).drew hb3; have k13 := (hb3'.cell (p := ⟨w.heap.size, 0, none⟩) hl1).trans cc1; have k23 := (hb3'.cell (p := ⟨w.heap.size + 1, 0, none⟩) hl2).trans cc2)
        | (go_at_call_of 31 (Value.slice bo b.length cb); refine (hEB.out _ hb3').mono ?_; rintro e w4 ⟨g2, rfl, hownB, hb4⟩; have hb4' : Below w2.heap.size w2 w4 := ptw hb3' hb4; have k14 := (hb4'.cell (p := ⟨w.heap.size, 0, none⟩) hl1).trans cc1; have k24 := (hb4'.cell (p := ⟨w.heap.size + 1, 0, none⟩) hl2).trans cc2)
        | (go_at_call 30; refine (HGF.out _ _ _ hown5 hb5').mono ?_; rintro e w6 ⟨n6, r6, v6, hM6, rfl, ho6, hb6⟩; have k16 := (hb6.cell (p := ⟨w.heap.size, 0, none⟩) hl1).trans cc1; have k26 := (hb6.cell (p := ⟨w.heap.size + 1, 0, none⟩) hl2).trans cc2)
        | (revert hb4; intro hb4; refine step_append_row _ (by rfl) _ _ _ (by rfl) w2.heap.size 3 i0 _ 1 8 Try.underlying40 hi hz0 hz1 hz2 rfl Nat.one_pos g1 (2 * a.length) (2 * a.length) ((turnsOf a).map (Value.int .i64)) (by rfl) (ownsRow_below hownA hb4) ⟨g2, 0, none⟩ (2 * b.length) (2 * b.length) ((turnsOf b).map (Value.int .i64)) (by rfl) hNB.out (hownB.cells (g := g2) rfl) hOB.out hMx.out hBy.out hb4'.size ?_; intro gg cap1 w5 hown5 hgrow; have hb5' : Below w2.heap.size w2 w5 := hb4'.grown hgrow hb4'.size (fun j hj => by cases hj; exact ((ownsRow_below hownA hb4).lt g1 rfl).1); have k15 := (hb5'.cell (p := ⟨w.heap.size, 0, none⟩) hl1).trans cc1; have k25 := (hb5'.cell (p := ⟨w.heap.size + 1, 0, none⟩) hl2).trans cc2))
    all_goals
      have HM6 : Hid (MergeIs a b _ n6 r6) := hM6
      have hbF : Below w.heap.size w w6 := ptw HBel.out hb6
      clear hM6 hb6
      go_wp2
      go_ret2
      exact ⟨n6, r6, HM6.out, v6, rfl, ho6, hbF⟩

end Go.Proofs.Ytjlnokjaabcldae
