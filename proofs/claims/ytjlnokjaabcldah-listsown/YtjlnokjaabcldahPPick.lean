/-
  What Cut and Keep of the program's maps answer.
-/
import Derived.Test.YtjlnokjaabcldahPMrg2
namespace Go.Proofs.Ytjlnokjaabcldah
open Go.RowKit

set_option maxRecDepth 100000 in
set_option maxHeartbeats 2000000 in
theorem pick1_any (g : Nat) (bb : Bool) (eg : ∀ args w, (callFunc g args).run Try.prog w = .ok (.enter g args) w) (hg : ∀ x w, Calls Try.prog g #[.bool x] w fun e w' => e = .returned (.bool (x == bb)) ∧ w' = w)
    (Bm Bl Bw : Nat) (ao lo : Option Addr) (ca cl : Nat) (m : List (Int × Int × Int)) (l : List (Int × Int)) (t : Int) (w : World) (hA : PcAt w ao m) (hL : IvAt w lo l) (la : m.length ≤ 200) (ll : l.length ≤ 200)
    (c1 : w.cell? ⟨Bm, 0, none⟩ = some (.slice ao m.length ca)) (c2 : w.cell? ⟨Bl, 0, none⟩ = some (.slice lo l.length cl)) (c3 : w.cell? ⟨Bw, 0, none⟩ = some (.func (.func g) #[] #[])) :
    Calls Try.prog 53 #[.int .i64 t, .pointer (some ⟨Bm, 0, none⟩), .pointer (some ⟨Bw, 0, none⟩), .pointer (some ⟨Bl, 0, none⟩)] w fun e w' => (∃ x, e = .returned (.tuple #[.int .i64 x, .bool (onlyF m l bb t).isSome]) ∧ ∀ y, onlyF m l bb t = some y → x = y) ∧ Below w.heap.size w w' := by
  have hHa := PAt_any ao ca m t w hA (by omega)
  have l2 := World.block_lt_of_cell? w _ c2
  have l3 := World.block_lt_of_cell? w _ c3
  simp only at l2 l3
  have HC : Hid (∀ W, Below w.heap.size w W → W.cell? ⟨Bl, 0, none⟩ = some (.slice lo l.length cl) ∧ W.cell? ⟨Bw, 0, none⟩ = some (.func (.func g) #[] #[]) ∧ Calls Try.prog 54 #[.slice lo l.length cl, .int .i64 t] W fun e w' => e = .returned (.bool (has l t)) ∧ Below W.heap.size W w') := fun W h =>
    ⟨(h.cell (p := ⟨Bl, 0, none⟩) l2).trans c2, (h.cell (p := ⟨Bw, 0, none⟩) l3).trans c3, Has_any lo cl l t W (hL.below h) (by omega)⟩
  clear hA hL c2 c3
  cases hx : tel m t with
  | none =>
    simp only [hx, Option.getD_none, Option.isSome_none] at hHa
    have HF : Hid (onlyF m l bb t = none) := by show _ = _; unfold onlyF; rw [hx]; split <;> rfl
    rw [HF.out]
    clear hx HF
    go_enter Try.func53, Try.ntmps53
    go_wp2_with fail
    refine hHa.mono ?_
    rintro e w1 ⟨rfl, hb1⟩
    go_wp2_with fail
    go_quiet (fail)
    go_wp2
    go_ret2
    exact ⟨⟨0, rfl, fun y h => by cases h⟩, below_drewN hb1 _⟩
  | some x =>
    simp only [hx, Option.getD_some, Option.isSome_some] at hHa
    have HF : Hid (onlyF m l bb t = if has l t = bb then some x else none) := by show _ = _; unfold onlyF; rw [hx]
    rw [HF.out]
    clear hx HF
    generalize has l t = h at HC ⊢
    have hgh := fun W => hg h W
    have HR : Hid ((if h = bb then some x else none : Option Int).isSome = (h == bb)) := by
      show _ = _
      cases h <;> cases bb <;> rfl
    have HY : Hid (∀ y, (if h = bb then some x else none : Option Int) = some y → x = y) := by
      intro y hy
      split at hy
      · cases hy; rfl
      · cases hy
    generalize (if h = bb then some x else none : Option Int) = o at HR HY ⊢
    rw [HR.out]
    clear HR
    generalize (h == bb) = q at hgh ⊢
    go_enter Try.func53, Try.ntmps53
    go_wp2_with fail
    refine hHa.mono ?_
    rintro e W0 ⟨rfl, hb1⟩
    have HC2 : Hid (∀ s : HeldIn W0, s.w.cell? ⟨Bl, 0, none⟩ = some (.slice lo l.length cl) ∧ s.w.cell? ⟨Bw, 0, none⟩ = some (.func (.func g) #[] #[]) ∧ Calls Try.prog 54 #[.slice lo l.length cl, .int .i64 t] s.w fun e w' => e = .returned (.bool h) ∧ Below s.w.heap.size s.w w') := fun s => HC.out s.w (ptw hb1 s.h)
    have f1 : ∀ s : HeldIn W0, s.w.cell? ⟨Bl, 0, none⟩ = some (.slice lo l.length cl) := fun s => (HC2.out s).1
    have f2 : ∀ s : HeldIn W0, s.w.cell? ⟨Bw, 0, none⟩ = some (.func (.func g) #[] #[]) := fun s => (HC2.out s).2.1
    have hne : Nonempty (HeldIn W0) := ⟨⟨W0, Below.refl _ _⟩⟩
    go_wp2_with fail
    refine wp_region_held W0 (Below.refl _ _) (by kernel_rfl) (by kernel_rfl) ?_
    repeat (go_big_quiet_step ((first | (go_at_call 54; exact held_of (HC2.out _).2.2) | (go_at_fn g; exact held_same (hgh _)))))
    refine wpQuiet_nil ?_
    rintro _ ⟨s, rfl⟩
    have hbs := ptw hb1 s.h
    generalize s.w = w1 at hbs ⊢
    clear f1 f2 hne HC2
    go_wp2
    go_ret2
    exact ⟨⟨x, rfl, HY.out⟩, hbs⟩

/-- what Cut (bb false) and Keep (bb true) come to -/
def OnlyIs (m : List (Int × Int × Int)) (l : List (Int × Int)) (bb : Bool) (n : Int) (r : List (Int × Int × Int)) : Prop :=
  (¬ mchk m = 0 ∧ n = mchk m ∧ r = []) ∨ (mchk m = 0 ∧ ¬ chk l = 0 ∧ n = chk l ∧ r = []) ∨ (mchk m = 0 ∧ chk l = 0 ∧ MapIs (turnsOf m ++ flat l) (onlyF m l bb) n r)
theorem onlyIs_unique {m : List (Int × Int × Int)} {l : List (Int × Int)} {bb : Bool} {n n' : Int} {r r' : List (Int × Int × Int)} (h : OnlyIs m l bb n r) (h' : OnlyIs m l bb n' r') : n = n' ∧ r = r' := by
  rcases h with ⟨h0, h1, h2⟩ | ⟨h0, h0', h1, h2⟩ | ⟨h0, h0', h1⟩
  · rcases h' with ⟨g0, g1, g2⟩ | ⟨g0, g0', g1, g2⟩ | ⟨g0, g0', g1⟩
    · exact ⟨h1.trans g1.symm, h2.trans g2.symm⟩
    · exact absurd g0 h0
    · exact absurd g0 h0
  · rcases h' with ⟨g0, g1, g2⟩ | ⟨g0, g0', g1, g2⟩ | ⟨g0, g0', g1⟩
    · exact absurd h0 g0
    · exact ⟨h1.trans g1.symm, h2.trans g2.symm⟩
    · exact absurd g0' h0'
  · rcases h' with ⟨g0, g1, g2⟩ | ⟨g0, g0', g1, g2⟩ | ⟨g0, g0', g1⟩
    · exact absurd h0 g0
    · exact absurd h0' g0'
    · exact mapIs_unique h1 g1
theorem chk_bad {l : List (Int × Int)} (h : ¬ chk l = 0) : ∃ n, chk l = n ∧ (n = 2 ∨ n = 5) := by
  rcases chk_cases l with e | e | ⟨e, _⟩
  · exact ⟨2, e, .inl rfl⟩
  · exact ⟨5, e, .inr rfl⟩
  · exact absurd e h
theorem chk_good {l : List (Int × Int)} (h : chk l = 0) : l.length ≤ 200 ∧ Canon l ∧ ∀ x ∈ flat l, nearB x := by
  rcases chk_cases l with e | e | ⟨_, h1, h2, h3⟩
  · omega
  · omega
  · exact ⟨h1, canon_of_form h3, near_flat h2⟩

set_option maxRecDepth 100000 in
set_option maxHeartbeats 4000000 in
theorem pick_any (g : Nat) (bb : Bool) (eg : ∀ args w, (callFunc g args).run Try.prog w = .ok (.enter g args) w) (hg : ∀ x w, Calls Try.prog g #[.bool x] w fun e w' => e = .returned (.bool (x == bb)) ∧ w' = w)
    (ao lo : Option Addr) (ca cl : Nat) (m : List (Int × Int × Int)) (l : List (Int × Int)) (w : World) (hA : PcAt w ao m) (hL : IvAt w lo l) :
    Calls Try.prog 32 #[.slice ao m.length ca, .slice lo l.length cl, .func (.func g) #[] #[]] w fun e w' => ∃ n r, OnlyIs m l bb n r ∧ Told3 w w' e n r := by
  have h1 := fun W (h : Below w.heap.size w W) => PCheck_any ao ca m W (hA.below h)
  have h2 := fun W (h : Below w.heap.size w W) => check_any lo cl l W (hL.below h)
  have B0 := bx3_start w (.slice ao m.length ca) (.slice lo l.length cl) (.func (.func g) #[] #[]) 23 22 54
  by_cases e1 : ¬ mchk m = 0
  · obtain ⟨n, en, hn⟩ := mchk_bad e1
    have HC : Hid (OnlyIs m l bb n []) := .inl ⟨e1, en.symm, rfl⟩
    simp only [en] at h1
    clear e1 en h2
    rcases hn with rfl | rfl
    all_goals
      go_enter Try.func32, Try.ntmps32
      go_wp2_with fail
      refine (h1 _ B0.bel).mono ?_
      rintro e w1 ⟨rfl, hb1⟩
      have g1 := ptw B0.bel hb1
      clear B0 hb1
      go_wp2
      go_ret2
      exact ⟨_, _, HC.out, _, rfl, nil3 _ _, g1⟩
  rw [Decidable.not_not] at e1
  simp only [e1] at h1
  obtain ⟨la, _, na⟩ := mchk_good e1
  have HE1 : Hid (mchk m = 0) := e1
  clear e1 na
  by_cases e2 : ¬ chk l = 0
  · obtain ⟨n, en, hn⟩ := chk_bad e2
    have HC : Hid (OnlyIs m l bb n []) := .inr (.inl ⟨HE1.out, e2, en.symm, rfl⟩)
    simp only [en] at h2
    clear e2 en
    rcases hn with rfl | rfl
    all_goals
      go_enter Try.func32, Try.ntmps32
      go_wp2_with fail
      refine (h1 _ B0.bel).mono ?_
      rintro e w1 ⟨rfl, hb1⟩
      have B1 := B0.below hb1
      have cc2 := B1.c2
      have g1 := B1.bel
      clear B0 hb1 B1
      go_wp2_with fail
      refine (h2 _ g1).mono ?_
      rintro e w2 ⟨rfl, hb2⟩
      have g2 := ptw g1 hb2
      clear g1 hb2 cc2
      go_wp2
      go_ret2
      exact ⟨_, _, HC.out, _, rfl, nil3 _ _, g2⟩
  rw [Decidable.not_not] at e2
  simp only [e2] at h2
  obtain ⟨ll, _, nl⟩ := chk_good e2
  have HE2 : Hid (chk l = 0) := e2
  clear e2 nl
  obtain ⟨i0, hi, hz0, hz1, hz2⟩ := info_parts Try.infoInt
  have hmf : ∀ (fn : Fn) (first cap : Array Value) (w : World), (Instr.makeFunc fn first cap).run Try.prog w = .ok (.func fn first cap) w := fun _ _ _ _ => rfl
  have HLN : Hid ((turnsOf m ++ flat l).length = 2 * m.length + 2 * l.length) := by show _ = _; rw [List.length_append, turnsOf_length, flat_length]
  have hgo : Hid (∀ w2, Bx3 w w2 (.slice ao m.length ca) (.slice lo l.length cl) (.func (.func g) #[] #[]) → ∀ W gg cap1, W.ownsRow w2.heap.size 3 1 (.slice (some ⟨gg, 0, none⟩) (2 * m.length + 2 * l.length) cap1) (2 * m.length + 2 * l.length) ((turnsOf m ++ flat l).map (Value.int .i64)) → Below w2.heap.size w2 W →
      Calls Try.prog 37 #[.slice (some ⟨gg, 0, none⟩) (2 * m.length + 2 * l.length) cap1, .func (.func 53) #[] #[.pointer (some ⟨w.heap.size, 0, none⟩), .pointer (some ⟨w.heap.size + 1 + 1, 0, none⟩), .pointer (some ⟨w.heap.size + 1, 0, none⟩)]] W fun e w' => ∃ n r v', OnlyIs m l bb n r ∧ e = .returned (.tuple #[v', .int .i64 n]) ∧ w'.ownsRow w.heap.size 25 3 v' r.length (enc3 r) ∧ Below w2.heap.size w2 w') := by
    intro w2 B2 W gg cap1 hv hbW
    have hp : ∀ t wq, Below w2.heap.size w2 wq → Calls Try.prog 53 (#[.int .i64 t] ++ #[.pointer (some ⟨w.heap.size, 0, none⟩), .pointer (some ⟨w.heap.size + 1 + 1, 0, none⟩), .pointer (some ⟨w.heap.size + 1, 0, none⟩)]) wq fun e w' => (∃ x, e = .returned (.tuple #[.int .i64 x, .bool (onlyF m l bb t).isSome]) ∧ ∀ y, onlyF m l bb t = some y → x = y) ∧ Below wq.heap.size wq w' := by
      intro t wq hq
      have Bq := B2.below hq
      exact pick1_any g bb eg hg w.heap.size (w.heap.size + 1) (w.heap.size + 1 + 1) ao lo ca cl m l t wq (hA.below Bq.bel) (hL.below Bq.bel) la ll Bq.c1 Bq.c2 Bq.c3
    have hbl := build_own 53 _ (onlyF m l bb) (enters_of Try.func53 (by kernel_rfl) rfl) w2 W hbW hp gg cap1 (turnsOf m ++ flat l) (by rw [HLN.out]; exact hv) (by rw [HLN.out]; omega)
    rw [HLN.out] at hbl
    refine hbl.mono ?_
    rintro e w' ⟨n, r, v', hM, rfl, ho, hb⟩
    exact ⟨n, r, v', .inr (.inr ⟨HE1.out, HE2.out, hM⟩), rfl, ownsRow_base ho B2.bel.size, hb⟩
  have HPA : Hid (∀ W, Below w.heap.size w W → PcAt W ao m ∧ IvAt W lo l) := fun W h => ⟨hA.below h, hL.below h⟩
  clear hA hL hg
  go_enter Try.func32, Try.ntmps32
  go_wp2_with fail
  refine (h1 _ B0.bel).mono ?_
  rintro e w1 ⟨rfl, hb1⟩
  have B1 := B0.below hb1
  have cc2 := B1.c2
  have g1 := B1.bel
  clear B0 hb1
  go_wp2_with fail
  refine (h2 _ g1).mono ?_
  rintro e w2 ⟨rfl, hb2⟩
  have B2 := B1.below hb2
  clear g1 hb2 cc2 B1 h1 h2
  have cc1 := B2.c1
  have HB2 := hide3 B2
  have HGF := hide3 (hgo.out w2 B2)
  clear hgo
  go_wp2_with fail
  refine (pbounds_any ao ca m w2 (HPA.out w2 B2.bel).1 la).mono ?_
  rintro e w3 ⟨g3, rfl, hown3, hb3⟩
  have cc2 := (B2.below hb3).c2
  have HPL := hide3 (fun W (h : Below w2.heap.size w2 W) => (HPA.out W (ptw B2.bel h)).2)
  have HBel := hide3 B2.bel
  clear B2 cc1 HPA
  go_wp2_with fail
  go_loopw [10, 27] (fun v i wr => ∃ (k gg cc : Nat), k ≤ l.length ∧ i = .int .i64 k ∧ v = .slice (some ⟨gg, 0, none⟩) (2 * m.length + 2 * k) cc ∧ wr.ownsRow w2.heap.size 3 1 (.slice (some ⟨gg, 0, none⟩) (2 * m.length + 2 * k) cc) (2 * m.length + 2 * k) ((turnsOf m ++ flat (l.take k)).map (Value.int .i64)) ∧ Below w2.heap.size w2 wr) (fun _ i _ => l.length - (intOf i).toNat)
  case atStart => exact ⟨0, g3, 2 * m.length, Nat.zero_le _, rfl, rfl, by simpa [flat] using hown3, hb3⟩
  case round =>
    obtain ⟨k, gg, cc, hk, rfl, rfl, hown, hb⟩ := hrel
    have hsz := hb.size
    by_cases hlt : k < l.length
    · rcases HPL.out wr hb with h0 | ⟨b, off, rfl, hbw, hc⟩
      · subst h0; simp at hlt
      obtain ⟨c0, c1⟩ := hc k hlt
      have hg : l.getD k (0, 0) = l[k] := by simp [List.getD_eq_getElem?_getD, List.getElem?_eq_getElem hlt]
      rw [hg] at c0 c1
      clear hc hg
      go_wp2_with (at_builtin; refine wpList_append_lies _ rfl _ _ 58 rfl w2.heap.size 3 i0 (.int .i64 0) 1 8 Try.underlying58 hi hz0 hz1 hz2 rfl (by decide) _ (2 * m.length + 2 * k) _ rfl ((hown.alloc _).alloc _) ⟨wr.heap.size + 1, 0, none⟩ 2 2 [.int .i64 l[k].1, .int .i64 l[k].2] rfl rfl ?c1 ?c2 ?c3 ?c4 ?c5 ?c6 _ rfl ?_)
      case c1 => exact cells_two_new _ _ _ _ _ (by simp)
      case c2 => intro u hu; simp at hu; rcases hu with rfl | rfl <;> rfl
      case c3 => omega
      case c4 => unfold maxLen; omega
      case c5 => omega
      case c6 => simp; omega
      intro g5 cap5 w5 hown5 hgrow hat hltg
      have R : w5.ownsRow w2.heap.size 3 1 (.slice (some ⟨g5, 0, none⟩) (2 * m.length + 2 * (k + 1)) cap5) (2 * m.length + 2 * (k + 1)) ((turnsOf m ++ flat (l.take (k + 1))).map (Value.int .i64)) := by
        rw [flat_succ l k hlt]; simp only [List.map_append, List.map_cons, List.map_nil]; exact hown5
      have hb' : Below w2.heap.size w2 w5 := ((hb.alloc hsz _).alloc (by simp; omega) _).grown hgrow (by simp; omega) (fun j hj => (hown.lt j hj).1)
      clear hown hown5 hgrow hat hltg
      go_wp2
      go_roundw
      case rel => exact ⟨k + 1, g5, cap5, by omega, by go_num, rfl, R, hb'⟩
      case measure => simp [intOf]; omega
    · have hkl : k = l.length := by omega
      subst hkl
      rw [List.take_length] at hown
      have hbl := HGF.out wr gg cc hown hb
      clear hown
      go_wp2_with fail
      refine hbl.mono ?_
      rintro e w6 ⟨n6, r6, v6, hM6, rfl, ho6, hb6⟩
      have HM6 := hide3 hM6
      have hbF : Below w.heap.size w w6 := ptw HBel.out hb6
      clear hM6 hb6 hbl
      go_wp2
      go_ret2
      exact ⟨n6, r6, HM6.out, v6, rfl, ho6, hbF⟩

theorem Cut_fn (x : Bool) (w : World) : Calls Try.prog 33 #[.bool x] w fun e w' => e = .returned (.bool (x == false)) ∧ w' = w := by
  cases x
  all_goals
    go_enter Try.func33, Try.ntmps33
    go_wp2
    go_ret
    exact ⟨rfl, rfl⟩
theorem Keep_fn (x : Bool) (w : World) : Calls Try.prog 34 #[.bool x] w fun e w' => e = .returned (.bool (x == true)) ∧ w' = w := by
  cases x
  all_goals
    go_enter Try.func34, Try.ntmps34
    go_wp2
    go_ret
    exact ⟨rfl, rfl⟩
theorem Cut_any (ao lo : Option Addr) (ca cl : Nat) (m : List (Int × Int × Int)) (l : List (Int × Int)) (w : World) (hA : PcAt w ao m) (hL : IvAt w lo l) :
    Calls Try.prog 16 #[.slice ao m.length ca, .slice lo l.length cl] w fun e w' => ∃ n r, OnlyIs m l false n r ∧ Told3 w w' e n r := by
  have hc := pick_any 33 false (enters_of Try.func33 (by kernel_rfl) rfl) Cut_fn ao lo ca cl m l w hA hL
  go_enter Try.func16, Try.ntmps16
  go_wp2_with fail
  refine hc.mono ?_
  rintro e w1 ⟨n, r, hC, v, rfl, ho, hb⟩
  go_wp2
  go_ret2
  exact ⟨_, _, hC, _, rfl, ho, hb⟩
theorem Keep_any (ao lo : Option Addr) (ca cl : Nat) (m : List (Int × Int × Int)) (l : List (Int × Int)) (w : World) (hA : PcAt w ao m) (hL : IvAt w lo l) :
    Calls Try.prog 17 #[.slice ao m.length ca, .slice lo l.length cl] w fun e w' => ∃ n r, OnlyIs m l true n r ∧ Told3 w w' e n r := by
  have hc := pick_any 34 true (enters_of Try.func34 (by kernel_rfl) rfl) Keep_fn ao lo ca cl m l w hA hL
  go_enter Try.func17, Try.ntmps17
  go_wp2_with fail
  refine hc.mono ?_
  rintro e w1 ⟨n, r, hC, v, rfl, ho, hb⟩
  go_wp2
  go_ret2
  exact ⟨_, _, hC, _, rfl, ho, hb⟩

end Go.Proofs.Ytjlnokjaabcldah
