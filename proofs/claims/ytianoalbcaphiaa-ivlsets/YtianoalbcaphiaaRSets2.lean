/-
  The walk of Sets of the reference.
-/
import Derived.Test.YtianoalbcaphiaaRSets
import Derived.Deep.RegionWith
import Derived.Deep.RegionHeld3
import Derived.Deep.AppendLies
namespace Go.Proofs.Ytianoalbcaphiaa
open Go.RowKit

theorem bt {a b c : World} (h1 : Below a.heap.size a b) (h2 : Below b.heap.size b c) : Below a.heap.size a c := h1.trans (h2.mono h1.size)
theorem ba (w : World) (o : Obj) : Below w.heap.size w (w.alloc o) := (Below.refl _ _).alloc (Nat.le_refl _) o

/-- the three boxes of Sets -/
structure Bx (w W : World) (x y z : Value) : Prop where
  c1 : W.cell? ⟨w.heap.size, 0, none⟩ = some x
  c2 : W.cell? ⟨w.heap.size + 1, 0, none⟩ = some y
  c3 : W.cell? ⟨w.heap.size + 1 + 1, 0, none⟩ = some z
  bel : Below w.heap.size w W
  lt : w.heap.size + 2 < W.heap.size

theorem bx_start (w : World) (x y z : Value) (t1 t2 t3 : TypeId) : Bx w (((w.alloc (.cells #[x] t1)).alloc (.cells #[y] t2)).alloc (.cells #[z] t3)) x y z := by
  refine ⟨?_, ?_, ?_, bt (ba _ _) (bt (ba _ _) (ba _ _)), by simp⟩
  · rw [World.cell?_alloc_past _ _ _ (by simp; omega), World.cell?_alloc_past _ _ _ (by simp), World.cell?_alloc_at _ _ _ _ rfl]; rfl
  · rw [World.cell?_alloc_past _ _ _ (by simp), World.cell?_alloc_at _ _ _ _ (by simp)]; rfl
  · rw [World.cell?_alloc_at _ _ _ _ (by simp)]; rfl
theorem Bx.below {w W W' : World} {x y z : Value} (h : Bx w W x y z) (hb : Below W.heap.size W W') : Bx w W' x y z := by
  have l := h.lt
  refine ⟨?_, ?_, ?_, bt h.bel hb, Nat.lt_of_lt_of_le l hb.size⟩
  · rw [hb.cell (p := ⟨w.heap.size, 0, none⟩) (by show w.heap.size < _; omega)]; exact h.c1
  · rw [hb.cell (p := ⟨w.heap.size + 1, 0, none⟩) (by show w.heap.size + 1 < _; omega)]; exact h.c2
  · rw [hb.cell (p := ⟨w.heap.size + 1 + 1, 0, none⟩) (by show w.heap.size + 1 + 1 < _; omega)]; exact h.c3

theorem ends_nil (ao : Option Addr) (cap : Nat) (l : List (Int × Int)) (w : World) (hl : IvAt w ao l) (h0 : l = []) :
    Calls Try.prog 37 #[.slice ao l.length cap] w fun e w' => e = .returned (.slice none 0 0) ∧ Below w.heap.size w w' :=
  (ends_any ao cap l w hl (by rw [h0]; simp)).mono fun e w' ⟨v, he, _, hn, hb⟩ => ⟨by rw [he, hn (by rw [h0]; rfl)], hb⟩
theorem ends_some (ao : Option Addr) (cap : Nat) (l : List (Int × Int)) (w : World) (hl : IvAt w ao l) (h3 : l.length ≤ 200) (h0 : l ≠ []) :
    Calls Try.prog 37 #[.slice ao l.length cap] w fun e w' => ∃ g c, e = .returned (.slice (some ⟨g, 0, none⟩) (2 * l.length) c) ∧ w'.ownsRow w.heap.size 3 1 (.slice (some ⟨g, 0, none⟩) (2 * l.length) c) (2 * l.length) ((flat l).map (Value.int .i64)) ∧ Below w.heap.size w w' := by
  refine (ends_any ao cap l w hl h3).mono ?_
  rintro e w' ⟨v, rfl, hown, _, hb⟩
  have hp : 0 < l.length := by cases l; exact absurd rfl h0; simp
  rcases hown.2 with ⟨_, h⟩ | ⟨g, c, cur, rfl, _⟩
  · omega
  · exact ⟨g, c, rfl, hown, hb⟩

set_option maxRecDepth 100000 in
set_option maxHeartbeats 4000000 in
theorem Sets_any (kk : Int) (want : Bool → Bool → Bool) (hkw : (kk = 0 ∧ want = wOr) ∨ (kk = 1 ∧ want = wAnd) ∨ (kk = 2 ∧ want = wNot)) (ao bo : Option Addr) (ca cb : Nat) (a b : List (Int × Int)) (w : World) (hA : IvAt w ao a) (hB : IvAt w bo b) :
    Calls Try.prog 18 #[.slice ao a.length ca, .slice bo b.length cb, .int .i64 kk] w fun e w' => ∃ n r, RefIs want a b n r ∧ Told w w' e n r := by
  have hw0 : want false false = false := by rcases hkw with ⟨_, rfl⟩ | ⟨_, rfl⟩ | ⟨_, rfl⟩ <;> rfl
  have HW : Hid (want false false = false) := hw0
  have HKW : Hid ((kk = 0 ∧ want = wOr) ∨ (kk = 1 ∧ want = wAnd) ∨ (kk = 2 ∧ want = wNot)) := hkw
  clear hw0 hkw
  have h1 := fun W (h : Below w.heap.size w W) => RSet_any ao ca a W (hA.below h)
  have h2 := fun W (h : Below w.heap.size w W) => RSet_any bo cb b W (hB.below h)
  rcases chk_cases a with e1 | e1 | ⟨e1, la, na, fa⟩
  · simp only [e1] at h1
    have HC : Hid (RefIs want a b 2 []) := .inl ⟨by rw [e1]; decide, e1.symm, rfl⟩
    clear e1 h2
    go_enter Try.func18, Try.ntmps18
    go_wp2_with fail
    have B0 := bx_start w (.slice ao a.length ca) (.slice bo b.length cb) (.int .i64 kk) 22 22 3
    refine (h1 _ B0.bel).mono ?_
    rintro e w1 ⟨rfl, hb1⟩
    have g1 := bt B0.bel hb1
    clear B0 hb1
    go_wp2
    go_ret2
    exact ⟨_, _, HC.out, _, _, rfl, .inl rfl, g1⟩
  · simp only [e1] at h1
    have HC : Hid (RefIs want a b 5 []) := .inl ⟨by rw [e1]; decide, e1.symm, rfl⟩
    clear e1 h2
    go_enter Try.func18, Try.ntmps18
    go_wp2_with fail
    have B0 := bx_start w (.slice ao a.length ca) (.slice bo b.length cb) (.int .i64 kk) 22 22 3
    refine (h1 _ B0.bel).mono ?_
    rintro e w1 ⟨rfl, hb1⟩
    have g1 := bt B0.bel hb1
    clear B0 hb1
    go_wp2
    go_ret2
    exact ⟨_, _, HC.out, _, _, rfl, .inl rfl, g1⟩
  simp only [e1] at h1
  have HE1 : Hid (chk a = 0) := e1
  clear e1 na fa
  rcases chk_cases b with e2 | e2 | ⟨e2, lb, nb, fb⟩
  · simp only [e2] at h2
    have HC : Hid (RefIs want a b 2 []) := .inr (.inl ⟨HE1.out, by rw [e2]; decide, e2.symm, rfl⟩)
    clear e2
    go_enter Try.func18, Try.ntmps18
    go_wp2_with fail
    have B0 := bx_start w (.slice ao a.length ca) (.slice bo b.length cb) (.int .i64 kk) 22 22 3
    refine (h1 _ B0.bel).mono ?_
    rintro e w1 ⟨rfl, hb1⟩
    have B1 := B0.below hb1
    have cc2 := B1.c2
    have g1 := B1.bel
    clear B0 hb1
    go_wp2_with fail
    refine (h2 _ g1).mono ?_
    rintro e w2 ⟨rfl, hb2⟩
    have g2 := bt g1 hb2
    clear B1 cc2 g1 hb2
    go_wp2
    go_ret2
    exact ⟨_, _, HC.out, _, _, rfl, .inl rfl, g2⟩
  · simp only [e2] at h2
    have HC : Hid (RefIs want a b 5 []) := .inr (.inl ⟨HE1.out, by rw [e2]; decide, e2.symm, rfl⟩)
    clear e2
    go_enter Try.func18, Try.ntmps18
    go_wp2_with fail
    have B0 := bx_start w (.slice ao a.length ca) (.slice bo b.length cb) (.int .i64 kk) 22 22 3
    refine (h1 _ B0.bel).mono ?_
    rintro e w1 ⟨rfl, hb1⟩
    have B1 := B0.below hb1
    have cc2 := B1.c2
    have g1 := B1.bel
    clear B0 hb1
    go_wp2_with fail
    refine (h2 _ g1).mono ?_
    rintro e w2 ⟨rfl, hb2⟩
    have g2 := bt g1 hb2
    clear B1 cc2 g1 hb2
    go_wp2
    go_ret2
    exact ⟨_, _, HC.out, _, _, rfl, .inl rfl, g2⟩
  simp only [e2] at h2
  have HE2 : Hid (chk b = 0) := e2
  clear e2 nb fb
  obtain ⟨i0, hi, hz0, hz1, hz2⟩ := info_parts Try.infoInt
  have hmf : ∀ (fn : Fn) (first cap : Array Value) (w : World), (Instr.makeFunc fn first cap).run Try.prog w = .ok (.func fn first cap) w := fun _ _ _ _ => rfl
  go_enter Try.func18, Try.ntmps18
  go_wp2_with fail
  have B0 := bx_start w (.slice ao a.length ca) (.slice bo b.length cb) (.int .i64 kk) 22 22 3
  refine (h1 _ B0.bel).mono ?_
  rintro e w1 ⟨rfl, hb1⟩
  have B1 := B0.below hb1
  have cc2 := B1.c2
  have g1 := B1.bel
  clear B0 hb1
  go_wp2_with fail
  refine (h2 _ g1).mono ?_
  rintro e w2 ⟨rfl, hb2⟩
  have B2 := B1.below hb2
  clear B1 cc2 g1 hb2 h1 h2
  have cc1 := B2.c1
  have cc2 := B2.c2
  have HB2 : Hid (Bx w w2 (.slice ao a.length ca) (.slice bo b.length cb) (.int .i64 kk)) := B2
  have hA2 := hA.below B2.bel
  have hB2 := hB.below B2.bel
  have HIA : Hid (IvAt w2 ao a) := hA2
  have HIB : Hid (IvAt w2 bo b) := hB2
  clear B2 hA hB hA2 hB2
  have hTh : Hid (∀ W v, W.ownsRow w2.heap.size 3 1 v (flat a ++ flat b).length ((flat a ++ flat b).map (Value.int .i64)) → Below w2.heap.size w2 W →
      Calls Try.prog 36 #[v, .func (.func 43) #[] #[.pointer (some ⟨w.heap.size, 0, none⟩), .pointer (some ⟨w.heap.size + 1, 0, none⟩), .pointer (some ⟨w.heap.size + 1 + 1, 0, none⟩)]] W fun e w' => ∃ ao' cap' out, e = .returned (.slice ao' out.length cap') ∧ Canon out ∧ (∀ t, has out t = want (has a t) (has b t)) ∧ IvAt w' ao' out ∧ Below W.heap.size W w') := by
    intro W v hv hbW
    have hp : ∀ t wq, Below W.heap.size W wq → Calls Try.prog 43 (#[.int .i64 t] ++ #[.pointer (some ⟨w.heap.size, 0, none⟩), .pointer (some ⟨w.heap.size + 1, 0, none⟩), .pointer (some ⟨w.heap.size + 1 + 1, 0, none⟩)]) wq fun e w' => e = .returned (.bool (want (has a t) (has b t))) ∧ Below wq.heap.size wq w' := by
      intro t wq hq
      have hq2 : Below w2.heap.size w2 wq := bt hbW hq
      have Bq := HB2.out.below hq2
      exact sets1_core w.heap.size (w.heap.size + 1) (w.heap.size + 1 + 1) kk want HKW.out ao bo ca cb a b t wq (HIA.out.below hq2) (HIB.out.below hq2) la lb Bq.c1 Bq.c2 Bq.c3
    refine (those_own 43 _ (fun t => want (has a t) (has b t)) (enters_of Try.func43 (by kernel_rfl) rfl) W hp hv (by rw [List.length_append, flat_length, flat_length]; omega)).mono ?_
    rintro e w' ⟨ao', cap', S, out, rfl, hO, hT, hI, hb⟩
    exact ⟨ao', cap', out, rfl, hT.canon, fun t => by rw [hT.pts, seg_turns hO.inc (turns_two HW.out hO.mem)], hI, hb⟩
  have hlen2 : Hid ((flat a ++ flat b).length = 2 * a.length + 2 * b.length) := by show _ = _; rw [List.length_append, flat_length, flat_length]
  by_cases hb0 : b = []
  · have hEB : Hid (∀ W, Below w2.heap.size w2 W → Calls Try.prog 37 #[.slice bo b.length cb] W fun e w' => e = .returned (.slice none 0 0) ∧ Below W.heap.size W w') := fun W h => ends_nil bo cb b W (HIB.out.below h) hb0
    have hEA : Hid (∀ W, Below w2.heap.size w2 W → Calls Try.prog 37 #[.slice ao a.length ca] W fun e w' => ∃ v, e = .returned v ∧ w'.ownsRow w2.heap.size 3 1 v (flat a ++ flat b).length ((flat a ++ flat b).map (Value.int .i64)) ∧ Below W.heap.size W w') := by
      intro W h
      refine (ends_any ao ca a W (HIA.out.below h) la).mono ?_
      rintro e w' ⟨v, rfl, hown, _, hb⟩
      refine ⟨v, rfl, ?_, hb⟩
      rw [hb0, show flat [] = [] from rfl, List.append_nil, flat_length]
      exact ⟨hown.1, hown.2.imp id (fun ⟨g, c, cur, h1, h2, h3⟩ => ⟨g, c, cur, h1, Nat.le_trans h.size h2, h3⟩)⟩
    have hl1 : w.heap.size < w2.heap.size := by have := HB2.out.lt; omega
    have hl2 : w.heap.size + 1 < w2.heap.size := by have := HB2.out.lt; omega
    clear hb0
    go_wp2_with fail
    go_region_held3 (fun w' => w'.cell? ⟨w.heap.size, 0, none⟩ = some (.slice ao a.length ca) ∧ w'.cell? ⟨w.heap.size + 1, 0, none⟩ = some (.slice bo b.length cb))
      (first | go_keep | (refine ⟨?_, ?_⟩ <;> assumption))
      (first
        | (go_at_call_of 37 (Value.slice ao a.length ca); refine (hEA.out _ (Below.refl _ _).drew).mono ?_; rintro e w3 ⟨va, rfl, hownA, hb3⟩; have hb3' : Below w2.heap.size w2 w3 := bt (Below.refl _ _).drew hb3; have k13 := (hb3'.cell (p := ⟨w.heap.size, 0, none⟩) hl1).trans cc1; have k23 := (hb3'.cell (p := ⟨w.heap.size + 1, 0, none⟩) hl2).trans cc2)
        | (go_at_call_of 37 (Value.slice bo b.length cb); refine (hEB.out _ hb3').mono ?_; rintro e w4 ⟨rfl, hb4⟩; have hb4' : Below w2.heap.size w2 w4 := bt hb3' hb4; have k14 := (hb4'.cell (p := ⟨w.heap.size, 0, none⟩) hl1).trans cc1; have k24 := (hb4'.cell (p := ⟨w.heap.size + 1, 0, none⟩) hl2).trans cc2)
        | (go_at_call 36; refine (hTh.out _ va (ownsRow_below hownA hb4) hb4').mono ?_; rintro e w6 ⟨oo, oc, out, rfl, hCn, hPt, hI6, hb6⟩; have k16 := ((bt hb4' hb6).cell (p := ⟨w.heap.size, 0, none⟩) hl1).trans cc1; have k26 := ((bt hb4' hb6).cell (p := ⟨w.heap.size + 1, 0, none⟩) hl2).trans cc2)
        | (revert hb4; intro hb4; refine step_append_none (by rfl) _ _ _ (by rfl) w2.heap.size 3 i0 1 Try.underlying54 hi va _ _ (by rfl) (ownsRow_below hownA hb4) (by rfl) ?_))
    all_goals
      have HC : Hid (∀ s, Canon s → (∀ t, has s t = want (has a t) (has b t)) → (200 < s.length → RefIs want a b 2 []) ∧ (s.length ≤ 200 → RefIs want a b 0 s)) := fun s h1 h2 => ⟨fun h => .inr (.inr ⟨HE1.out, HE2.out, s, h1, h2, .inl ⟨h, rfl, rfl⟩⟩), fun h => .inr (.inr ⟨HE1.out, HE2.out, s, h1, h2, .inr ⟨h, rfl, rfl⟩⟩)⟩
      have HR := HC.out out hCn hPt
      have HR' : Hid ((200 < out.length → RefIs want a b 2 []) ∧ (out.length ≤ 200 → RefIs want a b 0 out)) := HR
      have hbF : Below w.heap.size w w6 := bt HB2.out.bel (bt hb4' hb6)
      clear HR HC hCn hPt hb6 cc1 cc2
      by_cases h200 : 200 < out.length
      · go_wp2
        go_ret2
        exact ⟨_, _, HR'.out.1 h200, _, _, rfl, .inl rfl, hbF⟩
      · go_wp2
        go_ret2
        exact ⟨_, _, HR'.out.2 (by omega), _, _, rfl, hI6, hbF⟩
  · have hEB : Hid (∀ W, Below w2.heap.size w2 W → Calls Try.prog 37 #[.slice bo b.length cb] W fun e w' => ∃ g c, e = .returned (.slice (some ⟨g, 0, none⟩) (2 * b.length) c) ∧ w'.ownsRow W.heap.size 3 1 (.slice (some ⟨g, 0, none⟩) (2 * b.length) c) (2 * b.length) ((flat b).map (Value.int .i64)) ∧ Below W.heap.size W w') := fun W h => ends_some bo cb b W (HIB.out.below h) lb hb0
    have hEA : Hid (∀ W, Below w2.heap.size w2 W → Calls Try.prog 37 #[.slice ao a.length ca] W fun e w' => ∃ v, e = .returned v ∧ w'.ownsRow w2.heap.size 3 1 v (2 * a.length) ((flat a).map (Value.int .i64)) ∧ Below W.heap.size W w') := by
      intro W h
      refine (ends_any ao ca a W (HIA.out.below h) la).mono ?_
      rintro e w' ⟨v, rfl, hown, _, hb⟩
      exact ⟨v, rfl, ⟨hown.1, hown.2.imp id (fun ⟨g, c, cur, h1, h2, h3⟩ => ⟨g, c, cur, h1, Nat.le_trans h.size h2, h3⟩)⟩, hb⟩
    have hbp : 0 < b.length := by cases b; exact absurd rfl hb0; simp
    have hl1 : w.heap.size < w2.heap.size := by have := HB2.out.lt; omega
    have hl2 : w.heap.size + 1 < w2.heap.size := by have := HB2.out.lt; omega
    have hNB : Hid (((flat b).map (Value.int .i64)).length = 2 * b.length * 1) := by show _ = _; rw [List.length_map, flat_length]; omega
    have hOB : Hid (∀ u ∈ (flat b).map (Value.int .i64), u.oneCell' = true) := by intro u hu; rw [List.mem_map] at hu; obtain ⟨z, _, rfl⟩ := hu; rfl
    have hMx : Hid (2 * a.length + 2 * b.length ≤ maxLen) := by show _ ≤ _; unfold maxLen; omega
    have hBy : Hid ((2 * a.length + 2 * b.length) * 8 ≤ 140737488355328) := by show _ ≤ _; omega
    have hPo : Hid (0 < 2 * b.length) := by show 0 < _; omega
    have hTh2 : Hid (∀ W gg cap1, W.ownsRow w2.heap.size 3 1 (.slice (some ⟨gg, 0, none⟩) (2 * a.length + 2 * b.length) cap1) (2 * a.length + 2 * b.length) ((flat a).map (Value.int .i64) ++ (flat b).map (Value.int .i64)) → Below w2.heap.size w2 W →
        Calls Try.prog 36 #[.slice (some ⟨gg, 0, none⟩) (2 * a.length + 2 * b.length) cap1, .func (.func 43) #[] #[.pointer (some ⟨w.heap.size, 0, none⟩), .pointer (some ⟨w.heap.size + 1, 0, none⟩), .pointer (some ⟨w.heap.size + 1 + 1, 0, none⟩)]] W fun e w' => ∃ ao' cap' out, e = .returned (.slice ao' out.length cap') ∧ Canon out ∧ (∀ t, has out t = want (has a t) (has b t)) ∧ IvAt w' ao' out ∧ Below W.heap.size W w') := by
      intro W gg cap1 h1 h2
      exact hTh.out W _ (by rw [hlen2.out, List.map_append]; exact h1) h2
    clear hb0
    go_wp2_with fail
    go_region_held3 (fun w' => w'.cell? ⟨w.heap.size, 0, none⟩ = some (.slice ao a.length ca) ∧ w'.cell? ⟨w.heap.size + 1, 0, none⟩ = some (.slice bo b.length cb))
      (first | go_keep | (refine ⟨?_, ?_⟩ <;> assumption))
      (first
        | (go_at_call_of 37 (Value.slice ao a.length ca); refine (hEA.out _ (Below.refl _ _).drew).mono ?_; rintro e w3 ⟨va, rfl, hownA, hb3⟩; have hb3' : Below w2.heap.size w2 w3 := bt (Below.refl _ _).drew hb3; have k13 := (hb3'.cell (p := ⟨w.heap.size, 0, none⟩) hl1).trans cc1; have k23 := (hb3'.cell (p := ⟨w.heap.size + 1, 0, none⟩) hl2).trans cc2)
        | (go_at_call_of 37 (Value.slice bo b.length cb); refine (hEB.out _ hb3').mono ?_; rintro e w4 ⟨g2, c2, rfl, hownB, hb4⟩; have hb4' : Below w2.heap.size w2 w4 := bt hb3' hb4; have k14 := (hb4'.cell (p := ⟨w.heap.size, 0, none⟩) hl1).trans cc1; have k24 := (hb4'.cell (p := ⟨w.heap.size + 1, 0, none⟩) hl2).trans cc2)
        | (go_at_call 36; refine (hTh2.out _ _ _ hown5 hb5').mono ?_; rintro e w6 ⟨oo, oc, out, rfl, hCn, hPt, hI6, hb6⟩; have k16 := ((bt hb5' hb6).cell (p := ⟨w.heap.size, 0, none⟩) hl1).trans cc1; have k26 := ((bt hb5' hb6).cell (p := ⟨w.heap.size + 1, 0, none⟩) hl2).trans cc2)
        | (revert hb4; intro hb4; refine step_append_lies _ (by rfl) _ _ _ (by rfl) w2.heap.size 3 i0 _ 1 8 Try.underlying54 hi hz0 hz1 hz2 rfl Nat.one_pos va (2 * a.length) ((flat a).map (Value.int .i64)) (by rfl) (ownsRow_below hownA hb4) ⟨g2, 0, none⟩ (2 * b.length) c2 ((flat b).map (Value.int .i64)) (by rfl) hNB.out (hownB.cells (g := g2) rfl) hOB.out hPo.out hMx.out hBy.out hb4'.size w4.heap.size rfl ?_; intro gg cap1 w5 hown5 hgrow hat hltg; have hb5' : Below w2.heap.size w2 w5 := hb4'.grown hgrow hb4'.size (fun j hj => ((ownsRow_below hownA hb4).lt j hj).1); have k15 := (hb5'.cell (p := ⟨w.heap.size, 0, none⟩) hl1).trans cc1; have k25 := (hb5'.cell (p := ⟨w.heap.size + 1, 0, none⟩) hl2).trans cc2))
    all_goals
      have HC : Hid (∀ s, Canon s → (∀ t, has s t = want (has a t) (has b t)) → (200 < s.length → RefIs want a b 2 []) ∧ (s.length ≤ 200 → RefIs want a b 0 s)) := fun s h1 h2 => ⟨fun h => .inr (.inr ⟨HE1.out, HE2.out, s, h1, h2, .inl ⟨h, rfl, rfl⟩⟩), fun h => .inr (.inr ⟨HE1.out, HE2.out, s, h1, h2, .inr ⟨h, rfl, rfl⟩⟩)⟩
      have HR := HC.out out hCn hPt
      have HR' : Hid ((200 < out.length → RefIs want a b 2 []) ∧ (out.length ≤ 200 → RefIs want a b 0 out)) := HR
      have hbF : Below w.heap.size w w6 := bt HB2.out.bel (bt hb5' hb6)
      clear HR HC hCn hPt hb6 cc1 cc2
      by_cases h200 : 200 < out.length
      · go_wp2
        go_ret2
        exact ⟨_, _, HR'.out.1 h200, _, _, rfl, .inl rfl, hbF⟩
      · go_wp2
        go_ret2
        exact ⟨_, _, HR'.out.2 (by omega), _, _, rfl, hI6, hbF⟩

end Go.Proofs.Ytianoalbcaphiaa
