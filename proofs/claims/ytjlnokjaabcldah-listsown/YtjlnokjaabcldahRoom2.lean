/-
  What spoil and kept of the laws, and the library's Clone, do.
-/
import Derived.Test.YtjlnokjaabcldahRoom
namespace Go.Proofs.Ytjlnokjaabcldah
open Go.RowKit

theorem eql2 (x : Int × Int) (w : World) : (binOp .eql 29 (.agg #[.int .i64 x.1, .int .i64 x.2]) (.agg #[.int .i64 x.1, .int .i64 x.2])).run Try.prog w = .ok (.bool true) w := by
  have h := neq_ivl x x w
  rw [run_neq_struct] at h
  rw [run_eql_struct]
  generalize (Op.equalIn 10000 29 (.agg #[.int .i64 x.1, .int .i64 x.2]) (.agg #[.int .i64 x.1, .int .i64 x.2])).run Try.prog w = r at h ⊢
  cases r with
  | ok b w' => simp only [Result.andThen_ok, Result.ok.injEq, Value.bool.injEq] at h ⊢; exact ⟨by simpa using h.1, h.2⟩
  | _ => simp [Result.andThen] at h
theorem eql3 (x : Int × Int × Int) (w : World) : (binOp .eql 25 (.agg #[.int .i64 x.1, .int .i64 x.2.1, .int .i64 x.2.2]) (.agg #[.int .i64 x.1, .int .i64 x.2.1, .int .i64 x.2.2])).run Try.prog w = .ok (.bool true) w := by
  have h := neq_pc x x w
  rw [run_neq_struct] at h
  rw [run_eql_struct]
  generalize (Op.equalIn 10000 25 (.agg #[.int .i64 x.1, .int .i64 x.2.1, .int .i64 x.2.2]) (.agg #[.int .i64 x.1, .int .i64 x.2.1, .int .i64 x.2.2])).run Try.prog w = r at h ⊢
  cases r with
  | ok b w' => simp only [Result.andThen_ok, Result.ok.injEq, Value.bool.injEq] at h ⊢; exact ⟨by simpa using h.1, h.2⟩
  | _ => simp [Result.andThen] at h
theorem row_cell {w : World} {g j N : Nat} {cs : Array Value} {t : TypeId} (h : w.heap[g]? = some (.cells cs t (0, 0))) (hs : cs.size = N) (hj : j < N) : ∃ u, w.cell? ⟨g, j, none⟩ = some u := by
  have hlt : j < cs.size := by omega
  exact ⟨cs[j], by rw [cell_of_row w g j cs t (0, 0) h]; exact Array.getElem?_eq_getElem hlt⟩
theorem row_set {w : World} {g j : Nat} {cs : Array Value} {t : TypeId} (h : w.heap[g]? = some (.cells cs t (0, 0))) (u : Value) : ∃ cs' : Array Value, (w.setCell ⟨g, j, none⟩ u).heap[g]? = some (.cells cs' t (0, 0)) ∧ cs'.size = cs.size :=
  ⟨_, heap_setCell_same w g j cs t u h, by simp⟩
theorem box_set {w : World} {g j k i : Nat} {v : Value} (hne : k ≠ g) (h : w.cell? ⟨k, i, none⟩ = some v) (u : Value) : (w.setCell ⟨g, j, none⟩ u).cell? ⟨k, i, none⟩ = some v :=
  (World.cell?_of_block (w := w) (a := ⟨k, i, none⟩) (heap_setCell_other w ⟨g, j, none⟩ k u hne)).trans h

theorem cells2 {w : World} {g : Nat} {l m : List (Int × Int)} (h : IvAt w (some ⟨g, 0, none⟩) (l ++ m)) : ∀ j u, (encs l)[j]? = some u → w.cell? ((⟨g, 0, none⟩ : Addr).add j) = some u := by
  intro j u hj
  have hlt := (List.getElem?_eq_some_iff.1 hj).1
  unfold encs at hlt hj
  rw [List.length_map, flat_length] at hlt
  rcases h with h0 | ⟨b, off, he, _, hc⟩
  · have : l = [] := (List.append_eq_nil_iff.1 h0).1
    subst this; simp at hlt
  simp only [Option.some.injEq, Addr.mk.injEq, and_true] at he
  obtain ⟨rfl, rfl⟩ := he
  have hk : j / 2 < l.length := by omega
  obtain ⟨c0, c1⟩ := hc (j / 2) (by rw [List.length_append]; omega)
  rw [show (l ++ m).getD (j / 2) (0, 0) = l.getD (j / 2) (0, 0) from by simp [List.getD_eq_getElem?_getD, List.getElem?_append_left hk], Nat.zero_add] at c0 c1
  obtain ⟨f0, f1⟩ := flat_getD l (j / 2) hk
  rw [Addr.add_lit, Nat.zero_add]
  rw [List.getElem?_map] at hj
  rcases (show j = j / 2 * 2 ∨ j = j / 2 * 2 + 1 by omega) with e | e
  · rw [e, f0] at hj; rw [e, c0]; exact hj
  · rw [e, f1] at hj; rw [e, c1]; exact hj
theorem cells3 {w : World} {g : Nat} {l m : List (Int × Int × Int)} (h : PcAt w (some ⟨g, 0, none⟩) (l ++ m)) : ∀ j u, (enc3 l)[j]? = some u → w.cell? ((⟨g, 0, none⟩ : Addr).add j) = some u := by
  intro j u hj
  have hlt := (List.getElem?_eq_some_iff.1 hj).1
  rw [enc3_length] at hlt
  unfold enc3 at hj
  rcases h with h0 | ⟨b, off, he, _, hc⟩
  · have : l = [] := (List.append_eq_nil_iff.1 h0).1
    subst this; simp at hlt
  simp only [Option.some.injEq, Addr.mk.injEq, and_true] at he
  obtain ⟨rfl, rfl⟩ := he
  have hk : j / 3 < l.length := by omega
  obtain ⟨c0, c1, c2⟩ := hc (j / 3) (by rw [List.length_append]; omega)
  rw [show (l ++ m).getD (j / 3) (0, 0, 0) = l.getD (j / 3) (0, 0, 0) from by simp [List.getD_eq_getElem?_getD, List.getElem?_append_left hk], Nat.zero_add] at c0 c1 c2
  obtain ⟨f0, f1, f2⟩ := flat3_getD l (j / 3) hk
  rw [Addr.add_lit, Nat.zero_add]
  rw [List.getElem?_map] at hj
  rcases (show j = j / 3 * 3 ∨ j = j / 3 * 3 + 1 ∨ j = j / 3 * 3 + 2 by omega) with e | e | e
  · rw [e, f0] at hj; rw [e, c0]; exact hj
  · rw [e, f1] at hj; rw [e, c1]; exact hj
  · rw [e, f2] at hj; rw [e, c2]; exact hj

set_option maxRecDepth 100000 in
set_option maxHeartbeats 4000000 in
theorem clone2_any (g cap : Nat) (l m : List (Int × Int)) (w : World) (hl : IvAt w (some ⟨g, 0, none⟩) (l ++ m)) (h3 : l.length ≤ 400) :
    Calls Try.prog 9 #[.slice (some ⟨g, 0, none⟩) l.length cap] w fun e w' => ∃ v', e = .returned v' ∧ w'.ownsRow w.heap.size 29 2 v' l.length (encs l) ∧ Below w.heap.size w w' := by
  obtain ⟨i0, hi, hz0, hz1, hz2⟩ := info_parts Try.infoIvl
  have q22 : ∀ (w : World) (a : Option Addr) (n c n' c' : Nat), (binOp .eql 22 (.slice a n c) (.slice none n' c')).run Try.prog w = .ok (.bool a.isNone) w := fun w a n c n' c' => Lib.run_eql_slice_nil w _ _ a n c n' c' Try.underlying22
  have hc : ∀ o, ∀ j u, (encs l)[j]? = some u → (w.alloc o).cell? ((⟨g, 0, none⟩ : Addr).add j) = some u := fun o => cells2 (hl.below ((Below.refl _ _).alloc (Nat.le_refl _) _))
  have HC := hide2 hc
  have hel : (encs l).length = l.length * 2 := by unfold encs; rw [List.length_map, flat_length]; omega
  have hone : ∀ u ∈ encs l, u.oneCell' = true := by intro u hu; unfold encs at hu; rw [List.mem_map] at hu; obtain ⟨z, _, rfl⟩ := hu; rfl
  have HEL := hide2 hel
  have HONE := hide2 hone
  clear hc hl hel hone
  go_enter Try.func9, Try.ntmps9
  go_wp2_with (at_builtin; refine wpList_append_own _ rfl _ _ 22 rfl w.heap.size 29 i0 (.agg #[.int .i64 0, .int .i64 0]) 2 16 Try.underlying22 hi hz0 hz1 hz2 rfl (by decide) _ _ _ rfl (World.ownsRow_made w #[] 0 (Nat.le_refl _) (Nat.zero_le _) rfl) ⟨g, 0, none⟩ l.length cap (encs l) rfl HEL.out (HC.out _) HONE.out (by unfold maxLen; omega) (by omega) (by simp) ?_; intro v' w1 hown hgrow hnil)
  have hb : Below w.heap.size w w1 := ((Below.refl _ w).alloc (Nat.le_refl _) _).grown hgrow (by simp) (fun k hk => by cases hk; exact Nat.le_refl _)
  have R : w1.ownsRow w.heap.size 29 2 v' l.length (encs l) := by simpa using hown
  clear hown hgrow hnil
  go_wp2
  go_ret
  exact ⟨v', rfl, R, hb⟩

set_option maxRecDepth 100000 in
set_option maxHeartbeats 4000000 in
theorem spoil2_any (base : Nat) (v : Value) (n : Nat) (xs : List Value) (p : (Int × Int)) (w : World) (hown : w.ownsRow base 29 2 v n xs) (hbase : base ≤ w.heap.size) :
    Calls Try.prog 14 #[v, .agg #[.int .i64 p.1, .int .i64 p.2]] w fun e w' => e = .returned (.tuple #[]) ∧ Below base w w' := by
  have HB0 : Hid (∀ o, Below base w (w.alloc o)) := fun o => (Below.refl _ _).alloc hbase o
  rcases hown.2 with ⟨rfl, h0⟩ | ⟨g, cap, cur, rfl, hbg, hh, h1, h2, h4, h5⟩
  · clear hown
    go_enter Try.func14, Try.ntmps14
    go_wp2
    refine wp_loop_rounds 1 ?_
    rw [rounds_succ]
    go_wp2
    go_end0
    exact ⟨rfl, HB0.out _⟩
  · have hgl : g < w.heap.size := (Array.getElem?_eq_some_iff.1 hh).1
    have hcap : cap ≤ 9223372036854775807 := by unfold maxLen at h2; omega
    have hh0 := hh
    clear hown h5 h2
    obtain ⟨w0, hw0⟩ : ∃ w0, w0 = w.alloc (.cells #[.int .i64 p.1, .int .i64 p.2] 29) := ⟨_, rfl⟩
    have B0 : Below base w w0 := by rw [hw0]; exact HB0.out _
    have d0 : w0.cell? ⟨w.heap.size, 0, none⟩ = some (.int .i64 p.1) := by rw [hw0, World.cell?_alloc_at _ _ _ _ rfl]; rfl
    have d1 : w0.cell? ⟨w.heap.size, 1, none⟩ = some (.int .i64 p.2) := by rw [hw0, World.cell?_alloc_at _ _ _ _ rfl]; rfl
    have hs0 : w.heap.size < w0.heap.size := World.block_lt_of_cell? w0 _ d0
    have hh1 : w0.heap[g]? = some (.cells cur 29 (0, 0)) := by rw [hw0, heap_alloc_old w _ hgl]; exact hh
    have hn1 : n ≤ cap := h1
    clear hh hh0 h1 HB0
    go_enter Try.func14, Try.ntmps14
    go_wp2_with fail
    rw [← hw0]
    clear hw0
    go_loopw [11] (fun i wr => ∃ (k : Nat) (cs : Array Value), k ≤ cap ∧ i = .int .i64 k ∧ wr.heap[g]? = some (.cells cs 29 (0, 0)) ∧ cs.size = cap * 2 ∧ wr.cell? ⟨w.heap.size, 0, none⟩ = some (.int .i64 p.1) ∧ wr.cell? ⟨w.heap.size, 1, none⟩ = some (.int .i64 p.2) ∧ Below base w wr) (fun i _ => cap - (intOf i).toNat)
    case atStart => exact ⟨0, cur, Nat.zero_le _, rfl, hh1, h4, d0, d1, B0⟩
    case round =>
      obtain ⟨k, cs, hk, rfl, hg, hcs, e0, e1, hb⟩ := hrel
      by_cases hlt : k < cap
      · obtain ⟨x0, c0⟩ := row_cell (j := k * 2) hg hcs (by omega)
        have f0 := frozen_of_row wr g (k * 2) cs _ hg
        obtain ⟨x1, c1⟩ := row_cell (j := k * 2 + 1) hg hcs (by omega)
        have f1 := frozen_of_row wr g (k * 2 + 1) cs _ hg
        have HR := hide2 (fun (u0 u1 : Value) => (by
          obtain ⟨cs0, t0, s0⟩ := row_set (j := k * 2) hg u0
          obtain ⟨cs1, t1, s1⟩ := row_set (j := k * 2 + 1) t0 u1
          exact ⟨cs1, t1, by omega, (box_set (by omega) (box_set (by omega) e0 u0) u1), (box_set (by omega) (box_set (by omega) e1 u0) u1), ((hb.setCell (p := ⟨g, k * 2, none⟩) hbg u0).setCell (p := ⟨g, k * 2 + 1, none⟩) hbg u1)⟩ : ∃ cs' : Array Value, ((wr.setCell ⟨g, k * 2, none⟩ u0).setCell ⟨g, k * 2 + 1, none⟩ u1).heap[g]? = some (.cells cs' 29 (0, 0)) ∧ cs'.size = cap * 2 ∧ ((wr.setCell ⟨g, k * 2, none⟩ u0).setCell ⟨g, k * 2 + 1, none⟩ u1).cell? ⟨w.heap.size, 0, none⟩ = some (.int .i64 p.1) ∧ ((wr.setCell ⟨g, k * 2, none⟩ u0).setCell ⟨g, k * 2 + 1, none⟩ u1).cell? ⟨w.heap.size, 1, none⟩ = some (.int .i64 p.2) ∧ Below base w ((wr.setCell ⟨g, k * 2, none⟩ u0).setCell ⟨g, k * 2 + 1, none⟩ u1)))
        clear hg hb hh1
        go_wp2
        obtain ⟨cs', q1, q2, b0, b1, q4⟩ := HR.out (.int .i64 p.1) (.int .i64 p.2)
        go_roundw
        case rel => exact ⟨k + 1, cs', by omega, by go_num, q1, q2, b0, b1, q4⟩
        case measure => simp [intOf]; omega
      · have hkl : k = cap := by omega
        subst hkl
        go_wp2
        go_end0
        exact ⟨rfl, hb⟩

set_option maxRecDepth 100000 in
set_option maxHeartbeats 4000000 in
theorem kept2_any (g cap : Nat) (l : List (Int × Int)) (p : (Int × Int)) (w : World) (hl : IvAt w (some ⟨g, 0, none⟩) (l ++ [p, p])) (h3 : l.length ≤ 400) (hc : l.length + 2 ≤ cap) :
    Calls Try.prog 23 #[.slice (some ⟨g, 0, none⟩) l.length cap, .agg #[.int .i64 p.1, .int .i64 p.2]] w fun e w' => e = .returned (.bool true) ∧ Below w.heap.size w w' := by
  obtain ⟨w0, hw0⟩ : ∃ w0, w0 = w.alloc (.cells #[.int .i64 p.1, .int .i64 p.2] 29) := ⟨_, rfl⟩
  have B0 : Below w.heap.size w w0 := by rw [hw0]; exact (Below.refl _ _).alloc (Nat.le_refl _) _
  have d0 : w0.cell? ⟨w.heap.size, 0, none⟩ = some (.int .i64 p.1) := by rw [hw0, World.cell?_alloc_at _ _ _ _ rfl]; rfl
  have d1 : w0.cell? ⟨w.heap.size, 1, none⟩ = some (.int .i64 p.2) := by rw [hw0, World.cell?_alloc_at _ _ _ _ rfl]; rfl
  have hz := hl.below B0
  rcases hz with h0 | ⟨b, off, he, hbw, hcl⟩
  · exact absurd h0 (by simp)
  simp only [Option.some.injEq, Addr.mk.injEq, and_true] at he
  obtain ⟨rfl, rfl⟩ := he
  have hA := hcl l.length (by simp)
  have hB := hcl (l.length + 1) (by simp)
  rw [show (l ++ [p, p]).getD l.length (0, 0) = p from by simp [List.getD_eq_getElem?_getD], Nat.zero_add] at hA
  rw [show (l ++ [p, p]).getD (l.length + 1) (0, 0) = p from by simp [List.getD_eq_getElem?_getD], Nat.zero_add] at hB
  clear hcl hl
  go_enter Try.func23, Try.ntmps23
  have heq : ∀ W : World, (binOp .eql 29 (.agg #[.int .i64 p.1, .int .i64 p.2]) (.agg #[.int .i64 p.1, .int .i64 p.2])).run Try.prog W = .ok (.bool true) W := fun W => eql2 p W
  have hgd : Try.prog.eqGuardType Try.prog.depth 29 = false := by kernel_rfl
  have hi0 : (l.length : Int) < (l.length : Int) + 2 := by omega
  have hi1 : (l.length : Int) + 1 < (l.length : Int) + 2 := by omega
  have hi2 : (0 : Int) ≤ (l.length : Int) := by omega
  have HB0 := hide2 B0
  clear B0
  go_wp2_with fail
  rw [← hw0]
  clear hw0
  go_quiet (fail)
  go_wp2
  go_ret
  exact ⟨rfl, below_drewN HB0.out _⟩


set_option maxRecDepth 100000 in
set_option maxHeartbeats 4000000 in
theorem clone3_any (g cap : Nat) (l m : List (Int × Int × Int)) (w : World) (hl : PcAt w (some ⟨g, 0, none⟩) (l ++ m)) (h3 : l.length ≤ 400) :
    Calls Try.prog 10 #[.slice (some ⟨g, 0, none⟩) l.length cap] w fun e w' => ∃ v', e = .returned v' ∧ w'.ownsRow w.heap.size 25 3 v' l.length (enc3 l) ∧ Below w.heap.size w w' := by
  obtain ⟨i0, hi, hz0, hz1, hz2⟩ := info_parts Try.infoPiece
  have q22 : ∀ (w : World) (a : Option Addr) (n c n' c' : Nat), (binOp .eql 23 (.slice a n c) (.slice none n' c')).run Try.prog w = .ok (.bool a.isNone) w := fun w a n c n' c' => Lib.run_eql_slice_nil w _ _ a n c n' c' Try.underlying23
  have hc : ∀ o, ∀ j u, (enc3 l)[j]? = some u → (w.alloc o).cell? ((⟨g, 0, none⟩ : Addr).add j) = some u := fun o => cells3 (hl.below ((Below.refl _ _).alloc (Nat.le_refl _) _))
  have HC := hide2 hc
  have hel : (enc3 l).length = l.length * 3 := enc3_length l
  have hone : ∀ u ∈ enc3 l, u.oneCell' = true := by intro u hu; unfold enc3 at hu; rw [List.mem_map] at hu; obtain ⟨z, _, rfl⟩ := hu; rfl
  have HEL := hide2 hel
  have HONE := hide2 hone
  clear hc hl hel hone
  go_enter Try.func10, Try.ntmps10
  go_wp2_with (at_builtin; refine wpList_append_own _ rfl _ _ 23 rfl w.heap.size 25 i0 (.agg #[.int .i64 0, .int .i64 0, .int .i64 0]) 3 24 Try.underlying23 hi hz0 hz1 hz2 rfl (by decide) _ _ _ rfl (World.ownsRow_made w #[] 0 (Nat.le_refl _) (Nat.zero_le _) rfl) ⟨g, 0, none⟩ l.length cap (enc3 l) rfl HEL.out (HC.out _) HONE.out (by unfold maxLen; omega) (by omega) (by simp) ?_; intro v' w1 hown hgrow hnil)
  have hb : Below w.heap.size w w1 := ((Below.refl _ w).alloc (Nat.le_refl _) _).grown hgrow (by simp) (fun k hk => by cases hk; exact Nat.le_refl _)
  have R : w1.ownsRow w.heap.size 25 3 v' l.length (enc3 l) := by simpa using hown
  clear hown hgrow hnil
  go_wp2
  go_ret
  exact ⟨v', rfl, R, hb⟩

set_option maxRecDepth 100000 in
set_option maxHeartbeats 4000000 in
theorem spoil3_any (base : Nat) (v : Value) (n : Nat) (xs : List Value) (p : (Int × Int × Int)) (w : World) (hown : w.ownsRow base 25 3 v n xs) (hbase : base ≤ w.heap.size) :
    Calls Try.prog 18 #[v, .agg #[.int .i64 p.1, .int .i64 p.2.1, .int .i64 p.2.2]] w fun e w' => e = .returned (.tuple #[]) ∧ Below base w w' := by
  have HB0 : Hid (∀ o, Below base w (w.alloc o)) := fun o => (Below.refl _ _).alloc hbase o
  rcases hown.2 with ⟨rfl, h0⟩ | ⟨g, cap, cur, rfl, hbg, hh, h1, h2, h4, h5⟩
  · clear hown
    go_enter Try.func18, Try.ntmps18
    go_wp2
    refine wp_loop_rounds 1 ?_
    rw [rounds_succ]
    go_wp2
    go_end0
    exact ⟨rfl, HB0.out _⟩
  · have hgl : g < w.heap.size := (Array.getElem?_eq_some_iff.1 hh).1
    have hcap : cap ≤ 9223372036854775807 := by unfold maxLen at h2; omega
    have hh0 := hh
    clear hown h5 h2
    obtain ⟨w0, hw0⟩ : ∃ w0, w0 = w.alloc (.cells #[.int .i64 p.1, .int .i64 p.2.1, .int .i64 p.2.2] 25) := ⟨_, rfl⟩
    have B0 : Below base w w0 := by rw [hw0]; exact HB0.out _
    have d0 : w0.cell? ⟨w.heap.size, 0, none⟩ = some (.int .i64 p.1) := by rw [hw0, World.cell?_alloc_at _ _ _ _ rfl]; rfl
    have d1 : w0.cell? ⟨w.heap.size, 1, none⟩ = some (.int .i64 p.2.1) := by rw [hw0, World.cell?_alloc_at _ _ _ _ rfl]; rfl
    have d2 : w0.cell? ⟨w.heap.size, 2, none⟩ = some (.int .i64 p.2.2) := by rw [hw0, World.cell?_alloc_at _ _ _ _ rfl]; rfl
    have hs0 : w.heap.size < w0.heap.size := World.block_lt_of_cell? w0 _ d0
    have hh1 : w0.heap[g]? = some (.cells cur 25 (0, 0)) := by rw [hw0, heap_alloc_old w _ hgl]; exact hh
    have hn1 : n ≤ cap := h1
    clear hh hh0 h1 HB0
    go_enter Try.func18, Try.ntmps18
    go_wp2_with fail
    rw [← hw0]
    clear hw0
    go_loopw [11] (fun i wr => ∃ (k : Nat) (cs : Array Value), k ≤ cap ∧ i = .int .i64 k ∧ wr.heap[g]? = some (.cells cs 25 (0, 0)) ∧ cs.size = cap * 3 ∧ wr.cell? ⟨w.heap.size, 0, none⟩ = some (.int .i64 p.1) ∧ wr.cell? ⟨w.heap.size, 1, none⟩ = some (.int .i64 p.2.1) ∧ wr.cell? ⟨w.heap.size, 2, none⟩ = some (.int .i64 p.2.2) ∧ Below base w wr) (fun i _ => cap - (intOf i).toNat)
    case atStart => exact ⟨0, cur, Nat.zero_le _, rfl, hh1, h4, d0, d1, d2, B0⟩
    case round =>
      obtain ⟨k, cs, hk, rfl, hg, hcs, e0, e1, e2, hb⟩ := hrel
      by_cases hlt : k < cap
      · obtain ⟨x0, c0⟩ := row_cell (j := k * 3) hg hcs (by omega)
        have f0 := frozen_of_row wr g (k * 3) cs _ hg
        obtain ⟨x1, c1⟩ := row_cell (j := k * 3 + 1) hg hcs (by omega)
        have f1 := frozen_of_row wr g (k * 3 + 1) cs _ hg
        obtain ⟨x2, c2⟩ := row_cell (j := k * 3 + 2) hg hcs (by omega)
        have f2 := frozen_of_row wr g (k * 3 + 2) cs _ hg
        have HR := hide2 (fun (u0 u1 u2 : Value) => (by
          obtain ⟨cs0, t0, s0⟩ := row_set (j := k * 3) hg u0
          obtain ⟨cs1, t1, s1⟩ := row_set (j := k * 3 + 1) t0 u1
          obtain ⟨cs2, t2, s2⟩ := row_set (j := k * 3 + 2) t1 u2
          exact ⟨cs2, t2, by omega, (box_set (by omega) (box_set (by omega) (box_set (by omega) e0 u0) u1) u2), (box_set (by omega) (box_set (by omega) (box_set (by omega) e1 u0) u1) u2), (box_set (by omega) (box_set (by omega) (box_set (by omega) e2 u0) u1) u2), (((hb.setCell (p := ⟨g, k * 3, none⟩) hbg u0).setCell (p := ⟨g, k * 3 + 1, none⟩) hbg u1).setCell (p := ⟨g, k * 3 + 2, none⟩) hbg u2)⟩ : ∃ cs' : Array Value, (((wr.setCell ⟨g, k * 3, none⟩ u0).setCell ⟨g, k * 3 + 1, none⟩ u1).setCell ⟨g, k * 3 + 2, none⟩ u2).heap[g]? = some (.cells cs' 25 (0, 0)) ∧ cs'.size = cap * 3 ∧ (((wr.setCell ⟨g, k * 3, none⟩ u0).setCell ⟨g, k * 3 + 1, none⟩ u1).setCell ⟨g, k * 3 + 2, none⟩ u2).cell? ⟨w.heap.size, 0, none⟩ = some (.int .i64 p.1) ∧ (((wr.setCell ⟨g, k * 3, none⟩ u0).setCell ⟨g, k * 3 + 1, none⟩ u1).setCell ⟨g, k * 3 + 2, none⟩ u2).cell? ⟨w.heap.size, 1, none⟩ = some (.int .i64 p.2.1) ∧ (((wr.setCell ⟨g, k * 3, none⟩ u0).setCell ⟨g, k * 3 + 1, none⟩ u1).setCell ⟨g, k * 3 + 2, none⟩ u2).cell? ⟨w.heap.size, 2, none⟩ = some (.int .i64 p.2.2) ∧ Below base w (((wr.setCell ⟨g, k * 3, none⟩ u0).setCell ⟨g, k * 3 + 1, none⟩ u1).setCell ⟨g, k * 3 + 2, none⟩ u2)))
        clear hg hb hh1
        go_wp2
        obtain ⟨cs', q1, q2, b0, b1, b2, q4⟩ := HR.out (.int .i64 p.1) (.int .i64 p.2.1) (.int .i64 p.2.2)
        go_roundw
        case rel => exact ⟨k + 1, cs', by omega, by go_num, q1, q2, b0, b1, b2, q4⟩
        case measure => simp [intOf]; omega
      · have hkl : k = cap := by omega
        subst hkl
        go_wp2
        go_end0
        exact ⟨rfl, hb⟩

set_option maxRecDepth 100000 in
set_option maxHeartbeats 4000000 in
theorem kept3_any (g cap : Nat) (l : List (Int × Int × Int)) (p : (Int × Int × Int)) (w : World) (hl : PcAt w (some ⟨g, 0, none⟩) (l ++ [p, p])) (h3 : l.length ≤ 400) (hc : l.length + 2 ≤ cap) :
    Calls Try.prog 24 #[.slice (some ⟨g, 0, none⟩) l.length cap, .agg #[.int .i64 p.1, .int .i64 p.2.1, .int .i64 p.2.2]] w fun e w' => e = .returned (.bool true) ∧ Below w.heap.size w w' := by
  obtain ⟨w0, hw0⟩ : ∃ w0, w0 = w.alloc (.cells #[.int .i64 p.1, .int .i64 p.2.1, .int .i64 p.2.2] 25) := ⟨_, rfl⟩
  have B0 : Below w.heap.size w w0 := by rw [hw0]; exact (Below.refl _ _).alloc (Nat.le_refl _) _
  have d0 : w0.cell? ⟨w.heap.size, 0, none⟩ = some (.int .i64 p.1) := by rw [hw0, World.cell?_alloc_at _ _ _ _ rfl]; rfl
  have d1 : w0.cell? ⟨w.heap.size, 1, none⟩ = some (.int .i64 p.2.1) := by rw [hw0, World.cell?_alloc_at _ _ _ _ rfl]; rfl
  have d2 : w0.cell? ⟨w.heap.size, 2, none⟩ = some (.int .i64 p.2.2) := by rw [hw0, World.cell?_alloc_at _ _ _ _ rfl]; rfl
  have hz := hl.below B0
  rcases hz with h0 | ⟨b, off, he, hbw, hcl⟩
  · exact absurd h0 (by simp)
  simp only [Option.some.injEq, Addr.mk.injEq, and_true] at he
  obtain ⟨rfl, rfl⟩ := he
  have hA := hcl l.length (by simp)
  have hB := hcl (l.length + 1) (by simp)
  rw [show (l ++ [p, p]).getD l.length (0, 0, 0) = p from by simp [List.getD_eq_getElem?_getD], Nat.zero_add] at hA
  rw [show (l ++ [p, p]).getD (l.length + 1) (0, 0, 0) = p from by simp [List.getD_eq_getElem?_getD], Nat.zero_add] at hB
  clear hcl hl
  go_enter Try.func24, Try.ntmps24
  have heq : ∀ W : World, (binOp .eql 25 (.agg #[.int .i64 p.1, .int .i64 p.2.1, .int .i64 p.2.2]) (.agg #[.int .i64 p.1, .int .i64 p.2.1, .int .i64 p.2.2])).run Try.prog W = .ok (.bool true) W := fun W => eql3 p W
  have hgd : Try.prog.eqGuardType Try.prog.depth 25 = false := by kernel_rfl
  have hi0 : (l.length : Int) < (l.length : Int) + 2 := by omega
  have hi1 : (l.length : Int) + 1 < (l.length : Int) + 2 := by omega
  have hi2 : (0 : Int) ≤ (l.length : Int) := by omega
  have HB0 := hide2 B0
  clear B0
  go_wp2_with fail
  rw [← hw0]
  clear hw0
  go_quiet (fail)
  go_wp2
  go_ret
  exact ⟨rfl, below_drewN HB0.out _⟩

end Go.Proofs.Ytjlnokjaabcldah
