/-
  What Spans of the program answers: the stretches between each two times that follow each other.
-/
import Derived.Test.YtanbbkoleekmjagPk1
import Derived.Test.YtanbbkoleekmjagSortI
import Derived.Test.YtanbbkoleekmjagCpt
import Derived.Shelf.Slices.CompactI
import Derived.Deep.RegionHeld3
import Derived.Deep.AppendLies
namespace Go.Proofs.Ytanbbkoleekmjag
open Go.RowKit

/-- Compact, of a row of the call's own -/
theorem compact_any {w : World} {base e g cap n : Nat} {Z : List Int} (hn : Z.length = n) (h : w.ownsRow base e 1 (.slice (some ⟨g, 0, none⟩) n cap) n (Z.map (Value.int .i64))) (hlen : n < 4611686018427387904) :
    Calls Try.prog 68 #[.slice (some ⟨g, 0, none⟩) n cap] w fun en w' => en = .returned (.slice (some ⟨g, 0, none⟩) (Lib.compact Z).length cap) ∧ ZsAt w' (some ⟨g, 0, none⟩) (Lib.compact Z) ∧ w.grownBy w' (some g) := by
  subst hn
  rcases h.2 with ⟨h0, _⟩ | ⟨g', cap', cur, hv, hbase, hh, h1, h2, h3, h4⟩
  · cases h0
  simp only [Value.slice.injEq, Option.some.injEq, Addr.mk.injEq, and_true, true_and] at hv
  obtain ⟨rfl, rfl⟩ := hv
  have hcon := Any.slices_Compact_int Try.compInt g 0 cap Z w (holds_of_blockI hh (by rw [Nat.mul_one] at h4; exact h4)) (by omega) h1
  change Calls Try.prog 68 _ _ _ at hcon
  refine hcon.mono ?_
  rintro en w' ⟨rfl, q, rfl⟩
  have hle : (Lib.compact Z).length ≤ Z.length := compact_len Z
  have ho := ownsRow_sortedI (n := q) (os := #[]) (ss := Z) (ts := Lib.compact Z ++ List.replicate (Z.length - (Lib.compact Z).length) 0) (by simp; omega) hbase hh h1 h2 h3
  have hgr := grownBy_sortedI (w := w) (g := g) (n := q) (os := #[]) (Lib.compact Z ++ List.replicate (Z.length - (Lib.compact Z).length) 0).toArray
  rw [Sort.grow_empty] at ho hgr
  refine ⟨rfl, ?_, hgr⟩
  by_cases h0 : Lib.compact Z = []
  · exact .inl h0
  refine .inr ⟨g, 0, rfl, (ho.lt g rfl).2, fun j hj => ?_⟩
  rw [Nat.zero_add, ho.cellAt j (by omega), List.getElem?_map, List.getElem?_append_left hj, List.getElem?_eq_getElem hj, List.getD_eq_getElem?_getD, List.getElem?_eq_getElem hj]
  rfl
theorem compact_nil (w : World) : Calls Try.prog 68 #[.slice none 0 0] w fun en w' => en = .returned (.slice none 0 0) ∧ w' = w := by
  go_enter Try.func68, Try.ntmps68
  go_wp2
  go_ret
  exact ⟨rfl, rfl⟩
theorem sort_nil (w : World) : Calls Try.prog 67 #[.slice none 0 0] w fun en w' => en = .returned (.tuple #[]) ∧ w' = w := by
  have hcon := Any.slices_Sort_int_none Try.sortInt none 0 w
  change Calls Try.prog 67 _ _ _ at hcon
  exact hcon

theorem hideS {p : Prop} (h : p) : Hid p := h

set_option maxRecDepth 100000 in
set_option maxHeartbeats 4000000 in
theorem clone1_any (ao : Option Addr) (cap : Nat) (A : List Int) (w : World) (hz : ZsAt w ao A) (h8 : A.length ≤ 800) :
    Calls Try.prog 66 #[.slice ao A.length cap] w fun e w' => ∃ v', e = .returned v' ∧ w'.ownsRow w.heap.size 3 1 v' A.length (A.map (Value.int .i64)) ∧ Below w.heap.size w w' := by
  obtain ⟨i0, hi, hz0, hz1, hz2⟩ := info_parts Try.infoInt
  have q22 : ∀ (w : World) (a : Option Addr) (n c n' c' : Nat), (binOp .eql 30 (.slice a n c) (.slice none n' c')).run Try.prog w = .ok (.bool a.isNone) w := fun w a n c n' c' => Lib.run_eql_slice_nil w _ _ a n c n' c' Try.underlying30
  cases ao with
  | none =>
    have h0 : A = [] := by
      rcases hz with h | ⟨b, off, e, _⟩
      · exact h
      · cases e
    subst h0
    clear hz
    go_enter Try.func66, Try.ntmps66
    go_wp2
    go_ret
    exact ⟨_, rfl, World.ownsRow_nil _ _ _ _, Below.refl _ _⟩
  | some a =>
    have hc : ∀ o, ∀ j u, (A.map (Value.int .i64))[j]? = some u → (w.alloc o).cell? (a.add j) = some u := by
      intro o j u hu
      have hj : j < A.length := by have := (List.getElem?_eq_some_iff.1 hu).1; simpa using this
      rcases hz.below (pal w o) with h | ⟨b, off, e, _, hc⟩
      · rw [h] at hj; simp at hj
      · simp only [Option.some.injEq] at e
        subst e
        rw [Go.WideShapes.add_plain, hc j hj]
        rw [List.getElem?_map, List.getElem?_eq_getElem hj] at hu
        simp only [Option.map_some, Option.some.injEq] at hu
        rw [← hu, List.getD_eq_getElem?_getD, List.getElem?_eq_getElem hj]
        rfl
    have HC := hideS hc
    have HONE : Hid (∀ u ∈ A.map (Value.int .i64), u.oneCell' = true) := by intro u hu; rw [List.mem_map] at hu; obtain ⟨z, _, rfl⟩ := hu; rfl
    have HEL : Hid ((A.map (Value.int .i64)).length = A.length * 1) := by show _ = _; simp
    clear hc hz
    go_enter Try.func66, Try.ntmps66
    go_wp2_with (at_builtin; refine wpList_append_own _ rfl _ _ 30 rfl w.heap.size 3 i0 (.int .i64 0) 1 8 Try.underlying30 hi hz0 hz1 hz2 rfl (by decide) _ _ _ rfl (World.ownsRow_made w #[] 0 (Nat.le_refl _) (Nat.zero_le _) rfl) a A.length cap (A.map (Value.int .i64)) rfl HEL.out (HC.out _) HONE.out (by unfold maxLen; omega) (by omega) (by simp) ?_; intro v' w1 hown hgrow hnil)
    have hb : Below w.heap.size w w1 := ((Below.refl _ w).alloc (Nat.le_refl _) _).grown hgrow (by simp) (fun k hk => by cases hk; exact Nat.le_refl _)
    have R : w1.ownsRow w.heap.size 3 1 v' A.length (A.map (Value.int .i64)) := by simpa using hown
    clear hown hgrow hnil
    go_wp2
    go_ret
    exact ⟨v', rfl, R, hb⟩

/-- the first j stretches of a row of times -/
def spn (S : List Int) (j : Nat) : List (Int × Int) := (List.range j).map fun i => (S.getD i 0, S.getD (i + 1) 0)
theorem spn_length (S : List Int) (j : Nat) : (spn S j).length = j := by simp [spn]
theorem spn_get (S : List Int) (j k : Nat) (h : k < j) (hS : k + 1 < S.length) : (spn S j).getD k (0, 0) = (S[k], S[k + 1]) := by
  simp [spn, List.getD_eq_getElem?_getD, h, hS, show k < S.length by omega]
theorem encs_spn (S : List Int) (j : Nat) (h : j + 1 < S.length) : encs (spn S (j + 1)) = encs (spn S j) ++ [.int .i64 S[j], .int .i64 S[j + 1]] := by
  unfold spn
  rw [List.range_succ, List.map_append]
  unfold encs flat
  rw [List.flatMap_append, List.map_append]
  simp [List.getD_eq_getElem?_getD, h, show j < S.length by omega]

set_option maxRecDepth 100000 in
set_option maxHeartbeats 4000000 in
theorem spans_any (ao : Option Addr) (ca : Nat) (A : List Int) (w : World) (hz : ZsAt w ao A) (h8 : A.length ≤ 800) :
    Calls Try.prog 57 #[.slice ao A.length ca] w fun e w' => ∃ S v, e = .returned v ∧ Ordered A S ∧ w'.ownsRow w.heap.size 55 2 v (S.length - 1) (encs (spn S (S.length - 1))) ∧ Below w.heap.size w w' := by
  obtain ⟨i0, hi, hz0, hz1, hz2⟩ := info_parts Try.infoIvl
  have hcl := clone1_any ao ca A w hz h8
  clear hz
  go_enter Try.func57, Try.ntmps57
  go_wp2_with fail
  refine hcl.mono ?_
  rintro e w0 ⟨v0, rfl, hown0, hb0⟩
  clear hcl
  have hcase := hown0.2
  rcases hcase with ⟨rfl, h0⟩ | ⟨g, cap, cur, rfl, _⟩
  · have hA : A = [] := List.eq_nil_of_length_eq_zero h0
    have hs := fun W => sort_nil W
    have hk := fun W => compact_nil W
    have HO : Hid (Ordered A []) := by rw [hA]; exact ⟨List.Pairwise.nil, fun x => Iff.rfl, Nat.le_refl _⟩
    clear hown0 h0 hA
    go_wp2_with (first | (go_at_call 67; refine (hs _).mono ?_; rintro e w' ⟨rfl, rfl⟩) | (go_at_call 68; refine (hk _).mono ?_; rintro e w' ⟨rfl, rfl⟩))
    refine wp_loop_rounds 1 ?_
    rw [rounds_succ]
    go_wp2
    go_ret
    exact ⟨[], _, rfl, HO.out, World.ownsRow_nil _ _ _ _, by assumption⟩
  · have hgW := (hown0.lt g rfl).1
    have hsort := sortInts_any hown0 (by omega)
    clear hown0
    go_wp2_with fail
    refine hsort.mono ?_
    rintro e w1 ⟨rfl, Z, hpZ, hZ, hown1, hg1⟩
    have hb1 : Below w.heap.size w w1 := hb0.grown hg1 hb0.size (fun k hk => by cases hk; exact hgW)
    have hcomp := compact_any hpZ.length_eq hown1 (by omega)
    have HO : Hid (Ordered A (Lib.compact Z)) := compact_ordered hpZ hZ
    clear hpZ hZ hown1 hg1 hsort hb0
    generalize Lib.compact Z = S at HO hcomp
    have hSl : S.length ≤ 800 := Nat.le_trans HO.out.len h8
    go_wp2_with fail
    refine hcomp.mono ?_
    rintro e w2 ⟨rfl, hz2', hg2⟩
    have hb2 : Below w.heap.size w w2 := hb1.grown hg2 hb1.size (fun k hk => by cases hk; exact hgW)
    clear hg2 hb1 hcomp
    go_wp2_with fail
    go_loopw [4, 5] (fun v vi wr => ∃ (j : Nat), vi = .int .i64 ((j : Int) + 1) ∧ (j = 0 ∨ j + 1 ≤ S.length) ∧ wr.ownsRow w2.heap.size 55 2 v j (encs (spn S j)) ∧ Below w2.heap.size w2 wr) (fun _ vi _ => S.length + 1 - (intOf vi).toNat)
    case atStart => exact ⟨0, rfl, .inl rfl, World.ownsRow_nil _ _ _ _, Below.refl _ _⟩
    case round =>
      obtain ⟨j, rfl, hil, hown, hb⟩ := hrel
      have hj8 : j ≤ 800 := by omega
      have hsz := hb.size
      by_cases hlt : j + 1 < S.length
      · rcases hz2' with h0 | ⟨b, off, e0, hbw, hc⟩
        · subst h0; simp at hlt
        simp only [Option.some.injEq, Addr.mk.injEq, and_true] at e0
        obtain ⟨rfl, rfl⟩ := e0
        have c0 : wr.cell? ⟨g, j, none⟩ = some (.int .i64 S[j]) := by
          have := hc j (by omega)
          rw [Nat.zero_add] at this
          rw [hb.cell (p := ⟨g, j, none⟩) hbw, this, List.getD_eq_getElem?_getD, List.getElem?_eq_getElem (by omega)]; rfl
        have c1 : wr.cell? ⟨g, j + 1, none⟩ = some (.int .i64 S[j + 1]) := by
          have := hc (j + 1) (by omega)
          rw [Nat.zero_add] at this
          rw [hb.cell (p := ⟨g, j + 1, none⟩) hbw, this, List.getD_eq_getElem?_getD, List.getElem?_eq_getElem (by omega)]; rfl
        have HE := hideS (encs_spn S j hlt)
        have hne : some g ≠ u4.ownBlock := fun h => by have := (hown.lt g h.symm).1; omega
        have hbr : g < wr.heap.size := by omega
        have hi1 : (j : Int) + 1 < (S.length : Int) := by omega
        have hi2 : (j : Int) < (S.length : Int) := by omega
        have hi3 : (0 : Int) ≤ (j : Int) := by omega
        have hi4 : (0 : Int) ≤ (j : Int) + 1 := by omega
        have hw1 : IntKind.i64.wrap ((j : Int) + 1 - 1) = (j : Int) := by rw [Int.add_sub_cancel]; exact wrap_small _ (by omega) (by omega)
        have hw2 : IntKind.i64.wrap (j : Int) = (j : Int) := wrap_small _ (by omega) (by omega)
        have HB : Hid (∀ (o : Obj) (w1 : World), ((wr.alloc o).drew).grownBy w1 u4.ownBlock → Below w2.heap.size w2 w1) := fun o w1 hgr => ((hb.alloc hsz o).drew).grown hgr (by simp; omega) (fun j hj => (hown.lt j hj).1)
        clear hc
        go_wp2
        go_region_held3 (fun w' => w'.cell? ⟨g, j, none⟩ = some (.int .i64 S[j]) ∧ w'.cell? ⟨g, j + 1, none⟩ = some (.int .i64 S[j + 1]))
          (first
            | go_keep
            | (go_split_ands
               refine ⟨?_, ?_⟩
               · (rw [hgrow.cell_far _ (by simp; omega) hne]; assumption)
               · (rw [hgrow.cell_far _ (by simp; omega) hne]; assumption)))
          ((refine step_append_lies _ (by rfl) _ _ _ (by rfl) w2.heap.size 55 i0 _ 2 16 Try.underlying22 hi hz0 hz1 hz2 rfl (by omega) u4 j (encs (spn S j)) (by rfl) ((hown.alloc _).drew) ⟨wr.heap.size, 0, none⟩ 1 1 [.int .i64 S[j], .int .i64 S[j + 1]] (by rfl) (by rfl) (World.news_of_block (cs := #[.int .i64 S[j], .int .i64 S[j + 1]]) (t := 55) (fr := (0, 0)) (heap_alloc_new wr _)) (by simp [Value.oneCell']) (by omega) (by unfold maxLen; omega) (by omega) (by simp; omega) (wr.heap.size + 1) (by simp) ?_; intro gg cap1 w3 hown1 hgrow hat hltg))
        have hb' := HB.out _ _ hgrow
        rw [← HE.out] at hown1
        clear hgrow hown hat hltg hne
        go_wp2
        go_roundw
        case rel => exact ⟨j + 1, by go_num, .inr (by omega), hown1, hb'⟩
        case measure => simp [intOf]; omega
      · have hil' : j = S.length - 1 := by omega
        have HR : Hid (wr.ownsRow w.heap.size 55 2 u4 (S.length - 1) (encs (spn S (S.length - 1)))) := by
          show World.ownsRow _ _ _ _ _ _ _
          rw [← hil']; exact owns_base2 hown hb2.size
        have hbb := ptw hb2 hb
        have hi1 : ¬ ((j : Int) + 1 < (S.length : Int)) := by omega
        clear hown hil' hz2'
        go_wp2
        go_ret
        exact ⟨S, _, rfl, HO.out, HR.out, hbb⟩

end Go.Proofs.Ytanbbkoleekmjag
