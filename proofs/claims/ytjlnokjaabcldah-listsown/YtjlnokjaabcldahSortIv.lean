/-
  What the library's sort makes of a row of pairs that the call owns, by their first numbers.
-/
import Derived.Test.YtjlnokjaabcldahBase
import Derived.Test.YtjlnokjaabcldahShelf
namespace Go.Proofs.Ytjlnokjaabcldah
open Go.RowKit Go.Sort Go.Shelf Go.Lib

def encIv (x : Int × Int) : List Value := [.int .i64 x.1, .int .i64 x.2]

theorem ltFst (x y : Int × Int) : ltOf (fun x y : Int × Int => Lib.compareInt x.1 y.1) x y = decide (x.1 < y.1) := by
  unfold ltOf Lib.compareInt
  by_cases h1 : x.1 < y.1
  · simp [h1]
  · by_cases h2 : y.1 < x.1 <;> simp [h1, h2]

theorem swoFst : SWO (ltOf fun x y : Int × Int => Lib.compareInt x.1 y.1) := by
  constructor
  · intro x; rw [ltFst]; simp
  · intro x y z h1 h2; rw [ltFst] at *; simp at *; omega
  · intro x y z h1 h2; rw [ltFst] at *; simp at *; omega

set_option maxHeartbeats 1000000 in
theorem closure_any (x y : Int × Int) (W : World) : Calls Try.prog 51 #[.agg #[.int .i64 x.1, .int .i64 x.2], .agg #[.int .i64 y.1, .int .i64 y.2]] W fun e w' => e = .returned (.int .i64 (Lib.compareInt x.1 y.1)) ∧ ∃ q os', w' = grow (W.drewN q) os' := by
  unfold Lib.compareInt
  by_cases h1 : x.1 < y.1
  · rw [if_pos h1]
    go_enter Try.func51, Try.ntmps51
    go_wp2
    go_ret
    exact ⟨rfl, 0, _, by rw [alloc_eq_grow, alloc_eq_grow, grow_grow]; rfl⟩
  · rw [if_neg h1]
    by_cases h2 : y.1 < x.1
    · rw [if_pos h2]
      go_enter Try.func51, Try.ntmps51
      go_wp2
      go_ret
      exact ⟨rfl, 0, _, by rw [alloc_eq_grow, alloc_eq_grow, grow_grow]; rfl⟩
    · rw [if_neg h2]
      go_enter Try.func51, Try.ntmps51
      go_wp2
      go_ret
      exact ⟨rfl, 0, _, by rw [alloc_eq_grow, alloc_eq_grow, grow_grow]; rfl⟩

theorem cmpLays_any (blk off size : Nat) (w : World) : CmpLays Try.prog 51 #[] encIv 2 (fun x y => Lib.compareInt x.1 y.1) blk off size w :=
  fun _ _ _ _ x y => closure_any x y _

theorem holds_of_owns {w : World} {base e g cap : Nat} {l : List (Int × Int)} (h : w.ownsRow base e 2 (.slice (some ⟨g, 0, none⟩) l.length cap) l.length (encs l)) : HoldsK encIv 2 w g 0 l.toArray := by
  intro t ht
  rw [size_flatK] at ht
  have hl : t < l.length * 2 := by simpa using ht
  have hj : t / 2 < l.length := by omega
  refine ⟨?_, h.frozenAt _⟩
  rw [Nat.zero_add, h.cellAt t hl, get_flatK _ _ _ _ ht]
  obtain ⟨f0, f1⟩ := flat_getD l (t / 2) hj
  have hd : l.toArray[t / 2]! = l.getD (t / 2) (0, 0) := by
    simp [List.getD_eq_getElem?_getD, hj]
  rw [hd]
  simp only [encs, List.getElem?_map]
  rcases (show t = t / 2 * 2 ∨ t = t / 2 * 2 + 1 by omega) with e | e
  · rw [show (flat l)[t]? = (flat l)[t / 2 * 2]? by rw [← e], f0, show t % 2 = 0 by omega]; rfl
  · rw [show (flat l)[t]? = (flat l)[t / 2 * 2 + 1]? by rw [← e], f1, show t % 2 = 1 by omega]; rfl

theorem below_sortWorld {w : World} {B g n : Nat} {os : Array Obj} (d : Array (Int × Int)) (hB : B ≤ g) (hw : B ≤ w.heap.size) : RowKit.Below B w (sortWorldK encIv 2 w g 0 n d os) := by
  unfold sortWorldK putRowK
  refine ⟨rfl, rfl, rfl, by simp, fun k hk => ?_⟩
  have hlt : k < w.heap.size := by omega
  rw [heap_grow_old _ _ (by simpa using hlt)]
  have : g ≠ k := by omega
  simp [putRow, mapBlock, Sort.ahead, Array.getElem?_modify, this]

theorem sortIv_any {w : World} {base e g cap : Nat} {l : List (Int × Int)} (h : w.ownsRow base e 2 (.slice (some ⟨g, 0, none⟩) l.length cap) l.length (encs l)) (hlen : l.length < 4611686018427387904) (hw : base ≤ w.heap.size) :
    Calls Try.prog 50 #[.slice (some ⟨g, 0, none⟩) l.length cap, .func (.func 51) #[] #[]] w fun en w' => en = .returned (.tuple #[]) ∧ ∃ r, r.Perm l ∧ r.Pairwise (fun x y => x.1 ≤ y.1) ∧ IvAt w' (some ⟨g, 0, none⟩) r ∧ RowKit.Below base w w' := by
  have hg := h.lt g rfl
  have hH := holds_of_owns h
  have eg : ∀ args w, (callFunc 51 args).run Try.prog w = .ok (.enter 51 args) w := enters_of Try.func51 (by kernel_rfl) rfl
  have hcon := AnyQ.slices_SortFunc Try.sortIv 2 Try.isAgg29 Try.sizeOf29 encIv (fun _ => rfl) (fun x v hv => by simp [encIv] at hv; rcases hv with rfl | rfl <;> rfl) (fun x y => Lib.compareInt x.1 y.1) swoFst 51 #[] g 0 cap l.toArray w eg (cmpLays_any g 0 l.toArray.size w) hH hg.2 (by simpa using hlen)
  change Calls Try.prog 50 _ _ _ at hcon
  simp only [List.size_toArray] at hcon
  refine hcon.mono ?_
  rintro en w' ⟨rfl, d', n, os, ⟨hs, _, hp⟩, hsort, rfl⟩
  have hs' : d'.size = l.length := by simpa using hs
  refine ⟨rfl, d'.toList, ?_, ?_, ?_, below_sortWorld d' hg.1 hw⟩
  · have e1 : d'.extract 0 l.length = d' := by rw [← hs']; simp
    have e2 : l.toArray.extract 0 l.length = l.toArray := by simp
    rw [e1, e2] at hp
    simpa using hp
  · rw [List.pairwise_iff_getElem]
    intro i j hi hj hij
    simp only [Array.length_toList] at hi hj
    have := hsort i j (Nat.zero_le _) hij (by omega)
    rw [ltFst, getElem!_pos d' i hi, getElem!_pos d' j hj] at this
    simp only [decide_eq_false_iff_not] at this
    simp only [Array.getElem_toList]
    omega
  · have hK := holdsK_sortWorldK_c (enc := encIv) (k := 2) (w := w) (blk := g) (off := 0) l.toArray d' n os hH hg.2 (by simpa using hs')
    refine .inr ⟨g, 0, rfl, Nat.lt_of_lt_of_le hg.2 (below_sortWorld (n := n) (os := os) d' hg.1 hw).size, fun j hj => ?_⟩
    simp only [Array.length_toList] at hj
    have c0 := (hK.cell (i := j) (c := 0) hj (by omega)).1
    have c1 := (hK.cell (i := j) (c := 1) hj (by omega)).1
    have hd : d'.toList.getD j (0, 0) = d'[j]! := by
      rw [List.getD_eq_getElem?_getD, getElem!_pos d' j hj]
      simp [hj]
    rw [hd]
    exact ⟨by simpa [encIv] using c0, by simpa [encIv] using c1⟩

end Go.Proofs.Ytjlnokjaabcldah
