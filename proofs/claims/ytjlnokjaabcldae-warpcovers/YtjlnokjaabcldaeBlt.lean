/-
  What built, told and Rest of the laws answer.
-/
import Derived.Test.YtjlnokjaabcldaeBMath
import Derived.Test.YtjlnokjaabcldaeEq3
import Derived.Laws.Rows
namespace Go.Proofs.Ytjlnokjaabcldae
open Go.RowKit

/-- what built makes of the first k pieces, put one behind the other -/
def Blt (L : List (Int × Int × Int)) : Nat → List (Int × Int × Int) → Prop
  | 0, m => m = []
  | k + 1, m => ∃ m0 n r, Blt L k m0 ∧ PutIs m0 (L.getD k (0, 0, 0)) n r ∧ ((n = 0 ∧ m = r) ∨ (¬ n = 0 ∧ m = m0))
theorem blt_is {L : List (Int × Int × Int)} (hL : L.length ≤ 40) (k : Nat) (hk : k ≤ L.length) (m : List (Int × Int × Int)) (h : Blt L k m) : BuiltIs (L.take k) m := by
  induction k generalizing m with
  | zero => subst h; exact built_start L
  | succ k ih =>
    obtain ⟨m0, n, r, h0, hP, h⟩ := h
    have hlt : k < L.length := by omega
    rw [getD3 hlt] at hP
    rcases built_put hlt hL (ih (by omega) m0 h0) hP with ⟨_, e, B⟩ | ⟨_, e, _, B⟩
    · rcases h with ⟨_, rfl⟩ | ⟨h, _⟩
      · exact B
      · exact absurd e h
    · rcases h with ⟨h, _⟩ | ⟨_, rfl⟩
      · omega
      · exact B
theorem blt_begun {m : List (Int × Int × Int)} (h : Blt [(1, 9, 5), (3, 4, 7)] 2 m) : m = [(1, 3, 5), (3, 4, 7), (4, 9, 5)] := by
  obtain ⟨m1, n, r, ⟨m0, n0, r0, h0, hP0, h1⟩, hP, h2⟩ := h
  have h0 : m0 = [] := h0
  subst h0
  obtain ⟨rfl, rfl⟩ := begun_one hP0
  rcases h1 with ⟨_, rfl⟩ | ⟨h, _⟩
  · obtain ⟨rfl, rfl⟩ := begun_two hP
    rcases h2 with ⟨_, rfl⟩ | ⟨h, _⟩
    · rfl
    · exact absurd rfl h
  · exact absurd rfl h

theorem pcAt_take {w : World} {ao : Option Addr} {l : List (Int × Int × Int)} (h : PcAt w ao l) (n : Nat) : PcAt w ao (l.take n) := by
  rcases h with h | ⟨b, off, rfl, hb, hc⟩
  · subst h; exact .inl (by simp)
  · refine .inr ⟨b, off, rfl, hb, fun j hj => ?_⟩
    rw [List.length_take] at hj
    have := hc j (by omega)
    rw [List.getD_eq_getElem?_getD, List.getElem?_take_of_lt (by omega), ← List.getD_eq_getElem?_getD]
    exact this
theorem take40 (x : List (Int × Int × Int)) : (min 40 (x.length : Int)).toNat = (x.take 40).length := by rw [List.length_take]; omega
theorem putIs_err {m : List (Int × Int × Int)} {p : Int × Int × Int} {n : Int} {r : List (Int × Int × Int)} (h : PutIs m p n r) : n = 0 ∨ n = 2 ∨ n = 5 := by
  rcases h with ⟨_, h, _⟩ | ⟨_, _, h, _⟩ | ⟨_, _, S, out, _, _, h⟩
  · rcases mchk_cases m with e | e | ⟨e, _⟩ <;> omega
  · omega
  · rcases h with ⟨_, h, _⟩ | ⟨_, _, h, _⟩ | ⟨_, _, h, _⟩ <;> omega

set_option maxRecDepth 100000 in
set_option maxHeartbeats 2000000 in
theorem built_any (ao : Option Addr) (cap : Nat) (l : List (Int × Int × Int)) (w : World) (hl : PcAt w ao l) (hc1 : l.length ≤ cap) (_hc2 : cap ≤ 9223372036854775807) :
    Calls Try.prog 8 #[.slice ao l.length cap] w fun e w' => ∃ v m, e = .returned v ∧ Blt (l.take 40) (l.take 40).length m ∧ w'.ownsRow w.heap.size 31 3 v m.length (enc3 m) ∧ Below w.heap.size w w' := by
  obtain ⟨L, hLe⟩ : ∃ L, l.take 40 = L := ⟨_, rfl⟩
  have hL : PcAt w ao L := hLe ▸ pcAt_take hl 40
  have hL40 : L.length ≤ 40 := by rw [← hLe, List.length_take]; omega
  have e40 : (min 40 (l.length : Int)).toNat = L.length := by rw [← hLe]; exact take40 l
  rw [hLe]
  have H40 := hide3 e40
  have H41 : Hid (max (min 40 (l.length : Int)) 0 = (L.length : Int)) := by show _ = _; omega
  clear e40 hLe hl
  go_enter Try.func8, Try.ntmps8
  go_wp2_with fail
  rw [H40.out, H41.out]
  go_loopw [3, 14] (fun v i wr => ∃ (k : Nat) (m : List (Int × Int × Int)), k ≤ L.length ∧ i = .int .i64 k ∧ Blt L k m ∧ wr.ownsRow w.heap.size 31 3 v m.length (enc3 m) ∧ Below w.heap.size w wr) (fun _ i _ => L.length - (intOf i).toNat)
  case atStart => exact ⟨0, [], Nat.zero_le _, rfl, rfl, World.ownsRow_nil _ _ _ _, Below.refl _ _⟩
  case round =>
    obtain ⟨k, m, hk, rfl, hB, hown, hb⟩ := hrel
    have HB := hide3 hB
    clear hB
    by_cases hlt : k < L.length
    · rcases hL.below hb with h0 | ⟨b, off, rfl, hbw, hc⟩
      · subst h0; simp at hlt
      obtain ⟨c0, c1, c2⟩ := PcAt.get hlt hc
      clear hc
      obtain ⟨vo, vc, rfl, hz⟩ := pcAt_of_owns hown
      have HS := hide3 (fun o W (h : Below (wr.alloc o).heap.size (wr.alloc o) W) => (⟨ownsRow_below hown (ptw (pal _ _) h), ptw hb (ptw (pal _ _) h), by have := h.size; have := hb.size; simp at *; omega⟩ : W.ownsRow w.heap.size 31 3 (.slice vo m.length vc) m.length (enc3 m) ∧ Below w.heap.size w W ∧ w.heap.size ≤ (wr.alloc o).heap.size))
      have hP := fun o => Put_any vo vc m L[k] (wr.alloc o) (hz.below (pal _ _))
      clear hown hb hz
      go_wp2_with fail
      refine (hP _).mono ?_
      rintro e w1 ⟨n, r, hPI, v1, rfl, ho1, hb1⟩
      obtain ⟨s1, s2, s3⟩ := HS.out _ _ hb1
      have ho1' := ownsRow_base ho1 s3
      have hn := putIs_err hPI
      have HPI := hide3 hPI
      have HG := hide3 (getD3 hlt)
      clear hPI ho1 hb1 hP HS s3
      rcases hn with rfl | rfl | rfl
      · have HB' : Hid (Blt L (k + 1) r) := ⟨m, 0, r, HB.out, by rw [HG.out]; exact HPI.out, .inl ⟨rfl, rfl⟩⟩
        go_wp2
        go_roundw
        case rel => exact ⟨k + 1, r, by omega, by go_num, HB'.out, ho1', s2⟩
        case measure => simp [intOf]; omega
      · have HB' : Hid (Blt L (k + 1) m) := ⟨m, 2, r, HB.out, by rw [HG.out]; exact HPI.out, .inr ⟨by decide, rfl⟩⟩
        go_wp2
        go_roundw
        case rel => exact ⟨k + 1, m, by omega, by go_num, HB'.out, s1, s2⟩
        case measure => simp [intOf]; omega
      · have HB' : Hid (Blt L (k + 1) m) := ⟨m, 5, r, HB.out, by rw [HG.out]; exact HPI.out, .inr ⟨by decide, rfl⟩⟩
        go_wp2
        go_roundw
        case rel => exact ⟨k + 1, m, by omega, by go_num, HB'.out, s1, s2⟩
        case measure => simp [intOf]; omega
    · have hkl : k = L.length := by omega
      subst hkl
      go_wp2
      go_ret
      exact ⟨_, m, rfl, HB.out, hown, hb⟩

theorem pair_set {w : World} {B : Nat} {t : TypeId} {x y : Value} (h : w.heap[B]? = some (.cells #[x, y] t (0, 0))) (x' y' : Value) : ((w.setCell ⟨B, 0, none⟩ x').setCell ⟨B, 1, none⟩ y').heap[B]? = some (.cells #[x', y'] t (0, 0)) := by
  rw [heap_setCell_same _ B 1 _ t y' (heap_setCell_same w B 0 _ t x' h)]
  rfl

theorem told_any (ao : Option Addr) (cap : Nat) (m : List (Int × Int × Int)) (t : Int) (w : World) (hl : PcAt w ao m) (hn : m.length ≤ 9223372036854775807) :
    Calls Try.prog 11 #[.slice ao m.length cap, .int .i64 t] w fun e w' => e = .returned (.agg #[.int .i64 ((tel m t).getD 0), .int .i64 (if (tel m t).isSome then 1 else 0)]) ∧ Below w.heap.size w w' := by
  have h := fun o => PAt_any ao cap m t (w.alloc o) (hl.below (pal _ _)) hn
  cases hx : tel m t with
  | none =>
    simp only [hx, Option.getD_none, Option.isSome_none] at h
    clear hx hl
    go_enter Try.func11, Try.ntmps11
    go_wp2_with fail
    refine (h _).mono ?_
    rintro e w1 ⟨rfl, hb⟩
    have hg1 : w1.heap[w.heap.size]? = some (.cells #[.int .i64 0, .int .i64 0] 32 (0, 0)) := (hb.block _ (by simp)).trans (heap_alloc_new w _)
    have f0 := frozen_of_row w1 w.heap.size 0 _ _ hg1
    have f1 := frozen_of_row w1 w.heap.size 1 _ _ hg1
    have k0 := (hb.cell (p := ⟨w.heap.size, 0, none⟩) (by simp)).trans (by simp : _ = some (Value.int .i64 0))
    have k1 := (hb.cell (p := ⟨w.heap.size, 1, none⟩) (by simp)).trans (by simp : _ = some (Value.int .i64 0))
    have HG := hide3 (pair_set hg1)
    have HB := hide3 (ptw (pal _ _) hb)
    clear hg1 hb
    go_wp2
    (try simp only [Exit.inBlock, Exit.then])
    refine bodyPost_ret (results_cell_row rfl _ _ w.heap.size 32 _ (0, 0) _ rfl (HG.out _ _) Try.underlying32 rfl (by kernel_rfl)) rfl ?_
    exact ⟨rfl, (HB.out.setCell (Nat.le_refl _) _).setCell (Nat.le_refl _) _⟩
  | some x =>
    simp only [hx, Option.getD_some, Option.isSome_some] at h
    clear hx hl
    go_enter Try.func11, Try.ntmps11
    go_wp2_with fail
    refine (h _).mono ?_
    rintro e w1 ⟨rfl, hb⟩
    have hg1 : w1.heap[w.heap.size]? = some (.cells #[.int .i64 0, .int .i64 0] 32 (0, 0)) := (hb.block _ (by simp)).trans (heap_alloc_new w _)
    have f0 := frozen_of_row w1 w.heap.size 0 _ _ hg1
    have f1 := frozen_of_row w1 w.heap.size 1 _ _ hg1
    have k0 := (hb.cell (p := ⟨w.heap.size, 0, none⟩) (by simp)).trans (by simp : _ = some (Value.int .i64 0))
    have k1 := (hb.cell (p := ⟨w.heap.size, 1, none⟩) (by simp)).trans (by simp : _ = some (Value.int .i64 0))
    have HG := hide3 (pair_set hg1)
    have HB := hide3 (ptw (pal _ _) hb)
    clear hg1 hb
    go_wp2
    (try simp only [Exit.inBlock, Exit.then])
    refine bodyPost_ret (results_cell_row rfl _ _ w.heap.size 32 _ (0, 0) _ rfl (HG.out _ _) Try.underlying32 rfl (by kernel_rfl)) rfl ?_
    exact ⟨rfl, (HB.out.setCell (Nat.le_refl _) _).setCell (Nat.le_refl _) _⟩

theorem rest_any (n : Int) (w : World) :
    Calls Try.prog 7 #[.int .i64 n, .int .i64 3] w fun e w' => ∃ k, (k = 0 ∨ k = 1 ∨ k = 2) ∧ e = .returned (.int .i64 k) ∧ w' = w := by
  have hm : Int.tmod n 3 = 0 ∨ Int.tmod n 3 = 1 ∨ Int.tmod n 3 = 2 ∨ Int.tmod n 3 = -1 ∨ Int.tmod n 3 = -2 := by
    have := Int.tmod_lt_of_pos n (show (0 : Int) < 3 by decide)
    have := Int.lt_tmod_of_pos n (show (0 : Int) < 3 by decide)
    omega
  rcases hm with h | h | h | h | h
  all_goals
    go_enter Try.func7, Try.ntmps7
    go_wp2
    go_ret
    exact ⟨_, by first | (left; rfl) | (right; left; rfl) | (right; right; rfl), rfl, rfl⟩

end Go.Proofs.Ytjlnokjaabcldae
