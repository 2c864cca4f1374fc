/-
  What ContainsFunc over messages and the closure of the law WarpCovers answer; cells in a new block.
-/
import Derived.Test.YtjlnokjaabcldaeWpB
import Derived.Test.YtjlnokjaabcldaeWcMath
import Derived.Shelf.Abstract
namespace Go.Proofs.Ytjlnokjaabcldae
open Go.RowKit

set_option maxRecDepth 100000 in
set_option maxHeartbeats 2000000 in
theorem indexMsg_any (g : Nat) (caps : Array Value) (f : Int × Int × Int → Bool) (eg : ∀ args w, (callFunc g args).run Try.prog w = .ok (.enter g args) w) (bo : Option Addr) (cb : Nat) (arcs : List (Int × Int × Int)) (w : World) (hR : PcAt w bo arcs) (hl : arcs.length ≤ 200)
    (hf : ∀ a ∈ arcs, ∀ wq, Below w.heap.size w wq → Calls Try.prog g (#[.agg #[.int .i64 a.1, .int .i64 a.2.1, .int .i64 a.2.2]] ++ caps) wq fun e w' => e = .returned (.bool (f a)) ∧ Below wq.heap.size wq w') :
    Calls Try.prog 51 #[.slice bo arcs.length cb, .func (.func g) #[] caps] w fun e w' => ∃ i : Int, e = .returned (.int .i64 i) ∧ decide (0 ≤ i) = arcs.any f ∧ Below w.heap.size w w' := by
  have HF := hideW hf
  clear hf
  go_enter Try.func51, Try.ntmps51
  go_wp2
  go_loopw [5, 8] (fun _ i wr => ∃ k : Nat, k ≤ arcs.length ∧ i = .int .i64 k ∧ (arcs.take k).any f = false ∧ Below w.heap.size w wr) (fun _ i _ => arcs.length - (intOf i).toNat)
  case atStart => exact ⟨0, Nat.zero_le _, rfl, rfl, Below.refl _ _⟩
  case round =>
    obtain ⟨k, hk, rfl, hI, hb⟩ := hrel
    have HI := hideW hI
    clear hI
    by_cases hlt : k < arcs.length
    · rcases hR.below hb with h0 | ⟨b, off, rfl, hbr, hc⟩
      · subst h0; simp at hlt
      obtain ⟨c0, c1, c2⟩ := PcAt.get hlt hc
      have hcl := HF.out _ (List.getElem_mem hlt) wr hb
      have hki : (k : Int) < (arcs.length : Int) := by omega
      clear hc hR
      cases hfk : f arcs[k] with
      | true =>
        have HA : Hid (decide ((0 : Int) ≤ (k : Int)) = arcs.any f) := by
          have h1 : arcs.any f = true := List.any_eq_true.2 ⟨_, List.getElem_mem hlt, hfk⟩
          show _ = _
          rw [h1]; simp
        rw [hfk] at hcl
        clear hfk
        go_wp2_with fail
        refine hcl.mono ?_
        rintro e w1 ⟨rfl, hb1⟩
        have HB1 := hideW (ptw hb hb1)
        clear hb1
        go_wp2
        go_ret
        exact ⟨_, rfl, HA.out, HB1.out⟩
      | false =>
        have HA : Hid ((arcs.take (k + 1)).any f = false) := by
          show _ = _
          rw [List.take_succ_eq_append_getElem hlt, List.any_append, HI.out]; simp [hfk]
        rw [hfk] at hcl
        clear hfk
        go_wp2_with fail
        refine hcl.mono ?_
        rintro e w1 ⟨rfl, hb1⟩
        have HB1 := hideW (ptw hb hb1)
        clear hb1
        go_wp2
        go_roundw
        case rel => exact ⟨k + 1, by omega, by go_num, HA.out, HB1.out⟩
        case measure => simp [intOf]; omega
    · have hkl : k = arcs.length := by omega
      have HA : Hid (decide ((0 : Int) ≤ -1) = arcs.any f) := by
        have := HI.out
        rw [hkl, List.take_length] at this
        show _ = _
        rw [this]; rfl
      go_wp2
      go_ret
      exact ⟨_, rfl, HA.out, hb⟩

set_option maxRecDepth 100000 in
set_option maxHeartbeats 2000000 in
theorem containsMsg_any (g : Nat) (caps : Array Value) (f : Int × Int × Int → Bool) (eg : ∀ args w, (callFunc g args).run Try.prog w = .ok (.enter g args) w) (bo : Option Addr) (cb : Nat) (arcs : List (Int × Int × Int)) (w : World) (hR : PcAt w bo arcs) (hl : arcs.length ≤ 200)
    (hf : ∀ a ∈ arcs, ∀ wq, Below w.heap.size w wq → Calls Try.prog g (#[.agg #[.int .i64 a.1, .int .i64 a.2.1, .int .i64 a.2.2]] ++ caps) wq fun e w' => e = .returned (.bool (f a)) ∧ Below wq.heap.size wq w') :
    Calls Try.prog 24 #[.slice bo arcs.length cb, .func (.func g) #[] caps] w fun e w' => e = .returned (.bool (arcs.any f)) ∧ Below w.heap.size w w' := by
  have h1 := indexMsg_any g caps f eg bo cb arcs w hR hl hf
  clear hf hR
  go_enter Try.func24, Try.ntmps24
  go_wp2_with fail
  refine h1.mono ?_
  rintro e w1 ⟨i, rfl, hi, hb1⟩
  have HI := hideW hi
  clear hi
  go_wp2
  go_ret
  exact ⟨ret_bool HI.out, hb1⟩

set_option maxRecDepth 100000 in
theorem covers1_any (B : Nat) (t : Int) (p : Int × Int × Int) (w : World) (c0 : w.cell? ⟨B, 0, none⟩ = some (.int .i64 t)) :
    Calls Try.prog 25 (#[.agg #[.int .i64 p.1, .int .i64 p.2.1, .int .i64 p.2.2]] ++ #[.pointer (some ⟨B, 0, none⟩)]) w fun e w' => e = .returned (.bool (inP p t)) ∧ Below w.heap.size w w' := by
  have e0 : (#[.agg #[.int .i64 p.1, .int .i64 p.2.1, .int .i64 p.2.2]] ++ #[.pointer (some ⟨B, 0, none⟩)] : Array Value) = #[.agg #[.int .i64 p.1, .int .i64 p.2.1, .int .i64 p.2.2], .pointer (some ⟨B, 0, none⟩)] := rfl
  rw [e0]
  have hB := World.block_lt_of_cell? w _ c0
  simp only at hB
  have HB := hideW (pal w)
  by_cases g1 : p.1 ≤ t
  · by_cases g2 : t < p.2.1
    · have HC : Hid (inP p t = true) := (inP_iff _ _).2 ⟨g1, g2⟩
      go_enter Try.func25, Try.ntmps25
      go_wp2
      go_ret
      exact ⟨ret_bool HC.out.symm, HB.out _⟩
    · have HC : Hid (inP p t = false) := by show _ = _; rw [← Bool.not_eq_true, inP_iff]; omega
      go_enter Try.func25, Try.ntmps25
      go_wp2
      go_ret
      exact ⟨ret_bool HC.out.symm, HB.out _⟩
  · have HC : Hid (inP p t = false) := by show _ = _; rw [← Bool.not_eq_true, inP_iff]; omega
    go_enter Try.func25, Try.ntmps25
    go_wp2
    go_ret
    exact ⟨ret_bool HC.out.symm, HB.out _⟩

theorem ceAt_new {w : World} {B : Nat} {t : TypeId} {cs : Array Value} {l : List Cl} (hB : B = w.heap.size) (hc : cs.toList = encC l) : CeAt (w.alloc (.cells cs t)) (some ⟨B, 0, none⟩) l := by
  subst hB
  refine .inr ⟨_, 0, rfl, by simp, fun j hj => ?_⟩
  have hg : ∀ k, (w.alloc (.cells cs t)).cell? ⟨w.heap.size, k, none⟩ = (encC l)[k]? := fun k => by
    rw [World.cell?_alloc_at _ _ _ _ rfl, ← hc]; simp
  obtain ⟨f0, f1, f2, f3, f4⟩ := encC_get l j hj
  rw [hg, hg, hg, hg, hg, Nat.zero_add, f0, f1, f2, f3, f4]
  exact ⟨rfl, rfl, rfl, rfl, rfl⟩

end Go.Proofs.Ytjlnokjaabcldae
