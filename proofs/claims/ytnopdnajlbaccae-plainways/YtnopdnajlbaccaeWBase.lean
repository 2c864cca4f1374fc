/-
  What row, ContainsFunc over arcs and the closure of the law PlainWays answer.
-/
import Derived.Test.YtnopdnajlbaccaePlDeg
import Derived.Test.YtnopdnajlbaccaeEqI
import Derived.Test.YtnopdnajlbaccaePwMath
namespace Go.Proofs.Ytnopdnajlbaccae
open Go.RowKit

set_option maxRecDepth 100000 in
set_option maxHeartbeats 2000000 in
theorem row_any (w : World) :
    Calls Try.prog 13 #[] w fun e w' => ∃ ao bo, e = .returned (.agg #[.slice ao 3 3, .slice bo 2 2]) ∧ BsAt w' ao [true, true, true] ∧ PcAt w' bo [(0, 1, 4), (1, 2, 5)] ∧ Below w.heap.size w w' := by
  go_enter Try.func13, Try.ntmps13
  go_wp2
  refine bodyPost_ret (v := .agg #[.slice (some ⟨w.heap.size + 1, 0, none⟩) 3 3, .slice (some ⟨w.heap.size + 1 + 1, 0, none⟩) 2 2]) (by simp [results, Try.results13, go_sem]) rfl ⟨_, _, rfl, ?_, ?_, ptw (ptw (pal _ _) (pal _ _)) (pal _ _)⟩
  · refine .inr ⟨_, 0, rfl, by simp, fun j hj => ?_⟩
    match j, hj with
    | 0, _ => rw [World.cell?_alloc_past _ _ _ (by simp), World.cell?_alloc_at _ _ _ _ (by simp)]; rfl
    | 1, _ => rw [World.cell?_alloc_past _ _ _ (by simp), World.cell?_alloc_at _ _ _ _ (by simp)]; rfl
    | 2, _ => rw [World.cell?_alloc_past _ _ _ (by simp), World.cell?_alloc_at _ _ _ _ (by simp)]; rfl
  · refine .inr ⟨_, 0, rfl, by simp, fun j hj => ?_⟩
    match j, hj with
    | 0, _ => refine ⟨?_, ?_, ?_⟩ <;> (rw [World.cell?_alloc_at _ _ _ _ (by simp)]; rfl)
    | 1, _ => refine ⟨?_, ?_, ?_⟩ <;> (rw [World.cell?_alloc_at _ _ _ _ (by simp)]; rfl)

set_option maxRecDepth 100000 in
set_option maxHeartbeats 2000000 in
theorem indexArc_any (g : Nat) (caps : Array Value) (f : Ac → Bool) (eg : ∀ args w, (callFunc g args).run Try.prog w = .ok (.enter g args) w) (bo : Option Addr) (cb : Nat) (arcs : List Ac) (w : World) (hR : PcAt w bo arcs) (hl : arcs.length ≤ 30)
    (hf : ∀ a ∈ arcs, ∀ wq, Below w.heap.size w wq → Calls Try.prog g (#[.agg #[.int .i64 a.1, .int .i64 a.2.1, .int .i64 a.2.2]] ++ caps) wq fun e w' => e = .returned (.bool (f a)) ∧ Below wq.heap.size wq w') :
    Calls Try.prog 37 #[.slice bo arcs.length cb, .func (.func g) #[] caps] w fun e w' => ∃ i : Int, e = .returned (.int .i64 i) ∧ decide (0 ≤ i) = arcs.any f ∧ Below w.heap.size w w' := by
  have HF := hidep hf
  clear hf
  go_enter Try.func37, Try.ntmps37
  go_wp2
  go_loopw [5, 8] (fun _ i wr => ∃ k : Nat, k ≤ arcs.length ∧ i = .int .i64 k ∧ (arcs.take k).any f = false ∧ Below w.heap.size w wr) (fun _ i _ => arcs.length - (intOf i).toNat)
  case atStart => exact ⟨0, Nat.zero_le _, rfl, rfl, Below.refl _ _⟩
  case round =>
    obtain ⟨k, hk, rfl, hI, hb⟩ := hrel
    have HI := hidep hI
    clear hI
    by_cases hlt : k < arcs.length
    · rcases hR.below hb with h0 | ⟨b, off, rfl, hbr, hc⟩
      · subst h0; simp at hlt
      obtain ⟨c0, c1, c2⟩ := PcAt.at3 hlt hc
      have hcl := HF.out _ (List.getElem_mem hlt) wr hb
      have hki : (k : Int) < (arcs.length : Int) := by omega
      clear hc hR
      cases hfk : f arcs[k] with
      | true =>
        have HA : Hid (decide ((0 : Int) ≤ (k : Int)) = arcs.any f) := by
          have h1 : arcs.any f = true := List.any_eq_true.2 ⟨_, List.getElem_mem hlt, hfk⟩
          show _ = _
          rw [h1]; simp
        rw [hfk] at hcl
        clear hfk
        go_wp2_with fail
        refine hcl.mono ?_
        rintro e w1 ⟨rfl, hb1⟩
        have HB1 := hidep (ptw hb hb1)
        clear hb1
        go_wp2
        go_ret
        exact ⟨_, rfl, HA.out, HB1.out⟩
      | false =>
        have HA : Hid ((arcs.take (k + 1)).any f = false) := by
          show _ = _
          rw [List.take_succ_eq_append_getElem hlt, List.any_append, HI.out]; simp [hfk]
        rw [hfk] at hcl
        clear hfk
        go_wp2_with fail
        refine hcl.mono ?_
        rintro e w1 ⟨rfl, hb1⟩
        have HB1 := hidep (ptw hb hb1)
        clear hb1
        go_wp2
        go_roundw
        case rel => exact ⟨k + 1, by omega, by go_num, HA.out, HB1.out⟩
        case measure => simp [intOf]; omega
    · have hkl : k = arcs.length := by omega
      have HA : Hid (decide ((0 : Int) ≤ -1) = arcs.any f) := by
        have := HI.out
        rw [hkl, List.take_length] at this
        show _ = _
        rw [this]; rfl
      go_wp2
      go_ret
      exact ⟨_, rfl, HA.out, hb⟩

set_option maxRecDepth 100000 in
set_option maxHeartbeats 2000000 in
theorem containsArc_any (g : Nat) (caps : Array Value) (f : Ac → Bool) (eg : ∀ args w, (callFunc g args).run Try.prog w = .ok (.enter g args) w) (bo : Option Addr) (cb : Nat) (arcs : List Ac) (w : World) (hR : PcAt w bo arcs) (hl : arcs.length ≤ 30)
    (hf : ∀ a ∈ arcs, ∀ wq, Below w.heap.size w wq → Calls Try.prog g (#[.agg #[.int .i64 a.1, .int .i64 a.2.1, .int .i64 a.2.2]] ++ caps) wq fun e w' => e = .returned (.bool (f a)) ∧ Below wq.heap.size wq w') :
    Calls Try.prog 18 #[.slice bo arcs.length cb, .func (.func g) #[] caps] w fun e w' => e = .returned (.bool (arcs.any f)) ∧ Below w.heap.size w w' := by
  have h1 := indexArc_any g caps f eg bo cb arcs w hR hl hf
  clear hf hR
  go_enter Try.func18, Try.ntmps18
  go_wp2_with fail
  refine h1.mono ?_
  rintro e w1 ⟨i, rfl, hi, hb1⟩
  have HI := hidep hi
  clear hi
  go_wp2
  go_ret
  exact ⟨retp_bool HI.out, hb1⟩

/-- is an arc one by which x is told at v? -/
def byB (C : List Int) (v x : Int) (a : Ac) : Bool := decide (a.2.1 = v) && decide (vat C a.1 < 1099511627776) && decide (vat C a.1 + a.2.2 = x)

set_option maxRecDepth 100000 in
set_option maxHeartbeats 4000000 in
theorem ways1_any (C : List Int) (n cc : Nat) (vb cb xb gb off : Nat) (v x : Int) (a : Ac) (A : Nat) (w : World) (eA : a.1 = (A : Int)) (hA : A < n) (hcst : 0 ≤ a.2.2 ∧ a.2.2 ≤ 1000) (hCb : 0 ≤ C.getD A 0 ∧ C.getD A 0 ≤ 1099511627776)
    (q0 : w.cell? ⟨vb, 0, none⟩ = some (.int .i64 v)) (q1 : w.cell? ⟨cb, 0, none⟩ = some (.slice (some ⟨gb, off, none⟩) n cc)) (q2 : w.cell? ⟨xb, 0, none⟩ = some (.int .i64 x)) (q3 : w.cell? ⟨gb, off + A, none⟩ = some (.int .i64 (C.getD A 0))) (l0 : vb < w.heap.size) (l1 : cb < w.heap.size) (l2 : xb < w.heap.size) (l3 : gb < w.heap.size) :
    Calls Try.prog 19 (#[.agg #[.int .i64 a.1, .int .i64 a.2.1, .int .i64 a.2.2]] ++ #[.pointer (some ⟨vb, 0, none⟩), .pointer (some ⟨cb, 0, none⟩), .pointer (some ⟨xb, 0, none⟩)]) w fun e w' => e = .returned (.bool (byB C v x a)) ∧ Below w.heap.size w w' := by
  have e0 : (#[.agg #[.int .i64 a.1, .int .i64 a.2.1, .int .i64 a.2.2]] ++ #[.pointer (some ⟨vb, 0, none⟩), .pointer (some ⟨cb, 0, none⟩), .pointer (some ⟨xb, 0, none⟩)] : Array Value) = #[.agg #[.int .i64 a.1, .int .i64 a.2.1, .int .i64 a.2.2], .pointer (some ⟨vb, 0, none⟩), .pointer (some ⟨cb, 0, none⟩), .pointer (some ⟨xb, 0, none⟩)] := rfl
  rw [e0]
  have hv : vat C a.1 = C.getD A 0 := by unfold vat; rw [eA]; rfl
  have HBY : Hid (byB C v x a = (decide (a.2.1 = v) && decide (C.getD A 0 < 1099511627776) && decide (C.getD A 0 + a.2.2 = x))) := by show _ = _; unfold byB; rw [hv]
  rw [eA]
  clear e0 hv eA
  generalize a.2.1 = y at *
  generalize a.2.2 = z at *
  generalize C.getD A 0 = cA at *
  have hiA : (A : Int) < (n : Int) := by omega
  have hw1 : IntKind.i64.wrap (cA + z) = cA + z := wrap_small _ (by omega) (by omega)
  have HB := hidep (pal w)
  by_cases g1 : y = v
  · by_cases g2 : cA < 1099511627776
    · by_cases g3 : cA + z = x
      · have HE : Hid (byB C v x a = true) := by show _ = _; rw [HBY.out]; simp [g1, g2, g3]
        have d1 : (y == v) = true := by simpa using g1
        have d2 : decide (cA < 1099511627776) = true := by simpa using g2
        have d3 : (cA + z == x) = true := by simpa using g3
        clear g1 g3
        go_enter Try.func19, Try.ntmps19
        go_wp2
        go_quiet (fail)
        go_wp2
        go_ret
        exact ⟨retp_bool HE.out.symm, below_drewN (HB.out _) _⟩
      · have HE : Hid (byB C v x a = false) := by show _ = _; rw [HBY.out]; simp [g1, g2, g3]
        have d1 : (y == v) = true := by simpa using g1
        have d2 : decide (cA < 1099511627776) = true := by simpa using g2
        have d3 : (cA + z == x) = false := by simpa using g3
        clear g1 g3
        go_enter Try.func19, Try.ntmps19
        go_wp2
        go_quiet (fail)
        go_wp2
        go_ret
        exact ⟨retp_bool HE.out.symm, below_drewN (HB.out _) _⟩
    · have HE : Hid (byB C v x a = false) := by show _ = _; rw [HBY.out]; simp [g1, g2]
      have d1 : (y == v) = true := by simpa using g1
      have d2 : decide (cA < 1099511627776) = false := by simpa using g2
      clear g1 g2
      go_enter Try.func19, Try.ntmps19
      go_wp2
      go_quiet (fail)
      go_wp2
      go_ret
      exact ⟨retp_bool HE.out.symm, below_drewN (HB.out _) _⟩
  · have HE : Hid (byB C v x a = false) := by show _ = _; rw [HBY.out]; simp [g1]
    have d1 : (y == v) = false := by simpa using g1
    clear g1
    go_enter Try.func19, Try.ntmps19
    go_wp2
    go_quiet (fail)
    go_wp2
    go_ret
    exact ⟨retp_bool HE.out.symm, below_drewN (HB.out _) _⟩

end Go.Proofs.Ytnopdnajlbaccae
