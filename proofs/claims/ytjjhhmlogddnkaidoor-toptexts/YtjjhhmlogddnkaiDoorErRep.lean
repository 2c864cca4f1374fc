/-
  What slices.Repeat of one number answers.
-/
import Derived.Test.YtjjhhmlogddnkaiDoorHeldB
import Derived.Test.YtjjhhmlogddnkaiDoorShelf
import Derived.Laws.CopyOwn
import Derived.OwnWalk
namespace Go.Proofs.YtjjhhmlogddnkaiDoor
open Go.RowKit

theorem stopHereP {p : Prop} (h : Hid p) : p := h
theorem wrap_rp (n : Int) (h0 : -9223372036854775808 ≤ n) (h1 : n < 9223372036854775808) : IntKind.i64.wrap n = n := by
  simp only [IntKind.wrap, IntKind.bits, IntKind.signed]
  simp
  omega
theorem run_copy_splice {P : Program} (w : World) (dT sT ty elem : TypeId) (hu : P.underlying dT = some (.slice elem)) (hsz : (P.info? elem).map (·.size) = some 1)
    (dp sp : Option Addr) (dLen dCap sLen sCap : Nat) (g off : Nat) (cur : List Value) (t : TypeId) (hg : w.heap[g]? = some (.cells cur.toArray t (0, 0))) (cs : List Value) (hn : cs.length = Nat.min sLen dLen)
    (hpos : 0 < cs.length → dp = some ⟨g, off, none⟩ ∧ ∃ ad, sp = some ad ∧ ∀ j v, cs[j]? = some v → w.cell? (ad.add j) = some v)
    (hfit : off + cs.length ≤ cur.length) (h1 : ∀ v ∈ cs, v.oneCell' = true) (B : Nat) (w0 : World) (hb : Below B w0 w) (hBg : B ≤ g) :
    ∃ w', (Builtin.copy_ #[dT, sT] ty #[.slice dp dLen dCap, .slice sp sLen sCap]).run P w = .ok (goInt cs.length) w' ∧ Hid (w'.heap[g]? = some (.cells (splice cur off cs).toArray t (0, 0))) ∧ Below B w0 w' := by
  by_cases h0 : cs.length = 0
  · obtain rfl : cs = [] := List.eq_nil_of_length_eq_zero h0
    exact ⟨w, run_copy_none (P := P) w dT sT ty elem dp sp dLen dCap sLen sCap hu hsz (by simpa using hn.symm), (show _ = _ by simpa [splice] using hg), hb⟩
  · obtain ⟨rfl, ad, rfl, hsrc⟩ := hpos (by omega)
    refine ⟨_, run_copy_row (P := P) w dT sT ty elem g off dLen dCap ad sLen sCap cur.toArray t cs hu hsz hg hn hsrc (by simpa using hfit) h1, ?_, below_setRow hb hBg _⟩
    exact (show _ = _ by simpa [splice] using setRow_heap w g _ _ t _ hg)
theorem splice_rep {N k m : Nat} {x : Int} {cur : List Value} (hl : cur.length = N) (hc : cur.take k = (List.replicate k x).map (Value.int .i64)) (hm : k + m ≤ N) :
    (splice cur k ((List.replicate m x).map (Value.int .i64))).length = N ∧ (splice cur k ((List.replicate m x).map (Value.int .i64))).take (k + m) = (List.replicate (k + m) x).map (Value.int .i64) := by
  refine ⟨by rw [length_splice _ _ _ (by simp; omega), hl], ?_⟩
  unfold splice
  rw [hc, ← List.append_assoc, ← List.map_append, List.replicate_append_replicate, List.take_append_of_le_length (by simp)]
  exact List.take_of_length_le (by simp)

set_option maxRecDepth 100000 in
set_option maxHeartbeats 4000000 in
theorem Repeat_any (x : Int) (ab ao cap N : Nat) (hN : N ≤ 100) (w : World) (hx : w.cell? ⟨ab, ao, none⟩ = some (.int .i64 x)) (hab : ab < w.heap.size) :
    Calls Tryd.prog 32 #[.slice (some ⟨ab, ao, none⟩) 1 cap, .int .i64 N] w fun e w' => e = .returned (.slice (some ⟨w.heap.size, 0, none⟩) N N) ∧ Zo w' w.heap.size w.heap.size N N (List.replicate N x) ∧ Below w.heap.size w w' := by
  obtain ⟨i0, hi, hz0, hz1, hz2⟩ := info_parts Tryd.infoInt
  have hMul := fun W => Tryd.bits_Mul 1 N (by omega) (by omega) W
  have e1 : (1 * N / 18446744073709551616 : Nat) = 0 := by omega
  have e2 : (1 * N % 18446744073709551616 : Nat) = N := by omega
  rw [e1, e2] at hMul
  have hszI : (Tryd.prog.info? 3).map (·.size) = some 1 := by rw [hi]; simp [hz1]
  have hN0 : ¬ (N : Int) < 0 := by omega
  have hwu : IntKind.u64.wrap (N : Int) = (N : Int) := by simp only [IntKind.wrap, IntKind.bits, IntKind.signed]; simp; omega
  have hwi : IntKind.i64.wrap (N : Int) = (N : Int) := wrap_rp _ (by omega) (by omega)
  have HX := hidep hx
  clear hx e1 e2
  go_enter Tryd.func32, Tryd.ntmps32
  go_wp2_with fail
  refine (hMul _).mono ?_
  rintro e w' ⟨rfl, hw'⟩
  rw [hw']
  clear hw' hMul
  go_wp2_with (at_make; refine wpList_make_full _ rfl _ _ 32 rfl w.heap.size 3 i0 (.int .i64 0) 1 Tryd.underlying32 hi hz0 hz1 .i64 .i64 _ _ N rfl rfl rfl rfl (by rw [hz2]; omega) (by unfold maxLen; omega) (by simp) ?_; intro w0 hown0 hgrow0)
  have hb0 : Below w.heap.size w w0 := (Below.refl _ _).grown hgrow0 (Nat.le_refl _) (fun k hk => by cases hk)
  have hx0 : w0.cell? ⟨ab, ao, none⟩ = some (.int .i64 x) := (hb0.cell (p := ⟨ab, ao, none⟩) hab).trans HX.out
  have e1 : (madeCells (Value.int .i64 0).cells (N * 1)).toList = (List.replicate N 0).map (Value.int .i64) := by
    rw [Nat.mul_one]
    show (madeCells #[Value.int .i64 0] N).toList = _
    rw [toList_madeCells_one, List.map_replicate]
  rw [e1] at hown0
  obtain ⟨cur0, hcl0, hg0⟩ : ∃ cur0 : List Value, cur0.length = N ∧ w0.heap[w.heap.size]? = some (.cells cur0.toArray 3 (0, 0)) := by
    rcases hown0.2 with ⟨h, _⟩ | ⟨g, cap', cur, e, _, hg, _, _, hcs, _⟩
    · cases h
    · cases e; exact ⟨cur.toList, by simpa using hcs, by simpa using hg⟩
  clear hown0 hgrow0 e1
  obtain ⟨m, hm⟩ : ∃ m, m = Nat.min 1 N := ⟨_, rfl⟩
  have hm1 : m ≤ 1 ∧ m ≤ N ∧ (N = 0 ∨ 1 ≤ m) := by
    have hm' : m = min 1 N := hm
    omega
  obtain ⟨cs, hcs⟩ : ∃ cs, cs = (List.replicate m x).map (Value.int .i64) := ⟨_, rfl⟩
  have hcl : cs.length = m := by rw [hcs]; simp
  have hc1 : ∀ v ∈ cs, v.oneCell' = true := by rw [hcs]; intro v hv; simp at hv; rw [hv.2]; rfl
  have hcg : ∀ j v, cs[j]? = some v → w0.cell? ((⟨ab, ao, none⟩ : Addr).add j) = some v := by
    intro j v hv
    rw [hcs] at hv
    have h0 : j = 0 := by
      have := (List.getElem?_eq_some_iff.1 hv).1
      simp at this; omega
    subst h0
    have := (List.getElem?_eq_some_iff.1 hv).2
    simp at this
    rw [← this]; simpa [Addr.add] using hx0
  have HCs := hidep hcs
  have HS := hidep (splice_rep (k := 0) (m := m) (x := x) hcl0 (by simp) (by omega))
  have HM := hidep hm
  have hm1i : (m : Int) ≤ N := by omega
  clear hcs hm
  obtain ⟨w1, hrun, hg1, hb1⟩ := run_copy_splice (P := Tryd.prog) w0 32 32 3 3 Tryd.underlying32 hszI (some ⟨w.heap.size, 0, none⟩) (some ⟨ab, ao, none⟩) N N 1 cap w.heap.size 0 cur0 3 hg0 cs (by rw [hcl, HM.out]) (fun _ => ⟨rfl, _, rfl, hcg⟩) (by omega) hc1 w.heap.size w hb0 (Nat.le_refl _)
  rw [hrun, hcl]
  clear hrun hc1 hcg hcl hg0 hb0 hx0
  simp only [Result.andThen]
  go_wp2_with fail
  go_loopw [8] (fun n wr => ∃ (k : Nat) (cur : List Value), k ≤ N ∧ (N = 0 ∨ 1 ≤ k) ∧ n = .int .i64 k ∧ cur.length = N ∧ cur.take k = (List.replicate k x).map (Value.int .i64) ∧ Hid (wr.heap[w.heap.size]? = some (.cells cur.toArray 3 (0, 0))) ∧ Below w.heap.size w wr) (fun n _ => N - (intOf n).toNat)
  case atStart =>
    refine ⟨m, splice cur0 0 cs, by omega, by omega, rfl, ?_, ?_, hg1, hb1⟩
    · rw [HCs.out]; exact HS.out.1
    · rw [HCs.out]; have := HS.out.2; rwa [Nat.zero_add] at this
  case round =>
    clear hg1 hb1 HCs HS HM
    obtain ⟨k, cur, hk, hk1, rfl, hcl, hct, hg, hb⟩ := hrel
    by_cases hkN : k < N
    · have hkNi : (k : Int) < (N : Int) := by omega
      have hne : ¬ N = k := by omega
      obtain ⟨m2, hm2⟩ : ∃ m, m = Nat.min k (N - k) := ⟨_, rfl⟩
      have hm2' : m2 ≤ k ∧ k + m2 ≤ N ∧ 1 ≤ m2 := by
        have hm' : m2 = min k (N - k) := hm2
        omega
      obtain ⟨cs2, hcs2⟩ : ∃ cs, cs = (List.replicate m2 x).map (Value.int .i64) := ⟨_, rfl⟩
      have hcl2 : cs2.length = m2 := by rw [hcs2]; simp
      have hc12 : ∀ v ∈ cs2, v.oneCell' = true := by rw [hcs2]; intro v hv; simp at hv; rw [hv.2]; rfl
      have hcg2 : ∀ j v, cs2[j]? = some v → wr.cell? ((⟨w.heap.size, 0, none⟩ : Addr).add j) = some v := by
        intro j v hv
        have hj := (List.getElem?_eq_some_iff.1 hv).1
        rw [hcl2] at hj
        rw [hcs2] at hv
        have h1 : (cur.take k)[j]? = some v := by
          rw [hct]
          simp [show j < k by omega, show j < m2 by omega] at hv ⊢
          exact hv
        rw [List.getElem?_take_of_lt (by omega)] at h1
        have hgo := hg.out
        have ea : (⟨w.heap.size, 0, none⟩ : Addr).add j = ⟨w.heap.size, j, none⟩ := by unfold Addr.add; split <;> simp_all
        rw [ea]
        simp [World.cell?, hgo, h1]
      have HE2 : Hid ((splice cur k cs2).length = N ∧ (splice cur k cs2).take (k + m2) = (List.replicate (k + m2) x).map (Value.int .i64)) := by
        rw [hcs2]; exact splice_rep hcl hct hm2'.2.1
      have hfit2 : k + cs2.length ≤ cur.length := by omega
      have hwk : IntKind.i64.wrap ((k : Int) + (m2 : Int)) = (k : Int) + (m2 : Int) := wrap_rp _ (by omega) (by omega)
      have HM2 := hidep hm2
      have hsub : ((N : Int) - (k : Int)).toNat = N - k := by omega
      clear hcs2 hm2 hct
      go_wp2_with fail
      refine Go.wp_region_held (S := fun _ => True) (by kernel_rfl) ?_
      have hSw : True := trivial
      refine take_lit (i := 0) (v := ?_) rfl (by kernel_rfl) (by kernel_rfl) (by kernel_rfl) (fun _ _ _ h => h) (Or.inl ⟨by rfl, ?hy0⟩) (by assumption) ?_
      case hy0 => (intro w hSw; (try dsimp only at hSw); go_simp; try with_reducible rfl)
      try simp only [Act.put, List.setIfInBounds_toArray, List.set_cons_zero, List.set_cons_succ]
      refine take_lit (i := 1) (v := ?_) rfl (by kernel_rfl) (by kernel_rfl) (by kernel_rfl) (fun _ _ _ h => h) (Or.inl ⟨by rfl, ?hy1⟩) (by assumption) ?_
      case hy1 => (intro w hSw; (try dsimp only at hSw); go_simp; try with_reducible rfl)
      try simp only [Act.put, List.setIfInBounds_toArray, List.set_cons_zero, List.set_cons_succ]
      refine take_lit (i := 2) (v := ?_) rfl (by kernel_rfl) (by kernel_rfl) (by kernel_rfl) (fun _ _ _ h => h) (Or.inl ⟨by rfl, ?hy2⟩) (by assumption) ?_
      case hy2 => (intro w hSw; (try dsimp only at hSw); go_simp; try with_reducible rfl)
      try simp only [Act.put, List.setIfInBounds_toArray, List.set_cons_zero, List.set_cons_succ]
      refine take_lit (i := 3) (v := ?_) rfl (by kernel_rfl) (by kernel_rfl) (by kernel_rfl) (fun _ _ _ h => h) (Or.inl ⟨by rfl, ?hy3⟩) (by assumption) ?_
      case hy3 => (intro w hSw; (try dsimp only at hSw); go_simp; try with_reducible rfl)
      try simp only [Act.put, List.setIfInBounds_toArray, List.set_cons_zero, List.set_cons_succ]
      refine take_lit (i := 4) (v := ?_) rfl (by kernel_rfl) (by kernel_rfl) (by kernel_rfl) (fun _ _ _ h => h) (Or.inl ⟨by rfl, ?hy4⟩) (by assumption) ?_
      case hy4 => (intro w hSw; (try dsimp only at hSw); go_simp; try with_reducible rfl)
      try simp only [Act.put, List.setIfInBounds_toArray, List.set_cons_zero, List.set_cons_succ]
      refine take_lit (i := 5) (v := ?_) rfl (by kernel_rfl) (by kernel_rfl) (by kernel_rfl) (fun _ _ _ h => h) (Or.inl ⟨by rfl, ?hy5⟩) (by assumption) ?_
      case hy5 => (intro w hSw; (try dsimp only at hSw); go_simp; try with_reducible rfl)
      try simp only [Act.put, List.setIfInBounds_toArray, List.set_cons_zero, List.set_cons_succ]
      refine take_lit (i := 6) (v := ?_) rfl (by kernel_rfl) (by kernel_rfl) (by kernel_rfl) (fun _ _ _ h => h) (Or.inl ⟨by rfl, ?hy6⟩) (by assumption) ?_
      case hy6 => (intro w hSw; (try dsimp only at hSw); go_simp; try with_reducible rfl)
      try simp only [Act.put, List.setIfInBounds_toArray, List.set_cons_zero, List.set_cons_succ]
      refine next_lit (i := 7) rfl (by kernel_rfl) (fun K hK => ?_)
      go_simp
      obtain ⟨w4, hrun, hg4, hb4⟩ := run_copy_splice (P := Tryd.prog) wr.drew 32 32 3 3 Tryd.underlying32 hszI (some ⟨w.heap.size, k, none⟩) (some ⟨w.heap.size, 0, none⟩) (N - k) (N - k) k N w.heap.size k cur 3 hg.out cs2 (by rw [hcl2, HM2.out]) (fun _ => ⟨rfl, _, rfl, hcg2⟩) hfit2 hc12 w.heap.size w (below_drewN hb 1) (Nat.le_refl _)
      rw [hrun, hcl2]
      clear hrun
      simp only [Result.andThen]
      go_simp
      refine hK.out _ _ trivial (fun _ => ?_)
      clear hK K
      try simp only [Act.put, List.setIfInBounds_toArray, List.set_cons_zero, List.set_cons_succ]
      refine take_lit (i := 8) (v := ?_) rfl (by kernel_rfl) (by kernel_rfl) (by kernel_rfl) (fun _ _ _ h => h) (Or.inl ⟨by rfl, ?hy8⟩) (by assumption) ?_
      case hy8 => (intro w hSw; (try dsimp only at hSw); go_simp; try with_reducible rfl)
      try simp only [Act.put, List.setIfInBounds_toArray, List.set_cons_zero, List.set_cons_succ]
      refine take_lit (i := 9) (v := ?_) rfl (by kernel_rfl) (by kernel_rfl) (by kernel_rfl) (fun _ _ _ h => h) (Or.inl ⟨by rfl, ?hy9⟩) (by assumption) ?_
      case hy9 => (intro w hSw; (try dsimp only at hSw); go_simp; try with_reducible rfl)
      try simp only [Act.put, List.setIfInBounds_toArray, List.set_cons_zero, List.set_cons_succ]
      refine wpAnyH_done (by kernel_rfl) ?_ _
      go_wp2
      go_roundw
      case rel => exact ⟨k + m2, splice cur k cs2, by omega, by omega, by go_num, HE2.out.1, HE2.out.2, hg4, hb4⟩
      case measure => simp [intOf]; omega
    · have hke : N = k := by omega
      subst hke
      have HZ : Hid (Zo wr w.heap.size w.heap.size N N (List.replicate N x)) := by
        refine ⟨by simp, .inr ⟨w.heap.size, N, cur.toArray, rfl, Nat.le_refl _, hg.out, Nat.le_refl _, by unfold maxLen; omega, by simp [hcl], by simpa using hct⟩⟩
      clear hct hg hcl
      go_wp2
      go_ret
      exact ⟨rfl, HZ.out, hb⟩

end Go.Proofs.YtjjhhmlogddnkaiDoor
