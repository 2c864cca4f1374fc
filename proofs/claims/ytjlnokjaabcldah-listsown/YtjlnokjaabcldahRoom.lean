/-
  What roomy, spoil and kept of the laws, and the library's Clone, do.
-/
import Derived.Test.YtjlnokjaabcldahNorm
import Derived.Test.YtjlnokjaabcldahBox
import Derived.Test.YtjlnokjaabcldahEq
import Derived.Test.YtjlnokjaabcldahEq3
import Derived.Laws.Rows
import Derived.Laws.AppendOwnNone
import Derived.Lib.SliceRun
namespace Go.Proofs.Ytjlnokjaabcldah
open Go.RowKit

/-- make of an empty row with room, in a world behind a draw -/
theorem make_run {P : Program} (w0 : World) (t e : TypeId) (i : TypeInfo) (z : Value) (size : Nat) (h1 : P.underlying t = some (.slice e)) (h2 : P.info? e = some i) (h3 : i.zero = some z) (h4 : i.size = size) (n : Nat) (N : Int) (hN : N = (n : Int)) (b2 : i.bytes * n ≤ 281474976710656) (b3 : n ≤ maxLen) :
    ∃ wM, (Instr.makeSlice t (.int .i64 0) (.int .i64 N)).run P w0.drew = .ok (.slice (some ⟨w0.heap.size, 0, none⟩) 0 n) wM ∧ wM.ownsRow w0.heap.size e size (.slice (some ⟨w0.heap.size, 0, none⟩) 0 n) 0 [] ∧ Below w0.heap.size w0 wM := by
  subst hN
  obtain ⟨w', hrun, r1, r2⟩ := run_make_own (P := P) w0.drew w0.heap.size t e i z size h1 h2 h3 h4 .i64 .i64 n b2 b3 (Nat.le_refl _)
  exact ⟨w', hrun, r1, (Below.refl _ _).drew.grown r2 (Nat.le_refl _) (fun k hk => by cases hk)⟩
theorem make_run2 {P : Program} (w0 : World) (o : Obj) (t e : TypeId) (i : TypeInfo) (z : Value) (size : Nat) (h1 : P.underlying t = some (.slice e)) (h2 : P.info? e = some i) (h3 : i.zero = some z) (h4 : i.size = size) (n : Nat) (N : Int) (hN : N = (n : Int)) (b2 : i.bytes * n ≤ 281474976710656) (b3 : n ≤ maxLen) :
    ∃ wM, (Instr.makeSlice t (.int .i64 0) (.int .i64 N)).run P (w0.alloc o).drew = .ok (.slice (some ⟨w0.heap.size + 1, 0, none⟩) 0 n) wM ∧ wM.ownsRow w0.heap.size e size (.slice (some ⟨w0.heap.size + 1, 0, none⟩) 0 n) 0 [] ∧ Below w0.heap.size w0 wM ∧ wM.heap[w0.heap.size]? = some o := by
  subst hN
  have hs : (w0.alloc o).drew.heap.size = w0.heap.size + 1 := by show (w0.alloc o).heap.size = _; simp
  obtain ⟨w', hrun, r1, r2⟩ := run_make_own (P := P) (w0.alloc o).drew w0.heap.size t e i z size h1 h2 h3 h4 .i64 .i64 n b2 b3 (by rw [hs]; omega)
  rw [hs] at hrun r1
  exact ⟨w', hrun, r1, ((Below.refl _ _).alloc (Nat.le_refl _) _).drew.grown r2 (by rw [hs]; omega) (fun k hk => by cases hk), (r2.block _ (by rw [hs]; omega) (by simp)).trans (heap_alloc_new w0 o)⟩
/-- append of nothing, at a step of a region that draws its order -/
theorem step_append_nil {P : Program} {w : World} {ops : Array Oper} {o : Oper} {a : Act} {K : Act → World → Prop} {Q : Exit → Act → World → Prop} {E : Prop} (hgd : o.guard = none) (s x : Operand) (t : TypeId)
    (ho : o.op = .call { callee := .builtin .append, args := #[s, x], argTypes := #[t, t] })
    (base : Nat) (e : TypeId) (i : TypeInfo) (size : Nat) (ht : P.underlying t = some (.slice e)) (hi : P.info? e = some i)
    (v : Value) (n : Nat) (xs : List Value) (hs : a.eval s = v) (hown : w.ownsRow base e size v n xs) (hx : a.eval x = .slice none 0 0)
    (h : K (a.put o.dst v) w) : if Region.wanted o (yielded ops a.tmps) = true then Oper.wp P o a w K Q else E := by
  have hw : Region.wanted o (yielded ops a.tmps) = true := by simp [Region.wanted, hgd]
  rw [if_pos hw]
  have hrun := run_append_owned_none (P := P) (w := w) base t o.type e i size ht hi v n xs hown
  unfold Oper.wp
  simp [execOp, ho, resolve, invoke, builtin, hs, hx, hrun, Result.andThen]
  exact h
/-- append of a row to an empty row with room, at a step of a region that draws its order -/
theorem step_append_first {P : Program} (w : World) {ops : Array Oper} {o : Oper} {a : Act} {K : Act → World → Prop} {Q : Exit → Act → World → Prop} {E : Prop} (hgd : o.guard = none) (s x : Operand) (t : TypeId)
    (ho : o.op = .call { callee := .builtin .append, args := #[s, x], argTypes := #[t, t] })
    (base : Nat) (e : TypeId) (i : TypeInfo) (z : Value) (size bytes : Nat) (ht : P.underlying t = some (.slice e)) (hi : P.info? e = some i) (hz : i.zero = some z)
    (hsize : i.size = size) (hby : i.bytes = bytes) (hzs : z.cells.size = size) (hsz : 0 < size)
    (g0 c0 : Nat) (hs : a.eval s = .slice (some ⟨g0, 0, none⟩) 0 c0) (hown : w.ownsRow base e size (.slice (some ⟨g0, 0, none⟩) 0 c0) 0 [])
    (ad : Addr) (m c : Nat) (news : List Value) (hx : a.eval x = .slice (some ad) m c) (hl : news.length = m * size) (hnews : ∀ j u, news[j]? = some u → w.cell? (ad.add j) = some u) (h1 : ∀ u ∈ news, u.oneCell' = true)
    (h63 : m ≤ maxLen) (hbytes : m * bytes ≤ 140737488355328) (hbase : base ≤ w.heap.size)
    (h : ∀ g cap w', w'.ownsRow base e size (.slice (some ⟨g, 0, none⟩) m cap) m news → w.grownBy w' (some g0) → K (a.put o.dst (.slice (some ⟨g, 0, none⟩) m cap)) w') :
    if Region.wanted o (yielded ops a.tmps) = true then Oper.wp P o a w K Q else E :=
  step_append_row w hgd s x t ho base e i z size bytes ht hi hz hsize hby hzs hsz g0 0 c0 [] hs hown ad m c news hx hl hnews h1 (by rw [Nat.zero_add]; exact h63) (by rw [Nat.zero_add]; exact hbytes) hbase
    (fun g cap w' r1 r2 => by rw [Nat.zero_add] at r1 ⊢; exact h g cap w' r1 r2)
theorem kept_new {w w' : World} {o : Obj} {g : Nat} (hg : (w.alloc o).grownBy w' (some g)) (hlt : g < w.heap.size) : w'.heap[w.heap.size]? = some o :=
  (hg.block w.heap.size (by simp) (by intro hh; simp only [Option.some.injEq] at hh; omega)).trans (heap_alloc_new w o)
theorem kept_old {w w' : World} {o : Obj} {k g : Nat} (hg : w.grownBy w' (some g)) (hk : w.heap[k]? = some o) (hne : k ≠ g) : w'.heap[k]? = some o :=
  (hg.block k (Array.getElem?_eq_some_iff.1 hk).1 (by intro hh; simp only [Option.some.injEq] at hh; omega)).trans hk
theorem below_made {B : Nat} {a w w' : World} {row : Option Nat} (h : Below B a w) (hg : w.grownBy w' row) (hB : B ≤ w.heap.size) (hr : ∀ k, row = some k → B ≤ k) : Below B a w' := h.grown hg hB hr

theorem ownsCap {w : World} {base e size n : Nat} {v : Value} {xs : List Value} {g cap : Nat} (h : w.ownsRow base e size v n xs) (hv : v = .slice (some ⟨g, 0, none⟩) n cap) : n ≤ cap ∧ cap ≤ 9223372036854775807 := by
  rcases h.2 with ⟨h, _⟩ | ⟨g', cap', cur, h, _, _, h1, h2, _⟩
  · rw [hv] at h; cases h
  · rw [hv] at h
    simp only [Value.slice.injEq] at h
    obtain ⟨_, _, rfl⟩ := h
    exact ⟨h1, by unfold maxLen at h2; omega⟩

set_option maxRecDepth 100000 in
set_option maxHeartbeats 4000000 in
theorem roomy2_any (v : Value) (base : Nat) (l : List (Int × Int)) (p : (Int × Int)) (w : World) (hl : w.ownsRow base 29 2 v l.length (encs l)) (h3 : l.length ≤ 400) :
    Calls Try.prog 5 #[v, .agg #[.int .i64 p.1, .int .i64 p.2]] w fun e w' => ∃ g cap, e = .returned (.slice (some ⟨g, 0, none⟩) l.length cap) ∧ l.length + 2 ≤ cap ∧ cap ≤ 9223372036854775807 ∧ IvAt w' (some ⟨g, 0, none⟩) (l ++ [p, p]) ∧ Below w.heap.size w w' := by
  obtain ⟨i0, hi, hz0, hz1, hz2⟩ := info_parts Try.infoIvl
  obtain ⟨w0, hw0⟩ : ∃ w0, w0 = w.alloc (.cells #[.int .i64 p.1, .int .i64 p.2] 29) := ⟨_, rfl⟩
  have B0 : Below w.heap.size w w0 := by rw [hw0]; exact (Below.refl _ _).alloc (Nat.le_refl _) _
  have d0 : w0.cell? ⟨w.heap.size, 0, none⟩ = some (.int .i64 p.1) := by rw [hw0, World.cell?_alloc_at _ _ _ _ rfl]; rfl
  have d1 : w0.cell? ⟨w.heap.size, 1, none⟩ = some (.int .i64 p.2) := by rw [hw0, World.cell?_alloc_at _ _ _ _ rfl]; rfl
  have hs0 : w.heap.size < w0.heap.size := World.block_lt_of_cell? w0 _ d0
  have hown0 : w0.ownsRow base 29 2 v l.length (encs l) := ownsRow_below hl B0
  have hel : (encs l).length = l.length * 2 := by unfold encs; rw [List.length_map, flat_length]; omega
  have hone : ∀ u ∈ encs l, u.oneCell' = true := by intro u hu; unfold encs at hu; rw [List.mem_map] at hu; obtain ⟨z, _, rfl⟩ := hu; rfl
  have HEL := hide2 hel
  have HONE := hide2 hone
  clear hl hel hone
  rcases hown0.2 with ⟨hv, hn0⟩ | ⟨gv, vc, cur, hv, _⟩
  · subst hv
    have hl0 : l = [] := List.eq_nil_of_length_eq_zero hn0
    subst hl0
    clear hown0 HEL HONE
    have hw3 : IntKind.i64.wrap 3 = 3 := by decide
    obtain ⟨wM, hrM, hoM, hbM⟩ := make_run (P := Try.prog) w0 22 29 i0 _ 2 Try.underlying22 hi hz0 hz1 3 3 rfl (by rw [hz2]; omega) (by unfold maxLen; omega)
    obtain ⟨wP, hrP, hoP, hbP, hfP⟩ := make_run2 (P := Try.prog) w0 (.cells #[.int .i64 p.1, .int .i64 p.2, .int .i64 p.1, .int .i64 p.2] 29) 22 29 i0 _ 2 Try.underlying22 hi hz0 hz1 3 3 rfl (by rw [hz2]; omega) (by unfold maxLen; omega)
    have kM0 := (hbM.cell (p := ⟨w.heap.size, 0, none⟩) hs0).trans d0; have kM1 := (hbM.cell (p := ⟨w.heap.size, 1, none⟩) hs0).trans d1
    have kP0 := (hbP.cell (p := ⟨w.heap.size, 0, none⟩) hs0).trans d0; have kP1 := (hbP.cell (p := ⟨w.heap.size, 1, none⟩) hs0).trans d1
    go_enter Try.func5, Try.ntmps5
    go_wp2_with fail
    rw [← hw0]
    clear hw0
    go_region_held3 (fun w' => w'.cell? ⟨w.heap.size, 0, none⟩ = some (.int .i64 p.1) ∧ w'.cell? ⟨w.heap.size, 1, none⟩ = some (.int .i64 p.2))
      (first | go_keep | (refine ⟨?_, ?_⟩ <;> assumption))
      (first
        | (refine step_append_nil (by rfl) _ _ _ (by rfl) w0.heap.size 29 i0 2 Try.underlying22 hi _ _ _ (by rfl) hoM (by rfl) ?_)
        | (refine step_append_nil (by rfl) _ _ _ (by rfl) w0.heap.size 29 i0 2 Try.underlying22 hi _ _ _ (by rfl) hoP (by rfl) ?_)
        | (refine step_append_nil (by rfl) _ _ _ (by rfl) w0.heap.size 29 i0 2 Try.underlying22 hi _ _ _ (by rfl) (World.ownsRow.alloc (w := wM) hoM _) (by rfl) ?_)
        | (refine step_append_row _ (by rfl) _ _ _ (by rfl) w0.heap.size 29 i0 _ 2 16 Try.underlying22 hi hz0 hz1 hz2 rfl (by decide) _ 0 3 [] (by rfl) (by exact hoP) ⟨w0.heap.size, 0, none⟩ 2 2 [.int .i64 p.1, .int .i64 p.2, .int .i64 p.1, .int .i64 p.2] (by rfl) (by rfl) (World.news_of_block hfP) (by simp [Value.oneCell']) (by unfold maxLen; omega) (by omega) hbP.size ?_; intro gE capE wE hownE hgrowE; have hbE : Below w0.heap.size w0 wE := below_made hbP hgrowE hbP.size (fun j hj => by cases hj; exact (hoP.lt _ rfl).1); have kE0 := (hbE.cell (p := ⟨w.heap.size, 0, none⟩) hs0).trans d0; have kE1 := (hbE.cell (p := ⟨w.heap.size, 1, none⟩) hs0).trans d1)
        | (refine step_append_row _ (by rfl) _ _ _ (by rfl) w0.heap.size 29 i0 _ 2 16 Try.underlying22 hi hz0 hz1 hz2 rfl (by decide) _ 0 3 [] (by rfl) (World.ownsRow.alloc (w := wM) hoM _) ⟨wM.heap.size, 0, none⟩ 2 2 [.int .i64 p.1, .int .i64 p.2, .int .i64 p.1, .int .i64 p.2] (by rfl) (by rfl) (World.news_of_block (cs := #[.int .i64 p.1, .int .i64 p.2, .int .i64 p.1, .int .i64 p.2]) (heap_alloc_new wM _)) (by simp [Value.oneCell']) (by unfold maxLen; omega) (by omega) (by have := hbM.size; simp; omega) ?_; intro gE capE wE hownE hgrowE; have hbE : Below w0.heap.size w0 wE := below_made (hbM.alloc hbM.size _) hgrowE (by have := hbM.size; simp; omega) (fun j hj => by cases hj; exact (hoM.lt _ rfl).1); have kE0 := (hbE.cell (p := ⟨w.heap.size, 0, none⟩) hs0).trans d0; have kE1 := (hbE.cell (p := ⟨w.heap.size, 1, none⟩) hs0).trans d1))
    all_goals
      have hbF := B0.trans (hbE.mono B0.size)
      obtain ⟨zo, zc, hze, hzz⟩ := ivAt_of_owns (show wE.ownsRow w0.heap.size 29 2 _ _ (encs [p, p]) from hownE)
      have hcp := (ownsCap hownE rfl)
      simp only [List.length_cons, List.length_nil, Nat.zero_add, Nat.reduceAdd, Value.slice.injEq, true_and] at hze hcp
      obtain ⟨rfl, rfl⟩ := hze
      have HF := hide2 hzz
      clear hownE hgrowE hzz hbE hbM hoM hoP hbP hfP hrM hrP
      have hc1 : 2 ≤ capE := hcp.1
      have hc2 : capE ≤ 9223372036854775807 := hcp.2
      clear hcp
      go_wp2
      go_ret
      exact ⟨_, _, rfl, hc1, hc2, HF.out, hbF⟩
  · subst hv
    have hwl : IntKind.i64.wrap ((l.length : Int) + 3) = (l.length : Int) + 3 := wrap_small _ (by omega) (by omega)
    obtain ⟨wM, hrM, hoM, hbM⟩ := make_run (P := Try.prog) w0 22 29 i0 _ 2 Try.underlying22 hi hz0 hz1 (l.length + 3) ((l.length : Int) + 3) (by omega) (by rw [hz2]; omega) (by unfold maxLen; omega)
    obtain ⟨wP, hrP, hoP, hbP, hfP⟩ := make_run2 (P := Try.prog) w0 (.cells #[.int .i64 p.1, .int .i64 p.2, .int .i64 p.1, .int .i64 p.2] 29) 22 29 i0 _ 2 Try.underlying22 hi hz0 hz1 (l.length + 3) ((l.length : Int) + 3) (by omega) (by rw [hz2]; omega) (by unfold maxLen; omega)
    have hcM := (ownsRow_below hown0 hbM).cells (g := gv) rfl
    have hcP := (ownsRow_below hown0 hbP).cells (g := gv) rfl
    have hcM2 : ∀ o, ∀ j u, (encs l)[j]? = some u → (wM.alloc o).cell? ((⟨gv, 0, none⟩ : Addr).add j) = some u := fun o => ((ownsRow_below hown0 hbM).alloc o).cells (g := gv) rfl
    have HcM := hide2 hcM
    have HcP := hide2 hcP
    have HcM2 := hide2 hcM2
    clear hcM hcP hcM2 hown0
    have kM0 := (hbM.cell (p := ⟨w.heap.size, 0, none⟩) hs0).trans d0; have kM1 := (hbM.cell (p := ⟨w.heap.size, 1, none⟩) hs0).trans d1
    have kP0 := (hbP.cell (p := ⟨w.heap.size, 0, none⟩) hs0).trans d0; have kP1 := (hbP.cell (p := ⟨w.heap.size, 1, none⟩) hs0).trans d1
    go_enter Try.func5, Try.ntmps5
    go_wp2_with fail
    rw [← hw0]
    clear hw0
    go_region_held3 (fun w' => w'.cell? ⟨w.heap.size, 0, none⟩ = some (.int .i64 p.1) ∧ w'.cell? ⟨w.heap.size, 1, none⟩ = some (.int .i64 p.2))
      (first | go_keep | (refine ⟨?_, ?_⟩ <;> assumption))
      (first
        | (refine step_append_first _ (by rfl) _ _ _ (by rfl) w0.heap.size 29 i0 _ 2 16 Try.underlying22 hi hz0 hz1 hz2 rfl (by decide) _ (l.length + 3) (by rfl) (by exact hoM) ⟨gv, 0, none⟩ l.length vc (encs l) (by rfl) HEL.out (by exact HcM.out) HONE.out (by unfold maxLen; omega) (by omega) hbM.size ?_; intro gA capA wA hownA hgrowA; have hbA : Below w0.heap.size w0 wA := below_made hbM hgrowA hbM.size (fun j hj => by cases hj; exact (hoM.lt _ rfl).1); have kA0 := (hbA.cell (p := ⟨w.heap.size, 0, none⟩) hs0).trans d0; have kA1 := (hbA.cell (p := ⟨w.heap.size, 1, none⟩) hs0).trans d1)
        | (refine step_append_first _ (by rfl) _ _ _ (by rfl) w0.heap.size 29 i0 _ 2 16 Try.underlying22 hi hz0 hz1 hz2 rfl (by decide) _ (l.length + 3) (by rfl) (World.ownsRow.alloc (w := wM) hoM _) ⟨gv, 0, none⟩ l.length vc (encs l) (by rfl) HEL.out (by exact HcM2.out _) HONE.out (by unfold maxLen; omega) (by omega) (by have := hbM.size; simp; omega) ?_; intro gA capA wA hownA hgrowA; have hbA : Below w0.heap.size w0 wA := below_made (hbM.alloc hbM.size _) hgrowA (by have := hbM.size; simp; omega) (fun j hj => by cases hj; exact (hoM.lt _ rfl).1); obtain ⟨fb, hfb, hfA⟩ : ∃ fb, fb = wM.heap.size ∧ wA.heap[fb]? = some (.cells #[.int .i64 p.1, .int .i64 p.2, .int .i64 p.1, .int .i64 p.2] 29 (0, 0)) := ⟨_, rfl, kept_new hgrowA (hoM.lt _ rfl).2⟩; have kA0 := (hbA.cell (p := ⟨w.heap.size, 0, none⟩) hs0).trans d0; have kA1 := (hbA.cell (p := ⟨w.heap.size, 1, none⟩) hs0).trans d1)
        | (refine step_append_first _ (by rfl) _ _ _ (by rfl) w0.heap.size 29 i0 _ 2 16 Try.underlying22 hi hz0 hz1 hz2 rfl (by decide) _ (l.length + 3) (by rfl) (by exact hoP) ⟨gv, 0, none⟩ l.length vc (encs l) (by rfl) HEL.out (by exact HcP.out) HONE.out (by unfold maxLen; omega) (by omega) hbP.size ?_; intro gA capA wA hownA hgrowA; have hbA : Below w0.heap.size w0 wA := below_made hbP hgrowA hbP.size (fun j hj => by cases hj; exact (hoP.lt _ rfl).1); obtain ⟨fb, hfb, hfA⟩ : ∃ fb, fb = w0.heap.size ∧ wA.heap[fb]? = some (.cells #[.int .i64 p.1, .int .i64 p.2, .int .i64 p.1, .int .i64 p.2] 29 (0, 0)) := ⟨_, rfl, kept_old hgrowA hfP (by omega)⟩; have kA0 := (hbA.cell (p := ⟨w.heap.size, 0, none⟩) hs0).trans d0; have kA1 := (hbA.cell (p := ⟨w.heap.size, 1, none⟩) hs0).trans d1)
        | (revert hfA; intro hfA; refine step_append_row _ (by rfl) _ _ _ (by rfl) w0.heap.size 29 i0 _ 2 16 Try.underlying22 hi hz0 hz1 hz2 rfl (by decide) _ l.length capA (encs l) (by rfl) (by exact hownA) ⟨fb, 0, none⟩ 2 2 [.int .i64 p.1, .int .i64 p.2, .int .i64 p.1, .int .i64 p.2] (by rw [hfb]; rfl) (by rfl) (by exact World.news_of_block hfA) (by simp [Value.oneCell']) (by unfold maxLen; omega) (by omega) hbA.size ?_; intro gE capE wE hownE hgrowE; have hbE : Below w0.heap.size w0 wE := below_made hbA hgrowE hbA.size (fun j hj => by cases hj; exact (hownA.lt _ rfl).1); have kE0 := (hbE.cell (p := ⟨w.heap.size, 0, none⟩) hs0).trans d0; have kE1 := (hbE.cell (p := ⟨w.heap.size, 1, none⟩) hs0).trans d1)
        | (revert hownA; intro hownA; refine step_append_row _ (by rfl) _ _ _ (by rfl) w0.heap.size 29 i0 _ 2 16 Try.underlying22 hi hz0 hz1 hz2 rfl (by decide) _ l.length capA (encs l) (by rfl) (World.ownsRow.alloc (w := wA) hownA _) ⟨wA.heap.size, 0, none⟩ 2 2 [.int .i64 p.1, .int .i64 p.2, .int .i64 p.1, .int .i64 p.2] (by rfl) (by rfl) (World.news_of_block (cs := #[.int .i64 p.1, .int .i64 p.2, .int .i64 p.1, .int .i64 p.2]) (heap_alloc_new wA _)) (by simp [Value.oneCell']) (by unfold maxLen; omega) (by omega) (by have := hbA.size; simp; omega) ?_; intro gE capE wE hownE hgrowE; have hbE : Below w0.heap.size w0 wE := below_made (hbA.alloc hbA.size _) hgrowE (by have := hbA.size; simp; omega) (fun j hj => by cases hj; exact (hownA.lt _ rfl).1); have kE0 := (hbE.cell (p := ⟨w.heap.size, 0, none⟩) hs0).trans d0; have kE1 := (hbE.cell (p := ⟨w.heap.size, 1, none⟩) hs0).trans d1))
    all_goals
      have hbF := B0.trans (hbE.mono B0.size)
      have hcp := (ownsCap hownE rfl)
      have hownF : wE.ownsRow w0.heap.size 29 2 (.slice (some ⟨gE, 0, none⟩) (l.length + 2) capE) (l.length + 2) (encs (l ++ [p, p])) := by rw [encs_append l [p, p]]; exact hownE
      obtain ⟨zo, zc, hze, hzz⟩ := ivAt_of_owns hownF
      simp only [Value.slice.injEq] at hze
      obtain ⟨rfl, hlp, rfl⟩ := hze
      clear hlp
      have HF := hide2 hzz
      clear hownE hgrowE hzz hbE hbM hoM hoP hbP hfP hrM hrP hownF hownA hgrowA hbA HcM HcP HcM2
      try clear hfA
      have hc1 : l.length + 2 ≤ capE := by omega
      have hc2 : capE ≤ 9223372036854775807 := hcp.2
      clear hcp
      have hc0 : l.length ≤ capE := by omega
      have hc0' : (l.length : Int) ≤ (capE : Int) := by omega
      have hc0'' : (0 : Int) ≤ (l.length : Int) := by omega
      go_wp2
      go_ret
      exact ⟨_, _, rfl, hc1, hc2, HF.out, hbF⟩


set_option maxRecDepth 100000 in
set_option maxHeartbeats 4000000 in
theorem roomy3_any (v : Value) (base : Nat) (l : List (Int × Int × Int)) (p : (Int × Int × Int)) (w : World) (hl : w.ownsRow base 25 3 v l.length (enc3 l)) (h3 : l.length ≤ 400) :
    Calls Try.prog 7 #[v, .agg #[.int .i64 p.1, .int .i64 p.2.1, .int .i64 p.2.2]] w fun e w' => ∃ g cap, e = .returned (.slice (some ⟨g, 0, none⟩) l.length cap) ∧ l.length + 2 ≤ cap ∧ cap ≤ 9223372036854775807 ∧ PcAt w' (some ⟨g, 0, none⟩) (l ++ [p, p]) ∧ Below w.heap.size w w' := by
  obtain ⟨i0, hi, hz0, hz1, hz2⟩ := info_parts Try.infoPiece
  obtain ⟨w0, hw0⟩ : ∃ w0, w0 = w.alloc (.cells #[.int .i64 p.1, .int .i64 p.2.1, .int .i64 p.2.2] 25) := ⟨_, rfl⟩
  have B0 : Below w.heap.size w w0 := by rw [hw0]; exact (Below.refl _ _).alloc (Nat.le_refl _) _
  have d0 : w0.cell? ⟨w.heap.size, 0, none⟩ = some (.int .i64 p.1) := by rw [hw0, World.cell?_alloc_at _ _ _ _ rfl]; rfl
  have d1 : w0.cell? ⟨w.heap.size, 1, none⟩ = some (.int .i64 p.2.1) := by rw [hw0, World.cell?_alloc_at _ _ _ _ rfl]; rfl
  have d2 : w0.cell? ⟨w.heap.size, 2, none⟩ = some (.int .i64 p.2.2) := by rw [hw0, World.cell?_alloc_at _ _ _ _ rfl]; rfl
  have hs0 : w.heap.size < w0.heap.size := World.block_lt_of_cell? w0 _ d0
  have hown0 : w0.ownsRow base 25 3 v l.length (enc3 l) := ownsRow_below hl B0
  have hel : (enc3 l).length = l.length * 3 := enc3_length l
  have hone : ∀ u ∈ enc3 l, u.oneCell' = true := by intro u hu; unfold enc3 at hu; rw [List.mem_map] at hu; obtain ⟨z, _, rfl⟩ := hu; rfl
  have HEL := hide2 hel
  have HONE := hide2 hone
  clear hl hel hone
  rcases hown0.2 with ⟨hv, hn0⟩ | ⟨gv, vc, cur, hv, _⟩
  · subst hv
    have hl0 : l = [] := List.eq_nil_of_length_eq_zero hn0
    subst hl0
    clear hown0 HEL HONE
    have hw3 : IntKind.i64.wrap 3 = 3 := by decide
    obtain ⟨wM, hrM, hoM, hbM⟩ := make_run (P := Try.prog) w0 23 25 i0 _ 3 Try.underlying23 hi hz0 hz1 3 3 rfl (by rw [hz2]; omega) (by unfold maxLen; omega)
    obtain ⟨wP, hrP, hoP, hbP, hfP⟩ := make_run2 (P := Try.prog) w0 (.cells #[.int .i64 p.1, .int .i64 p.2.1, .int .i64 p.2.2, .int .i64 p.1, .int .i64 p.2.1, .int .i64 p.2.2] 25) 23 25 i0 _ 3 Try.underlying23 hi hz0 hz1 3 3 rfl (by rw [hz2]; omega) (by unfold maxLen; omega)
    have kM0 := (hbM.cell (p := ⟨w.heap.size, 0, none⟩) hs0).trans d0; have kM1 := (hbM.cell (p := ⟨w.heap.size, 1, none⟩) hs0).trans d1; have kM2 := (hbM.cell (p := ⟨w.heap.size, 2, none⟩) hs0).trans d2
    have kP0 := (hbP.cell (p := ⟨w.heap.size, 0, none⟩) hs0).trans d0; have kP1 := (hbP.cell (p := ⟨w.heap.size, 1, none⟩) hs0).trans d1; have kP2 := (hbP.cell (p := ⟨w.heap.size, 2, none⟩) hs0).trans d2
    go_enter Try.func7, Try.ntmps7
    go_wp2_with fail
    rw [← hw0]
    clear hw0
    go_region_held3 (fun w' => w'.cell? ⟨w.heap.size, 0, none⟩ = some (.int .i64 p.1) ∧ w'.cell? ⟨w.heap.size, 1, none⟩ = some (.int .i64 p.2.1) ∧ w'.cell? ⟨w.heap.size, 2, none⟩ = some (.int .i64 p.2.2))
      (first | go_keep | (refine ⟨?_, ?_, ?_⟩ <;> assumption))
      (first
        | (refine step_append_nil (by rfl) _ _ _ (by rfl) w0.heap.size 25 i0 3 Try.underlying23 hi _ _ _ (by rfl) hoM (by rfl) ?_)
        | (refine step_append_nil (by rfl) _ _ _ (by rfl) w0.heap.size 25 i0 3 Try.underlying23 hi _ _ _ (by rfl) hoP (by rfl) ?_)
        | (refine step_append_nil (by rfl) _ _ _ (by rfl) w0.heap.size 25 i0 3 Try.underlying23 hi _ _ _ (by rfl) (World.ownsRow.alloc (w := wM) hoM _) (by rfl) ?_)
        | (refine step_append_row _ (by rfl) _ _ _ (by rfl) w0.heap.size 25 i0 _ 3 24 Try.underlying23 hi hz0 hz1 hz2 rfl (by decide) _ 0 3 [] (by rfl) (by exact hoP) ⟨w0.heap.size, 0, none⟩ 2 2 [.int .i64 p.1, .int .i64 p.2.1, .int .i64 p.2.2, .int .i64 p.1, .int .i64 p.2.1, .int .i64 p.2.2] (by rfl) (by rfl) (World.news_of_block hfP) (by simp [Value.oneCell']) (by unfold maxLen; omega) (by omega) hbP.size ?_; intro gE capE wE hownE hgrowE; have hbE : Below w0.heap.size w0 wE := below_made hbP hgrowE hbP.size (fun j hj => by cases hj; exact (hoP.lt _ rfl).1); have kE0 := (hbE.cell (p := ⟨w.heap.size, 0, none⟩) hs0).trans d0; have kE1 := (hbE.cell (p := ⟨w.heap.size, 1, none⟩) hs0).trans d1; have kE2 := (hbE.cell (p := ⟨w.heap.size, 2, none⟩) hs0).trans d2)
        | (refine step_append_row _ (by rfl) _ _ _ (by rfl) w0.heap.size 25 i0 _ 3 24 Try.underlying23 hi hz0 hz1 hz2 rfl (by decide) _ 0 3 [] (by rfl) (World.ownsRow.alloc (w := wM) hoM _) ⟨wM.heap.size, 0, none⟩ 2 2 [.int .i64 p.1, .int .i64 p.2.1, .int .i64 p.2.2, .int .i64 p.1, .int .i64 p.2.1, .int .i64 p.2.2] (by rfl) (by rfl) (World.news_of_block (cs := #[.int .i64 p.1, .int .i64 p.2.1, .int .i64 p.2.2, .int .i64 p.1, .int .i64 p.2.1, .int .i64 p.2.2]) (heap_alloc_new wM _)) (by simp [Value.oneCell']) (by unfold maxLen; omega) (by omega) (by have := hbM.size; simp; omega) ?_; intro gE capE wE hownE hgrowE; have hbE : Below w0.heap.size w0 wE := below_made (hbM.alloc hbM.size _) hgrowE (by have := hbM.size; simp; omega) (fun j hj => by cases hj; exact (hoM.lt _ rfl).1); have kE0 := (hbE.cell (p := ⟨w.heap.size, 0, none⟩) hs0).trans d0; have kE1 := (hbE.cell (p := ⟨w.heap.size, 1, none⟩) hs0).trans d1; have kE2 := (hbE.cell (p := ⟨w.heap.size, 2, none⟩) hs0).trans d2))
    all_goals
      have hbF := B0.trans (hbE.mono B0.size)
      obtain ⟨zo, zc, hze, hzz⟩ := pcAt_of_owns (show wE.ownsRow w0.heap.size 25 3 _ _ (enc3 [p, p]) from hownE)
      have hcp := (ownsCap hownE rfl)
      simp only [List.length_cons, List.length_nil, Nat.zero_add, Nat.reduceAdd, Value.slice.injEq, true_and] at hze hcp
      obtain ⟨rfl, rfl⟩ := hze
      have HF := hide2 hzz
      clear hownE hgrowE hzz hbE hbM hoM hoP hbP hfP hrM hrP
      have hc1 : 2 ≤ capE := hcp.1
      have hc2 : capE ≤ 9223372036854775807 := hcp.2
      clear hcp
      go_wp2
      go_ret
      exact ⟨_, _, rfl, hc1, hc2, HF.out, hbF⟩
  · subst hv
    have hwl : IntKind.i64.wrap ((l.length : Int) + 3) = (l.length : Int) + 3 := wrap_small _ (by omega) (by omega)
    obtain ⟨wM, hrM, hoM, hbM⟩ := make_run (P := Try.prog) w0 23 25 i0 _ 3 Try.underlying23 hi hz0 hz1 (l.length + 3) ((l.length : Int) + 3) (by omega) (by rw [hz2]; omega) (by unfold maxLen; omega)
    obtain ⟨wP, hrP, hoP, hbP, hfP⟩ := make_run2 (P := Try.prog) w0 (.cells #[.int .i64 p.1, .int .i64 p.2.1, .int .i64 p.2.2, .int .i64 p.1, .int .i64 p.2.1, .int .i64 p.2.2] 25) 23 25 i0 _ 3 Try.underlying23 hi hz0 hz1 (l.length + 3) ((l.length : Int) + 3) (by omega) (by rw [hz2]; omega) (by unfold maxLen; omega)
    have hcM := (ownsRow_below hown0 hbM).cells (g := gv) rfl
    have hcP := (ownsRow_below hown0 hbP).cells (g := gv) rfl
    have hcM2 : ∀ o, ∀ j u, (enc3 l)[j]? = some u → (wM.alloc o).cell? ((⟨gv, 0, none⟩ : Addr).add j) = some u := fun o => ((ownsRow_below hown0 hbM).alloc o).cells (g := gv) rfl
    have HcM := hide2 hcM
    have HcP := hide2 hcP
    have HcM2 := hide2 hcM2
    clear hcM hcP hcM2 hown0
    have kM0 := (hbM.cell (p := ⟨w.heap.size, 0, none⟩) hs0).trans d0; have kM1 := (hbM.cell (p := ⟨w.heap.size, 1, none⟩) hs0).trans d1; have kM2 := (hbM.cell (p := ⟨w.heap.size, 2, none⟩) hs0).trans d2
    have kP0 := (hbP.cell (p := ⟨w.heap.size, 0, none⟩) hs0).trans d0; have kP1 := (hbP.cell (p := ⟨w.heap.size, 1, none⟩) hs0).trans d1; have kP2 := (hbP.cell (p := ⟨w.heap.size, 2, none⟩) hs0).trans d2
    go_enter Try.func7, Try.ntmps7
    go_wp2_with fail
    rw [← hw0]
    clear hw0
    go_region_held3 (fun w' => w'.cell? ⟨w.heap.size, 0, none⟩ = some (.int .i64 p.1) ∧ w'.cell? ⟨w.heap.size, 1, none⟩ = some (.int .i64 p.2.1) ∧ w'.cell? ⟨w.heap.size, 2, none⟩ = some (.int .i64 p.2.2))
      (first | go_keep | (refine ⟨?_, ?_, ?_⟩ <;> assumption))
      (first
        | (refine step_append_first _ (by rfl) _ _ _ (by rfl) w0.heap.size 25 i0 _ 3 24 Try.underlying23 hi hz0 hz1 hz2 rfl (by decide) _ (l.length + 3) (by rfl) (by exact hoM) ⟨gv, 0, none⟩ l.length vc (enc3 l) (by rfl) HEL.out (by exact HcM.out) HONE.out (by unfold maxLen; omega) (by omega) hbM.size ?_; intro gA capA wA hownA hgrowA; have hbA : Below w0.heap.size w0 wA := below_made hbM hgrowA hbM.size (fun j hj => by cases hj; exact (hoM.lt _ rfl).1); have kA0 := (hbA.cell (p := ⟨w.heap.size, 0, none⟩) hs0).trans d0; have kA1 := (hbA.cell (p := ⟨w.heap.size, 1, none⟩) hs0).trans d1; have kA2 := (hbA.cell (p := ⟨w.heap.size, 2, none⟩) hs0).trans d2)
        | (refine step_append_first _ (by rfl) _ _ _ (by rfl) w0.heap.size 25 i0 _ 3 24 Try.underlying23 hi hz0 hz1 hz2 rfl (by decide) _ (l.length + 3) (by rfl) (World.ownsRow.alloc (w := wM) hoM _) ⟨gv, 0, none⟩ l.length vc (enc3 l) (by rfl) HEL.out (by exact HcM2.out _) HONE.out (by unfold maxLen; omega) (by omega) (by have := hbM.size; simp; omega) ?_; intro gA capA wA hownA hgrowA; have hbA : Below w0.heap.size w0 wA := below_made (hbM.alloc hbM.size _) hgrowA (by have := hbM.size; simp; omega) (fun j hj => by cases hj; exact (hoM.lt _ rfl).1); obtain ⟨fb, hfb, hfA⟩ : ∃ fb, fb = wM.heap.size ∧ wA.heap[fb]? = some (.cells #[.int .i64 p.1, .int .i64 p.2.1, .int .i64 p.2.2, .int .i64 p.1, .int .i64 p.2.1, .int .i64 p.2.2] 25 (0, 0)) := ⟨_, rfl, kept_new hgrowA (hoM.lt _ rfl).2⟩; have kA0 := (hbA.cell (p := ⟨w.heap.size, 0, none⟩) hs0).trans d0; have kA1 := (hbA.cell (p := ⟨w.heap.size, 1, none⟩) hs0).trans d1; have kA2 := (hbA.cell (p := ⟨w.heap.size, 2, none⟩) hs0).trans d2)
        | (refine step_append_first _ (by rfl) _ _ _ (by rfl) w0.heap.size 25 i0 _ 3 24 Try.underlying23 hi hz0 hz1 hz2 rfl (by decide) _ (l.length + 3) (by rfl) (by exact hoP) ⟨gv, 0, none⟩ l.length vc (enc3 l) (by rfl) HEL.out (by exact HcP.out) HONE.out (by unfold maxLen; omega) (by omega) hbP.size ?_; intro gA capA wA hownA hgrowA; have hbA : Below w0.heap.size w0 wA := below_made hbP hgrowA hbP.size (fun j hj => by cases hj; exact (hoP.lt _ rfl).1); obtain ⟨fb, hfb, hfA⟩ : ∃ fb, fb = w0.heap.size ∧ wA.heap[fb]? = some (.cells #[.int .i64 p.1, .int .i64 p.2.1, .int .i64 p.2.2, .int .i64 p.1, .int .i64 p.2.1, .int .i64 p.2.2] 25 (0, 0)) := ⟨_, rfl, kept_old hgrowA hfP (by omega)⟩; have kA0 := (hbA.cell (p := ⟨w.heap.size, 0, none⟩) hs0).trans d0; have kA1 := (hbA.cell (p := ⟨w.heap.size, 1, none⟩) hs0).trans d1; have kA2 := (hbA.cell (p := ⟨w.heap.size, 2, none⟩) hs0).trans d2)
        | (revert hfA; intro hfA; refine step_append_row _ (by rfl) _ _ _ (by rfl) w0.heap.size 25 i0 _ 3 24 Try.underlying23 hi hz0 hz1 hz2 rfl (by decide) _ l.length capA (enc3 l) (by rfl) (by exact hownA) ⟨fb, 0, none⟩ 2 2 [.int .i64 p.1, .int .i64 p.2.1, .int .i64 p.2.2, .int .i64 p.1, .int .i64 p.2.1, .int .i64 p.2.2] (by rw [hfb]; rfl) (by rfl) (by exact World.news_of_block hfA) (by simp [Value.oneCell']) (by unfold maxLen; omega) (by omega) hbA.size ?_; intro gE capE wE hownE hgrowE; have hbE : Below w0.heap.size w0 wE := below_made hbA hgrowE hbA.size (fun j hj => by cases hj; exact (hownA.lt _ rfl).1); have kE0 := (hbE.cell (p := ⟨w.heap.size, 0, none⟩) hs0).trans d0; have kE1 := (hbE.cell (p := ⟨w.heap.size, 1, none⟩) hs0).trans d1; have kE2 := (hbE.cell (p := ⟨w.heap.size, 2, none⟩) hs0).trans d2)
        | (revert hownA; intro hownA; refine step_append_row _ (by rfl) _ _ _ (by rfl) w0.heap.size 25 i0 _ 3 24 Try.underlying23 hi hz0 hz1 hz2 rfl (by decide) _ l.length capA (enc3 l) (by rfl) (World.ownsRow.alloc (w := wA) hownA _) ⟨wA.heap.size, 0, none⟩ 2 2 [.int .i64 p.1, .int .i64 p.2.1, .int .i64 p.2.2, .int .i64 p.1, .int .i64 p.2.1, .int .i64 p.2.2] (by rfl) (by rfl) (World.news_of_block (cs := #[.int .i64 p.1, .int .i64 p.2.1, .int .i64 p.2.2, .int .i64 p.1, .int .i64 p.2.1, .int .i64 p.2.2]) (heap_alloc_new wA _)) (by simp [Value.oneCell']) (by unfold maxLen; omega) (by omega) (by have := hbA.size; simp; omega) ?_; intro gE capE wE hownE hgrowE; have hbE : Below w0.heap.size w0 wE := below_made (hbA.alloc hbA.size _) hgrowE (by have := hbA.size; simp; omega) (fun j hj => by cases hj; exact (hownA.lt _ rfl).1); have kE0 := (hbE.cell (p := ⟨w.heap.size, 0, none⟩) hs0).trans d0; have kE1 := (hbE.cell (p := ⟨w.heap.size, 1, none⟩) hs0).trans d1; have kE2 := (hbE.cell (p := ⟨w.heap.size, 2, none⟩) hs0).trans d2))
    all_goals
      have hbF := B0.trans (hbE.mono B0.size)
      have hcp := (ownsCap hownE rfl)
      have hownF : wE.ownsRow w0.heap.size 25 3 (.slice (some ⟨gE, 0, none⟩) (l.length + 2) capE) (l.length + 2) (enc3 (l ++ [p, p])) := by rw [enc3_append l [p, p]]; exact hownE
      obtain ⟨zo, zc, hze, hzz⟩ := pcAt_of_owns hownF
      simp only [Value.slice.injEq] at hze
      obtain ⟨rfl, hlp, rfl⟩ := hze
      clear hlp
      have HF := hide2 hzz
      clear hownE hgrowE hzz hbE hbM hoM hoP hbP hfP hrM hrP hownF hownA hgrowA hbA HcM HcP HcM2
      try clear hfA
      have hc1 : l.length + 2 ≤ capE := by omega
      have hc2 : capE ≤ 9223372036854775807 := hcp.2
      clear hcp
      have hc0 : l.length ≤ capE := by omega
      have hc0' : (l.length : Int) ≤ (capE : Int) := by omega
      have hc0'' : (0 : Int) ≤ (l.length : Int) := by omega
      go_wp2
      go_ret
      exact ⟨_, _, rfl, hc1, hc2, HF.out, hbF⟩

end Go.Proofs.Ytjlnokjaabcldah
