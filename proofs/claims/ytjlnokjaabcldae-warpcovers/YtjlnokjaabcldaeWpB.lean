/-
  Cells in memory; what against, fit, Cells and Fold of the program answer.
-/
import Derived.Test.YtjlnokjaabcldaeWpA
import Derived.Test.YtjlnokjaabcldaePBld
import Derived.Test.YtjlnokjaabcldaePCheck
namespace Go.Proofs.Ytjlnokjaabcldae
open Go.RowKit

theorem Try.infoCell : (Try.prog.info? 58).map (fun i => (i.zero, i.size, i.bytes)) = some (some (.agg #[.int .i64 0, .int .i64 0, .int .i64 0, .bool false, .int .i64 0]), 5, 40) := by kernel_rfl

/-- the values of a cell -/
def encK (c : Cl) : List Value := [.int .i64 c.1, .int .i64 c.2.1, .int .i64 c.2.2.1, .bool c.2.2.2.1, .int .i64 c.2.2.2.2]
def encC (l : List Cl) : List Value := l.flatMap encK
theorem encC_append (a b : List Cl) : encC (a ++ b) = encC a ++ encC b := by simp [encC]
theorem encC_length (l : List Cl) : (encC l).length = l.length * 5 := by
  induction l with
  | nil => rfl
  | cons c l ih => simp only [encC, List.flatMap_cons, List.length_append, List.length_cons] at ih ⊢; rw [ih]; simp [encK]; omega
def cl0 : Cl := (0, 0, 0, false, 0)
theorem encC_get (l : List Cl) (j : Nat) (h : j < l.length) : (encC l)[j * 5]? = some (.int .i64 (l.getD j cl0).1) ∧ (encC l)[j * 5 + 1]? = some (.int .i64 (l.getD j cl0).2.1) ∧ (encC l)[j * 5 + 2]? = some (.int .i64 (l.getD j cl0).2.2.1) ∧ (encC l)[j * 5 + 3]? = some (.bool (l.getD j cl0).2.2.2.1) ∧ (encC l)[j * 5 + 4]? = some (.int .i64 (l.getD j cl0).2.2.2.2) := by
  induction l generalizing j with
  | nil => simp at h
  | cons c l ih =>
    have e : encC (c :: l) = .int .i64 c.1 :: .int .i64 c.2.1 :: .int .i64 c.2.2.1 :: .bool c.2.2.2.1 :: .int .i64 c.2.2.2.2 :: encC l := by simp [encC, encK]
    rw [e]
    cases j with
    | zero => exact ⟨rfl, rfl, rfl, rfl, rfl⟩
    | succ j =>
      have := ih j (by simpa using h)
      rw [show (j + 1) * 5 = j * 5 + 1 + 1 + 1 + 1 + 1 by omega]
      simpa using this

/-- the cells of l lie at ao, five cells each -/
def CeAt (w : World) (ao : Option Addr) (l : List Cl) : Prop :=
  l = [] ∨ ∃ b off, ao = some ⟨b, off, none⟩ ∧ b < w.heap.size ∧ ∀ j, j < l.length → w.cell? ⟨b, off + j * 5, none⟩ = some (.int .i64 (l.getD j cl0).1) ∧ w.cell? ⟨b, off + j * 5 + 1, none⟩ = some (.int .i64 (l.getD j cl0).2.1) ∧ w.cell? ⟨b, off + j * 5 + 2, none⟩ = some (.int .i64 (l.getD j cl0).2.2.1) ∧ w.cell? ⟨b, off + j * 5 + 3, none⟩ = some (.bool (l.getD j cl0).2.2.2.1) ∧ w.cell? ⟨b, off + j * 5 + 4, none⟩ = some (.int .i64 (l.getD j cl0).2.2.2.2)
theorem CeAt.below {w w' : World} {ao : Option Addr} {l : List Cl} (h : CeAt w ao l) (hb : Below w.heap.size w w') : CeAt w' ao l := by
  rcases h with h | ⟨b, off, rfl, hlt, hc⟩
  · exact .inl h
  · refine .inr ⟨b, off, rfl, Nat.lt_of_lt_of_le hlt hb.size, fun j hj => ?_⟩
    rw [hb.cell (p := ⟨b, off + j * 5, none⟩) hlt, hb.cell (p := ⟨b, off + j * 5 + 1, none⟩) hlt, hb.cell (p := ⟨b, off + j * 5 + 2, none⟩) hlt, hb.cell (p := ⟨b, off + j * 5 + 3, none⟩) hlt, hb.cell (p := ⟨b, off + j * 5 + 4, none⟩) hlt]
    exact hc j hj
theorem ceAt_of_owns {w : World} {base e : Nat} {v : Value} {n : Nat} {l : List Cl} (h : w.ownsRow base e 5 v n (encC l)) : ∃ ao cap, v = .slice ao l.length cap ∧ CeAt w ao l := by
  obtain ⟨h1, h2⟩ := h
  simp only [encC_length] at h1
  have hn : n = l.length := by omega
  subst hn
  rcases h2 with ⟨rfl, h0⟩ | ⟨g, cap, cur, rfl, hb, hh, h3, h4, h5, h6⟩
  · exact ⟨none, 0, by rw [h0], .inl (List.eq_nil_of_length_eq_zero h0)⟩
  · have hown : w.ownsRow base e 5 (.slice (some ⟨g, 0, none⟩) l.length cap) l.length (encC l) := ⟨by simp [encC_length], .inr ⟨g, cap, cur, rfl, hb, hh, h3, h4, h5, h6⟩⟩
    refine ⟨_, cap, rfl, .inr ⟨g, 0, rfl, (Array.getElem?_eq_some_iff.1 hh).1, fun j hj => ?_⟩⟩
    obtain ⟨f0, f1, f2, f3, f4⟩ := encC_get l j hj
    rw [Nat.zero_add, hown.cellAt (j * 5) (by omega), hown.cellAt (j * 5 + 1) (by omega), hown.cellAt (j * 5 + 2) (by omega), hown.cellAt (j * 5 + 3) (by omega), hown.cellAt (j * 5 + 4) (by omega)]
    exact ⟨f0, f1, f2, f3, f4⟩
theorem CeAt.get {w : World} {b off : Nat} {l : List Cl} {k : Nat} (hk : k < l.length) (hc : ∀ j, j < l.length → w.cell? ⟨b, off + j * 5, none⟩ = some (.int .i64 (l.getD j cl0).1) ∧ w.cell? ⟨b, off + j * 5 + 1, none⟩ = some (.int .i64 (l.getD j cl0).2.1) ∧ w.cell? ⟨b, off + j * 5 + 2, none⟩ = some (.int .i64 (l.getD j cl0).2.2.1) ∧ w.cell? ⟨b, off + j * 5 + 3, none⟩ = some (.bool (l.getD j cl0).2.2.2.1) ∧ w.cell? ⟨b, off + j * 5 + 4, none⟩ = some (.int .i64 (l.getD j cl0).2.2.2.2)) :
    w.cell? ⟨b, off + k * 5, none⟩ = some (.int .i64 l[k].1) ∧ w.cell? ⟨b, off + k * 5 + 1, none⟩ = some (.int .i64 l[k].2.1) ∧ w.cell? ⟨b, off + k * 5 + 2, none⟩ = some (.int .i64 l[k].2.2.1) ∧ w.cell? ⟨b, off + k * 5 + 3, none⟩ = some (.bool l[k].2.2.2.1) ∧ w.cell? ⟨b, off + k * 5 + 4, none⟩ = some (.int .i64 l[k].2.2.2.2) := by
  have hg : l.getD k cl0 = l[k] := by simp [List.getD_eq_getElem?_getD, List.getElem?_eq_getElem hk]
  rw [← hg]; exact hc k hk
/-- five cells in a new block -/
theorem cells_five_new (w : World) (B : Nat) (t : TypeId) (x y z u v : Value) (hB : B = w.heap.size) : ∀ j q, [x, y, z, u, v][j]? = some q → (w.alloc (.cells #[x, y, z, u, v] t)).cell? ((⟨B, 0, none⟩ : Addr).add j) = some q := by
  subst hB
  intro j q hj
  match j, hj with
  | 0, hj => simp at hj; subst hj; simp [Addr.add]
  | 1, hj => simp at hj; subst hj; simp [Addr.add]
  | 2, hj => simp at hj; subst hj; simp [Addr.add]
  | 3, hj => simp at hj; subst hj; simp [Addr.add]
  | 4, hj => simp at hj; subst hj; simp [Addr.add]

/-- what a call that tells cells and an error hands back: cells in memory of its own -/
def ToldC (w w' : World) (e : Ending) (n : Int) (r : List Cl) : Prop :=
  ∃ v, e = .returned (.tuple #[v, .int .i64 n]) ∧ w'.ownsRow w.heap.size 58 5 v r.length (encC r) ∧ Below w.heap.size w w'
theorem nilC (w W : World) : W.ownsRow w.heap.size 58 5 (.slice none 0 0) ([] : List Cl).length (encC []) := World.ownsRow_nil _ _ _ _

set_option maxRecDepth 100000 in
set_option maxHeartbeats 4000000 in
theorem against_any (mo lo : Option Addr) (mc lc : Nat) (m l : List (Int × Int × Int)) (how : Int) (w : World) (hm : PcAt w mo m) (hl : PcAt w lo l) (h3 : m.length ≤ 200) (h4 : l.length ≤ 200) (hg : ∀ p ∈ l, GoodM p) (hh : how = 1 ∨ how = 2 ∨ how = 3) :
    Calls Try.prog 47 #[.slice mo m.length mc, .slice lo l.length lc, .int .i64 how] w fun e w' => ∃ S v, e = .returned v ∧ Ordered (turnsOf m ++ turnsOf l) S ∧ w'.ownsRow w.heap.size 58 5 v (cellsTo m l how S (S.length - 1)).length (encC (cellsTo m l how S (S.length - 1))) ∧ S.length ≤ 800 ∧ Below w.heap.size w w' := by
  obtain ⟨i0, hi, hz0, hz1, hz2⟩ := info_parts Try.infoCell
  have hA8 : (turnsOf m ++ turnsOf l).length ≤ 800 := by rw [List.length_append, turnsOf_length, turnsOf_length]; omega
  have hch := wchanges_any mo lo mc lc m l w hm hl h3 h4
  obtain ⟨A, hA⟩ : ∃ A, A = turnsOf m ++ turnsOf l := ⟨_, rfl⟩
  rw [← hA] at hch hA8 ⊢
  clear hA
  have HTg : Hid (∀ t W, Below w.heap.size w W → Calls Try.prog 50 #[.slice lo l.length lc, .int .i64 t, .int .i64 how] W fun e w' => e = .returned (.tuple #[.int .i64 ((mix how l t).getD 0), .bool (mix how l t).isSome]) ∧ Below W.heap.size W w') := fun t W h => wtogether_any lo lc l t how W (hl.below h) h4 hg hh
  have HAt : Hid (∀ t W, Below w.heap.size w W → Calls Try.prog 26 #[.slice mo m.length mc, .int .i64 t] W fun e w' => e = .returned (.tuple #[.int .i64 ((tel m t).getD 0), .bool (tel m t).isSome]) ∧ Below W.heap.size W w') := fun t W h => PAt_any mo mc m t W (hm.below h) (by omega)
  clear hm hl
  go_enter Try.func47, Try.ntmps47
  go_wp2_with fail
  refine hch.mono ?_
  rintro e w1 ⟨v1, rfl, hown1, hb1⟩
  obtain ⟨co, cc, rfl, hz1'⟩ := zsAt_of_owns hown1
  have hsp := spans_any co cc A w1 hz1' hA8
  clear hch hown1 hz1'
  go_wp2_with fail
  refine hsp.mono ?_
  rintro e w2 ⟨S, v0, rfl, hO, hown0, hb0⟩
  have HO := hideW hO
  have hSl : S.length ≤ 800 := Nat.le_trans hO.len hA8
  have hb2 : Below w.heap.size w w2 := ptw hb1 hb0
  obtain ⟨N, hN⟩ : ∃ N, N = S.length - 1 := ⟨_, rfl⟩
  rw [← hN] at hown0
  have HN := hideW hN
  have hN8 : N ≤ 800 := by omega
  have hown2 : w2.ownsRow w1.heap.size 91 2 v0 (spn S N).length (encs (spn S N)) := by rw [spn_length]; exact hown0
  obtain ⟨so, sc, hv0, hivs⟩ := ivAt_of_owns hown2
  rw [spn_length] at hv0
  subst hv0
  have HIV := hideW hivs
  clear hO hsp hb1 hb0 hown0 hown2 hivs hN hA8
  go_wp2_with fail
  go_loopw [7, 19] (fun v vi wr => ∃ (j : Nat), vi = .int .i64 j ∧ j ≤ N ∧ wr.ownsRow w2.heap.size 58 5 v (cellsTo m l how S j).length (encC (cellsTo m l how S j)) ∧ Below w2.heap.size w2 wr) (fun _ vi _ => N - (intOf vi).toNat)
  case atStart => exact ⟨0, rfl, Nat.zero_le _, World.ownsRow_nil _ _ _ _, Below.refl _ _⟩
  case round =>
    obtain ⟨j, rfl, hjN, hown, hb⟩ := hrel
    have hol := cellsTo_len m l how S j
    have hbb : Below w.heap.size w wr := hb2.trans (hb.mono hb2.size)
    by_cases hlt : j < N
    · have hjS : j + 1 < S.length := by have := HN.out; omega
      rcases HIV.out.below hb with h0 | ⟨b, off, rfl, hbw, hc⟩
      · have := spn_length S N; rw [h0] at this; simp at this; omega
      have hcj := hc j (by rw [spn_length]; exact hlt)
      rw [spn_get S N j hlt hjS] at hcj
      obtain ⟨c0, c1⟩ := hcj
      simp only at c0 c1
      have hsz := hb.size
      have HB0 := hideW (fun o => pal wr o)
      have hcl := HTg.out S[j] (wr.alloc (.cells #[.int .i64 S[j], .int .i64 S[j + 1]] 91)) (ptw hbb (pal _ _))
      have HOW : Hid (∀ W, Below wr.heap.size wr W → W.ownsRow w2.heap.size 58 5 u7 (cellsTo m l how S j).length (encC (cellsTo m l how S j)) ∧ Below w2.heap.size w2 W) := fun W h => ⟨ownsRow_below hown h, hb.trans (h.mono hb.size)⟩
      have HAW := hideW (fun W (h : Below wr.heap.size wr W) => HAt.out S[j] W (ptw hbb h))
      clear hc hown hb HIV
      cases hfj : mix how l S[j] with
      | none =>
        have HE := hideW (cellsTo_no (m := m) (show j < S.length by omega) hfj)
        rw [hfj] at hcl
        simp only [Option.isSome_none, Option.getD_none] at hcl
        clear hfj HAW
        go_wp2_with fail
        refine hcl.mono ?_
        rintro e w3 ⟨rfl, hb3⟩
        have F := HOW.out w3 (ptw (HB0.out _) hb3)
        go_wp2
        go_roundw
        case rel => exact ⟨j + 1, by go_num, by omega, by rw [HE.out]; exact F.1, F.2⟩
        case measure => simp [intOf]; omega
      | some y =>
        have HE := hideW (cellsTo_yes (m := m) hjS hfj)
        rw [hfj] at hcl
        simp only [Option.isSome_some, Option.getD_some] at hcl
        clear hfj
        go_wp2_with fail
        refine hcl.mono ?_
        rintro e w3 ⟨rfl, hb3⟩
        have hb3' := ptw (HB0.out _) hb3
        have hAt := HAW.out w3 hb3'
        have d0 : w3.cell? ⟨wr.heap.size, 0, none⟩ = some (.int .i64 S[j]) := by rw [hb3.cell (p := ⟨wr.heap.size, 0, none⟩) (by simp)]; simp
        have hlt3 : wr.heap.size < w3.heap.size := World.block_lt_of_cell? w3 _ d0
        have d1 : w3.cell? ⟨wr.heap.size, 1, none⟩ = some (.int .i64 S[j + 1]) := by rw [hb3.cell (p := ⟨wr.heap.size, 1, none⟩) (by simp)]; simp
        have HD := hideW (fun W (h : Below w3.heap.size w3 W) => (⟨(h.cell (p := ⟨wr.heap.size, 0, none⟩) hlt3).trans d0, (h.cell (p := ⟨wr.heap.size, 1, none⟩) hlt3).trans d1⟩ : W.cell? ⟨wr.heap.size, 0, none⟩ = some (.int .i64 S[j]) ∧ W.cell? ⟨wr.heap.size, 1, none⟩ = some (.int .i64 S[j + 1])))
        clear hcl hb3 HAW d1
        go_wp2_with fail
        refine hAt.mono ?_
        rintro e w4 ⟨rfl, hb4⟩
        obtain ⟨e0, e1⟩ := HD.out w4 hb4
        have hb4' := ptw hb3' hb4
        obtain ⟨o1, o2⟩ := HOW.out w4 hb4'
        have HBg : Hid (∀ (o : Obj) (w5 : World), (w4.alloc o).grownBy w5 u7.ownBlock → Below w2.heap.size w2 w5) := fun o w5 hgr => (o2.alloc o2.size o).grown hgr (by have := o2.size; simp; omega) (fun k hk => (o1.lt k hk).1)
        have hs4 := o2.size
        generalize (tel m S[j]).getD 0 = tv at *
        generalize (tel m S[j]).isSome = tb at *
        clear hAt d0 HD HOW hb4 o2
        go_wp2_with (at_builtin; refine wpList_append_own _ rfl _ _ 52 rfl w2.heap.size 58 i0 _ 5 40 Try.underlying52 hi hz0 hz1 hz2 rfl (by decide) _ _ _ rfl (World.ownsRow.alloc (w := w4) o1 _) ⟨w4.heap.size, 0, none⟩ 1 1 [.int .i64 S[j], .int .i64 S[j + 1], .int .i64 tv, .bool tb, .int .i64 y] rfl rfl (cells_five_new _ _ _ _ _ _ _ _ rfl) (by intro u hu; simp at hu; rcases hu with rfl | rfl | rfl | rfl | rfl <;> rfl) (by unfold maxLen; omega) (by omega) (by simp; omega) ?_; intro v' w5 hown5 hgrow _)
        have hb' := HBg.out _ _ hgrow
        have R : w5.ownsRow w2.heap.size 58 5 v' (cellsTo m l how S (j + 1)).length (encC (cellsTo m l how S (j + 1))) := by
          rw [HE.out, encC_append, List.length_append]; exact hown5
        clear hgrow o1 hown5
        go_wp2
        go_roundw
        case rel => exact ⟨j + 1, by go_num, by omega, R, hb'⟩
        case measure => simp [intOf]; omega
    · have hjn : j = N := by omega
      have HR : Hid (wr.ownsRow w.heap.size 58 5 u7 (cellsTo m l how S (S.length - 1)).length (encC (cellsTo m l how S (S.length - 1)))) := by
        show World.ownsRow _ _ _ _ _ _ _
        rw [← HN.out, ← hjn]; exact owns_base2 hown hb2.size
      subst hjn
      clear hown HIV hb
      go_wp2
      go_ret
      exact ⟨S, _, rfl, HO.out, HR.out, hSl, hbb⟩

/-- what is made of a list of cells -/
def CFitIs (out : List Cl) (n : Int) (r : List Cl) : Prop :=
  (¬ (∀ c ∈ out, nearB c.2.2.2.2) ∧ n = 5 ∧ r = []) ∨ ((∀ c ∈ out, nearB c.2.2.2.2) ∧ 200 < out.length ∧ n = 2 ∧ r = []) ∨ ((∀ c ∈ out, nearB c.2.2.2.2) ∧ out.length ≤ 200 ∧ n = 0 ∧ r = out)

theorem Near_one (B : Nat) (x : Int) (w : World) (hB : B < w.heap.size) (c0 : w.cell? ⟨B, 0, none⟩ = some (.int .i64 x)) :
    Calls Try.prog 63 #[.slice (some ⟨B, 0, none⟩) 1 1] w fun e w' => e = .returned (.bool (nrB x)) ∧ w' = w := by
  have h := Near_any (some ⟨B, 0, none⟩) 1 [x] w (.inr ⟨B, 0, rfl, hB, fun j hj => by
    match j, hj with
    | 0, _ => exact c0⟩) (by simp)
  simpa using h

set_option maxRecDepth 100000 in
set_option maxHeartbeats 2000000 in
theorem cfit_any (base : Nat) (v : Value) (out : List Cl) (w : World) (hown : w.ownsRow base 58 5 v out.length (encC out)) (hlen : out.length ≤ 1000) :
    Calls Try.prog 46 #[v] w fun e w' => ∃ n r v', CFitIs out n r ∧ e = .returned (.tuple #[v', .int .i64 n]) ∧ w'.ownsRow base 58 5 v' r.length (encC r) ∧ Below w.heap.size w w' := by
  obtain ⟨vo, vc, hve, hl⟩ := ceAt_of_owns hown
  subst hve
  have HOW := hideW hown
  have HNil : Hid (∀ W : World, W.ownsRow base 58 5 (.slice none 0 0) ([] : List Cl).length (encC [])) := fun W => World.ownsRow_nil _ _ _ _
  clear hown
  go_enter Try.func46, Try.ntmps46
  go_wp2
  go_loopw [8] (fun i wr => ∃ k : Nat, k ≤ out.length ∧ i = .int .i64 k ∧ (∀ c ∈ out.take k, nearB c.2.2.2.2) ∧ Below w.heap.size w wr) (fun i _ => out.length - (intOf i).toNat)
  case atStart => exact ⟨0, Nat.zero_le _, rfl, fun q hq => by simp at hq, Below.refl _ _⟩
  case round =>
    obtain ⟨k, hk, rfl, hn, hb⟩ := hrel
    have HN := hideW hn
    clear hn
    by_cases hlt : k < out.length
    · rcases hl.below hb with h0 | ⟨b, off, rfl, hbw, hc⟩
      · subst h0; simp at hlt
      obtain ⟨c0, c1, c2, c3, c4⟩ := CeAt.get hlt hc
      have HB := hideW (fun o o' => ptw (ptw hb (pal wr o)) (pal (wr.alloc o) o'))
      clear hc hl hb
      by_cases n1 : nearB out[k].2.2.2.2
      · have HS : Hid (∀ c ∈ out.take (k + 1), nearB c.2.2.2.2) := by
          intro q hq
          rw [take_succ_get out k hlt, List.mem_append, List.mem_singleton] at hq
          rcases hq with hq | rfl
          · exact HN.out q hq
          · exact n1
        have e1 := (nrB_iff _).2 n1
        clear n1
        go_wp2_with fail
        refine (Near_one (wr.heap.size + 1) out[k].2.2.2.2 _ (by simp) (by simp)).mono ?_
        rintro e w1 ⟨rfl, rfl⟩
        rw [e1]
        go_wp2
        go_roundw
        case rel => exact ⟨k + 1, by omega, by go_num, HS.out, HB.out _ _⟩
        case measure => simp [intOf]; omega
      · have HC : Hid (CFitIs out 5 []) := .inl ⟨fun h => n1 (h _ (List.getElem_mem hlt)), rfl, rfl⟩
        have e1 : nrB out[k].2.2.2.2 = false := by rw [← Bool.not_eq_true, nrB_iff]; exact n1
        clear n1
        go_wp2_with fail
        refine (Near_one (wr.heap.size + 1) out[k].2.2.2.2 _ (by simp) (by simp)).mono ?_
        rintro e w1 ⟨rfl, rfl⟩
        rw [e1]
        go_wp2
        go_ret2
        exact ⟨_, _, _, HC.out, rfl, HNil.out _, HB.out _ _⟩
    · have hkl : k = out.length := by omega
      have hall : ∀ c ∈ out, nearB c.2.2.2.2 := by have := HN.out; rwa [hkl, List.take_length] at this
      have HA := hideW hall
      clear hall
      subst hkl
      by_cases h200 : 200 < out.length
      · have HC : Hid (CFitIs out 2 []) := .inr (.inl ⟨HA.out, h200, rfl, rfl⟩)
        go_wp2
        go_ret2
        exact ⟨_, _, _, HC.out, rfl, HNil.out _, hb⟩
      · have HC : Hid (CFitIs out 0 out) := .inr (.inr ⟨HA.out, by omega, rfl, rfl⟩)
        have HR := hideW (ownsRow_below HOW.out hb)
        go_wp2
        go_ret2
        exact ⟨_, _, _, HC.out, rfl, HR.out, hb⟩

/-- what Cells answers -/
def CellsAns (m l : List (Int × Int × Int)) (how n : Int) (r : List Cl) : Prop :=
  (¬ mchk m = 0 ∧ n = mchk m ∧ r = []) ∨ (mchk m = 0 ∧ ¬ cbChk l how = 0 ∧ n = cbChk l how ∧ r = []) ∨ (mchk m = 0 ∧ cbChk l how = 0 ∧ CellsIs m l how n r)
theorem cellsAns_unique {m l : List (Int × Int × Int)} {how n n' : Int} {r r' : List Cl} (h : CellsAns m l how n r) (h' : CellsAns m l how n' r') : n = n' ∧ r = r' := by
  rcases h with ⟨h0, h1, h2⟩ | ⟨h0, h0', h1, h2⟩ | ⟨h0, h0', h1⟩
  · rcases h' with ⟨g0, g1, g2⟩ | ⟨g0, g0', g1, g2⟩ | ⟨g0, g0', g1⟩
    · exact ⟨h1.trans g1.symm, h2.trans g2.symm⟩
    · exact absurd g0 h0
    · exact absurd g0 h0
  · rcases h' with ⟨g0, g1, g2⟩ | ⟨g0, g0', g1, g2⟩ | ⟨g0, g0', g1⟩
    · exact absurd h0 g0
    · exact ⟨h1.trans g1.symm, h2.trans g2.symm⟩
    · exact absurd g0' h0'
  · rcases h' with ⟨g0, g1, g2⟩ | ⟨g0, g0', g1, g2⟩ | ⟨g0, g0', g1⟩
    · exact absurd h0 g0
    · exact absurd h0' g0'
    · exact cellsIs_unique h1 g1

theorem mchk_bad' {m : List (Int × Int × Int)} (h : ¬ mchk m = 0) : ∃ n, mchk m = n ∧ (n = 2 ∨ n = 5) := by
  rcases mchk_cases m with e | e | ⟨e, _⟩
  · exact ⟨2, e, .inl rfl⟩
  · exact ⟨5, e, .inr rfl⟩
  · exact absurd e h
theorem mchk_good' {m : List (Int × Int × Int)} (h : mchk m = 0) : m.length ≤ 200 ∧ MCan m ∧ ∀ p ∈ m, NearP p := by
  rcases mchk_cases m with e | e | ⟨_, h1, h2⟩
  · omega
  · omega
  · exact ⟨h1, mcan_of_good h2, near_of_good h2⟩

set_option maxRecDepth 100000 in
set_option maxHeartbeats 2000000 in
theorem Cells_any (mo lo : Option Addr) (mc lc : Nat) (m l : List (Int × Int × Int)) (how : Int) (w : World) (hm : PcAt w mo m) (hl : PcAt w lo l) :
    Calls Try.prog 21 #[.slice mo m.length mc, .slice lo l.length lc, .int .i64 how] w fun e w' => ∃ n r, CellsAns m l how n r ∧ ToldC w w' e n r := by
  have h1 := PCheck_any mo mc m w hm
  by_cases e1 : ¬ mchk m = 0
  · obtain ⟨n, en, hn⟩ := mchk_bad' e1
    have HC : Hid (CellsAns m l how n []) := .inl ⟨e1, en.symm, rfl⟩
    rw [en] at h1
    clear e1 en
    rcases hn with rfl | rfl
    all_goals
      go_enter Try.func21, Try.ntmps21
      go_wp2_with fail
      refine h1.mono ?_
      rintro e w1 ⟨rfl, hb1⟩
      go_wp2
      go_ret2
      exact ⟨_, _, HC.out, _, rfl, nilC _ _, hb1⟩
  rw [Decidable.not_not] at e1
  rw [e1] at h1
  have HE1 := hideW e1
  have h2 := fun W (h : Below w.heap.size w W) => checkBoth_any lo lc l how W (hl.below h)
  clear e1
  by_cases e2 : ¬ cbChk l how = 0
  · obtain ⟨n, en, hn⟩ := cbChk_bad e2
    have HC : Hid (CellsAns m l how n []) := .inr (.inl ⟨HE1.out, e2, en.symm, rfl⟩)
    simp only [en] at h2
    clear e2 en
    rcases hn with rfl | rfl | rfl
    all_goals
      go_enter Try.func21, Try.ntmps21
      go_wp2_with fail
      refine h1.mono ?_
      rintro e w1 ⟨rfl, hb1⟩
      go_wp2_with fail
      refine (h2 w1 hb1).mono ?_
      rintro e w2 ⟨rfl, hb2⟩
      have hb := ptw hb1 hb2
      clear hb1 hb2
      go_wp2
      go_ret2
      exact ⟨_, _, HC.out, _, rfl, nilC _ _, hb⟩
  rw [Decidable.not_not] at e2
  simp only [e2] at h2
  have HE2 := hideW e2
  obtain ⟨l3, _, _⟩ := mchk_good' HE1.out
  obtain ⟨l4, hgd, hhw, _⟩ := cbChk_good e2
  have h5 := fun W (h : Below w.heap.size w W) => against_any mo lo mc lc m l how W (hm.below h) (hl.below h) l3 l4 hgd hhw
  clear e2 hm hl hhw
  have HGD := hideW hgd
  clear hgd
  go_enter Try.func21, Try.ntmps21
  go_wp2_with fail
  refine h1.mono ?_
  rintro e w1 ⟨rfl, hb1⟩
  go_wp2_with fail
  refine (h2 w1 hb1).mono ?_
  rintro e w2 ⟨rfl, hb2⟩
  have hb := ptw hb1 hb2
  clear hb1 hb2 h1
  go_wp2_with fail
  refine (h5 w2 hb).mono ?_
  rintro e w3 ⟨S, v3, rfl, hO, hown, hSl, hb3⟩
  have hfit := cfit_any w2.heap.size v3 _ w3 hown (by have := cellsTo_len m l how S (S.length - 1); omega)
  have HO := hideW hO
  have hbb := ptw hb hb3
  have hs := hb.size
  clear hO hown hb3 h2 h5
  go_wp2_with fail
  refine hfit.mono ?_
  rintro e w4 ⟨n, r, v4, hF, rfl, hown4, hb4⟩
  have HC : Hid (CellsAns m l how n r) := .inr (.inr ⟨HE1.out, HE2.out, S, HO.out, hF⟩)
  have R := owns_base2 hown4 hs
  have hbF := ptw hbb hb4
  clear hF hfit hown4 hb4
  go_wp2
  go_ret2
  exact ⟨n, r, HC.out, v4, rfl, R, hbF⟩

/-- what Fold answers -/
def FoldAns (l : List (Int × Int × Int)) (how n : Int) (r : List (Int × Int × Int)) : Prop :=
  (¬ cbChk l how = 0 ∧ n = cbChk l how ∧ r = []) ∨ (cbChk l how = 0 ∧ MapIs (turnsOf l) (mix how l) n r)
theorem foldAns_unique {l : List (Int × Int × Int)} {how n n' : Int} {r r' : List (Int × Int × Int)} (h : FoldAns l how n r) (h' : FoldAns l how n' r') : n = n' ∧ r = r' := by
  rcases h with ⟨h0, h1, h2⟩ | ⟨h0, h1⟩
  · rcases h' with ⟨g0, g1, g2⟩ | ⟨g0, g1⟩
    · exact ⟨h1.trans g1.symm, h2.trans g2.symm⟩
    · exact absurd g0 h0
  · rcases h' with ⟨g0, g1, g2⟩ | ⟨g0, g1⟩
    · exact absurd h0 g0
    · exact mapIs_unique h1 g1

structure BxM (w W : World) (x y : Value) : Prop where
  c1 : W.cell? ⟨w.heap.size, 0, none⟩ = some x
  c2 : W.cell? ⟨w.heap.size + 1, 0, none⟩ = some y
  bel : Below w.heap.size w W
  lt : w.heap.size + 1 < W.heap.size
theorem bxm_start (w : World) (x y : Value) (t1 t2 : TypeId) : BxM w ((w.alloc (.cells #[x] t1)).alloc (.cells #[y] t2)) x y := by
  refine ⟨?_, ?_, ptw (pal _ _) (pal _ _), by simp⟩
  · rw [World.cell?_alloc_past _ _ _ (by simp), World.cell?_alloc_at _ _ _ _ rfl]; rfl
  · rw [World.cell?_alloc_at _ _ _ _ (by simp)]; rfl
theorem BxM.below {w W W' : World} {x y : Value} (h : BxM w W x y) (hb : Below W.heap.size W W') : BxM w W' x y := by
  have l := h.lt
  refine ⟨?_, ?_, ptw h.bel hb, Nat.lt_of_lt_of_le l hb.size⟩
  · rw [hb.cell (p := ⟨w.heap.size, 0, none⟩) (by show w.heap.size < _; omega)]; exact h.c1
  · rw [hb.cell (p := ⟨w.heap.size + 1, 0, none⟩) (by show w.heap.size + 1 < _; omega)]; exact h.c2

set_option maxRecDepth 100000 in
theorem fold1_any (Bl Bh : Nat) (how : Int) (hh : how = 1 ∨ how = 2 ∨ how = 3) (lo : Option Addr) (lc : Nat) (l : List (Int × Int × Int)) (t : Int) (w : World) (hL : PcAt w lo l) (l4 : l.length ≤ 200) (hg : ∀ p ∈ l, GoodM p)
    (c1 : w.cell? ⟨Bl, 0, none⟩ = some (.slice lo l.length lc)) (c2 : w.cell? ⟨Bh, 0, none⟩ = some (.int .i64 how)) :
    Calls Try.prog 49 #[.int .i64 t, .pointer (some ⟨Bl, 0, none⟩), .pointer (some ⟨Bh, 0, none⟩)] w fun e w' => (∃ x, e = .returned (.tuple #[.int .i64 x, .bool (mix how l t).isSome]) ∧ ∀ y, mix how l t = some y → x = y) ∧ Below w.heap.size w w' := by
  have hT := wtogether_any lo lc l t how w hL l4 hg hh
  clear hL hg
  go_enter Try.func49, Try.ntmps49
  go_wp2_with fail
  refine hT.mono ?_
  rintro e w1 ⟨rfl, hb1⟩
  clear hT
  go_wp2
  go_ret2
  exact ⟨⟨_, rfl, fun y h => by rw [h]; rfl⟩, hb1⟩

set_option maxRecDepth 100000 in
set_option maxHeartbeats 2000000 in
theorem Fold_any (lo : Option Addr) (lc : Nat) (l : List (Int × Int × Int)) (how : Int) (w : World) (hl : PcAt w lo l) :
    Calls Try.prog 23 #[.slice lo l.length lc, .int .i64 how] w fun e w' => ∃ n r, FoldAns l how n r ∧ Told3 w w' e n r := by
  have h2 := fun W (h : Below w.heap.size w W) => checkBoth_any lo lc l how W (hl.below h)
  have B0 := bxm_start w (.slice lo l.length lc) (.int .i64 how) 51 3
  by_cases e2 : ¬ cbChk l how = 0
  · obtain ⟨n, en, hn⟩ := cbChk_bad e2
    have HC : Hid (FoldAns l how n []) := .inl ⟨e2, en.symm, rfl⟩
    simp only [en] at h2
    clear e2 en
    rcases hn with rfl | rfl | rfl
    all_goals
      go_enter Try.func23, Try.ntmps23
      go_wp2_with fail
      refine (h2 _ B0.bel).mono ?_
      rintro e w1 ⟨rfl, hb1⟩
      have hb := ptw B0.bel hb1
      clear hb1 B0
      go_wp2
      go_ret2
      exact ⟨_, _, HC.out, _, rfl, World.ownsRow_nil _ _ _ _, hb⟩
  rw [Decidable.not_not] at e2
  simp only [e2] at h2
  have HE2 := hideW e2
  obtain ⟨l4, hgd, hhw, _⟩ := cbChk_good e2
  have HL := hideW hl
  have HGD := hideW hgd
  have HHW := hideW hhw
  clear e2 hl hhw hgd
  go_enter Try.func23, Try.ntmps23
  go_wp2_with fail
  refine (h2 _ B0.bel).mono ?_
  rintro e w1 ⟨rfl, hb1⟩
  have B1 := B0.below hb1
  have cc1 := B1.c1
  clear hb1 B0 h2
  have hch := wchanges_any none lo 0 lc [] l w1 (.inl rfl) (HL.out.below B1.bel) (by simp) l4
  have hA8 : (turnsOf l).length ≤ 800 := by rw [turnsOf_length]; omega
  obtain ⟨A, hA⟩ : ∃ A, A = turnsOf l := ⟨_, rfl⟩
  rw [show turnsOf ([] : List (Int × Int × Int)) ++ turnsOf l = turnsOf l from rfl, ← hA] at hch
  rw [← hA] at hA8
  have HA := hideW hA
  clear hA
  go_wp2_with fail
  refine hch.mono ?_
  rintro e w2 ⟨v2, rfl, hown2, hb2⟩
  obtain ⟨co, cc, rfl, hz2⟩ := zsAt_of_owns hown2
  have B2 := B1.below hb2
  have hmf : ∀ (fn : Fn) (first cap : Array Value) (w : World), (Instr.makeFunc fn first cap).run Try.prog w = .ok (.func fn first cap) w := fun _ _ _ _ => rfl
  have hp : ∀ t wq, Below w2.heap.size w2 wq → Calls Try.prog 49 (#[.int .i64 t] ++ #[.pointer (some ⟨w.heap.size, 0, none⟩), .pointer (some ⟨w.heap.size + 1, 0, none⟩)]) wq fun e w' => (∃ x, e = .returned (.tuple #[.int .i64 x, .bool (mix how l t).isSome]) ∧ ∀ y, mix how l t = some y → x = y) ∧ Below wq.heap.size wq w' := by
    intro t wq hq
    have Bq := B2.below hq
    exact fold1_any w.heap.size (w.heap.size + 1) how HHW.out lo lc l t wq (HL.out.below Bq.bel) l4 HGD.out Bq.c1 Bq.c2
  have hbl := build_any 49 _ (mix how l) (enters_of Try.func49 (by kernel_rfl) rfl) w2 w2 (Below.refl _ _) hp co cc A hz2 hA8
  have HBE := hideW B2.bel
  clear hp hown2 hz2 hch B1 cc1 hb2 B2
  go_wp2_with fail
  refine hbl.mono ?_
  rintro e w3 ⟨n, r, v3, hM, rfl, ho, hb3⟩
  have HC : Hid (FoldAns l how n r) := .inr ⟨HE2.out, by rw [← HA.out]; exact hM⟩
  have R := owns_base2 ho HBE.out.size
  have hbF := ptw HBE.out hb3
  clear hM ho hb3 hbl
  go_wp2
  go_ret2
  exact ⟨n, r, HC.out, v3, rfl, R, hbF⟩

end Go.Proofs.Ytjlnokjaabcldae
