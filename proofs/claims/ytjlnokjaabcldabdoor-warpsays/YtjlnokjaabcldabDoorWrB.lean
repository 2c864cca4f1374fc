/-
  What Cells of the reference answers.
-/
import Derived.Test.YtjlnokjaabcldabDoorWrA
import Derived.Test.YtjlnokjaabcldabDoorRTrn
import Derived.Test.YtjlnokjaabcldabDoorRBnd
import Derived.Laws.AppendOwnNone
namespace Go.Proofs.YtjlnokjaabcldabDoor
open Go.RowKit

/-- what the last cell is, where it ends at the i-th time, and the text of its messages -/
def LastIs (m l : List (Int × Int × Int)) (S : List Int) (i : Nat) (out : List Cl) (s : List UInt8) : Prop :=
  ∀ q, out.getLast? = some q → q.2.1 = S.getD i 0 → ∃ j, i = j + 1 ∧ q.2.2.1 = (tel m (S.getD j 0)).getD 0 ∧ q.2.2.2.1 = (tel m (S.getD j 0)).isSome ∧ s = wtx l (S.getD j 0) l.length
theorem lastIs_skip {m l : List (Int × Int × Int)} {how : Int} {S : List Int} {i : Nat} {s : List UInt8} (hS : S.Pairwise (· < ·)) (hi : i + 1 < S.length) : LastIs m l S (i + 1) (cellsTo m l how S i) s := by
  intro q hq he
  have hm := List.mem_of_getLast? hq
  obtain ⟨j, hj, h1, v, _, rfl⟩ := cellsTo_mem (.inl (by omega)) hm
  rw [List.pairwise_iff_getElem] at hS
  rw [getD_get' hi] at he
  simp only at he
  have := hS (j + 1) (i + 1) hj hi (by omega)
  omega
theorem lastIs_put {m l : List (Int × Int × Int)} {S : List Int} {i : Nat} {out : List Cl} {a b v : Int} : LastIs m l S (i + 1) (out ++ [(a, b, (tel m (S.getD i 0)).getD 0, (tel m (S.getD i 0)).isSome, v)]) (wtx l (S.getD i 0) l.length) := by
  intro q hq _
  simp at hq
  subst hq
  exact ⟨i, rfl, rfl, rfl, rfl⟩
/-- the four ways in which the last cell is not the same as the next one -/
theorem lastIs_no {m l : List (Int × Int × Int)} {S : List Int} {i : Nat} {out : List Cl} {s : List UInt8} {q : Cl} (hO : Ordered (turnsOf m ++ turnsOf l) S) (hm : MCan m) (hl : ∀ p ∈ l, p.1 < p.2.1) (hl9 : l.length ≤ 9999) (hi : i < S.length) (h : LastIs m l S i out s) (hq : out.getLast? = some q) :
    q.2.1 ≠ S[i] ∨ (q.2.1 = S[i] ∧ s ≠ wtx l S[i] l.length) ∨ (q.2.1 = S[i] ∧ s = wtx l S[i] l.length ∧ q.2.2.1 ≠ (tel m S[i]).getD 0) ∨ (q.2.1 = S[i] ∧ s = wtx l S[i] l.length ∧ q.2.2.1 = (tel m S[i]).getD 0 ∧ q.2.2.2.1 ≠ (tel m S[i]).isSome) := by
  by_cases h1 : q.2.1 = S[i]
  · obtain ⟨j, rfl, e1, e2, e3⟩ := h q hq (by rw [getD_get' hi]; exact h1)
    rw [getD_get' (by omega : j < S.length)] at e1 e2 e3
    by_cases h2 : s = wtx l S[j + 1] l.length
    · by_cases h3 : q.2.2.1 = (tel m S[j + 1]).getD 0
      · by_cases h4 : q.2.2.2.1 = (tel m S[j + 1]).isSome
        · rcases cell_turn hO hm hl hi with hc | hc
          · refine absurd ?_ hc
            rw [e1] at h3
            rw [e2] at h4
            revert h3 h4
            cases tel m S[j] <;> cases tel m S[j + 1] <;> simp
          · exact absurd ((wtx_who hl9).1 (e3.symm.trans h2)) hc
        · exact .inr (.inr (.inr ⟨h1, h2, h3, h4⟩))
      · exact .inr (.inr (.inl ⟨h1, h2, h3⟩))
    · exact .inr (.inl ⟨h1, h2⟩)
  · exact .inl h1

/-- the error so far -/
def ErrIs (out : List Cl) (n : Int) : Prop := (n = 0 ∧ ∀ c ∈ out, nearB c.2.2.2.2) ∨ (n = 5 ∧ ¬ ∀ c ∈ out, nearB c.2.2.2.2)
theorem errIs_near {out : List Cl} {n : Int} {c : Cl} (h : ErrIs out n) (hc : nearB c.2.2.2.2) : ErrIs (out ++ [c]) n := by
  rcases h with ⟨e, h⟩ | ⟨e, h⟩
  · refine .inl ⟨e, fun x hx => ?_⟩
    rw [List.mem_append, List.mem_singleton] at hx
    rcases hx with hx | rfl
    · exact h x hx
    · exact hc
  · exact .inr ⟨e, fun hh => h fun x hx => hh x (by simp [hx])⟩
theorem errIs_far {out : List Cl} {c : Cl} (hc : ¬ nearB c.2.2.2.2) : ErrIs (out ++ [c]) 5 := .inr ⟨rfl, fun hh => hc (hh c (by simp))⟩

/-- append of a row of the call's own, that may be nil, to another one, that may be nil -/
theorem wpList_append_rows {P : Program} {w : World} {ops : Array Oper} {rest : List Oper} {o : Oper} {a : Act} {Q : Exit → Act → World → Prop} (hgd : o.guard = none) (s x : Operand) (t : TypeId)
    (ho : o.op = .call { callee := .builtin .append, args := #[s, x], argTypes := #[t, t] })
    (base : Nat) (e : TypeId) (i : TypeInfo) (z : Value) (size bytes : Nat) (ht : P.underlying t = some (.slice e)) (hi : P.info? e = some i) (hz : i.zero = some z)
    (hsize : i.size = size) (hby : i.bytes = bytes) (hzs : z.cells.size = size) (hsz : 0 < size)
    (v : Value) (n : Nat) (xs : List Value) (hs : a.eval s = v) (hown : w.ownsRow base e size v n xs)
    (base' e' : Nat) (u : Value) (m : Nat) (news : List Value) (hx : a.eval x = u) (hown' : w.ownsRow base' e' size u m news) (h1 : ∀ u ∈ news, u.oneCell' = true)
    (h63 : n + m ≤ maxLen) (hbytes : (n + m) * bytes ≤ 140737488355328) (hbase : base ≤ w.heap.size)
    (h : ∀ v' w', w'.ownsRow base e size v' (n + m) (xs ++ news) → w.grownBy w' v.ownBlock → wpList P ops Q rest (a.put o.dst v') w') : wpList P ops Q (o :: rest) a w := by
  rcases hown'.2 with ⟨rfl, h0⟩ | ⟨g, cap, cur, rfl, _⟩
  · subst h0
    have hn : news = [] := List.eq_nil_of_length_eq_zero (by have := hown'.1; simpa using this)
    subst hn
    refine wpList_append_own_none hgd s x t ho base e i size ht hi v n xs hs hown hx (h v w (by simpa using hown) ⟨rfl, rfl, rfl, Nat.le_refl _, fun _ _ _ => rfl⟩)
  · exact wpList_append_own w hgd s x t ho base e i z size bytes ht hi hz hsize hby hzs hsz v n xs hs hown ⟨g, 0, none⟩ m cap news hx hown'.1 (hown'.cells (g := g) rfl) h1 h63 hbytes hbase fun v' w' a b _ => h v' w' a b

/-- a cell in a block of its own -/
def K5 (W : World) (B : Nat) (x y z u v : Value) : Prop := W.heap[B]? = some (.cells #[x, y, z, u, v] 33 (0, 0))
theorem K5.cells {W : World} {B : Nat} {x y z u v : Value} (h : K5 W B x y z u v) : W.cell? ⟨B, 0, none⟩ = some x ∧ W.cell? ⟨B, 1, none⟩ = some y ∧ W.cell? ⟨B, 2, none⟩ = some z ∧ W.cell? ⟨B, 3, none⟩ = some u ∧ W.cell? ⟨B, 4, none⟩ = some v :=
  ⟨cell_of_row W B 0 _ _ (0, 0) h, cell_of_row W B 1 _ _ (0, 0) h, cell_of_row W B 2 _ _ (0, 0) h, cell_of_row W B 3 _ _ (0, 0) h, cell_of_row W B 4 _ _ (0, 0) h⟩
theorem K5.frz {W : World} {B : Nat} {x y z u v : Value} (h : K5 W B x y z u v) (j : Nat) : W.frozen? ⟨B, j, none⟩ = false := frozen_of_row W B j _ _ h
theorem K5.set2 {W : World} {B : Nat} {x y z u v : Value} (h : K5 W B x y z u v) (z' : Value) : K5 (W.setCell ⟨B, 2, none⟩ z') B x y z' u v := heap_setCell_same W B 2 _ _ z' h
theorem K5.set3 {W : World} {B : Nat} {x y z u v : Value} (h : K5 W B x y z u v) (u' : Value) : K5 (W.setCell ⟨B, 3, none⟩ u') B x y z u' v := heap_setCell_same W B 3 _ _ u' h

set_option maxRecDepth 100000 in
set_option maxHeartbeats 8000000 in
theorem rcells_core (mo lo : Option Addr) (mc lc : Nat) (m l : List (Int × Int × Int)) (how : Int) (w : World) (hm : PcAt w mo m) (hl : PcAt w lo l) (hm0 : mchk m = 0) (hc0 : cbChk l how = 0) (hT : Tab w)
    (h1 : Calls Tryd.prog 16 #[.slice mo m.length mc] w fun e w' => e = .returned (.int .i64 0) ∧ Below w.heap.size w w')
    (h2 : ∀ W, Below w.heap.size w W → Calls Tryd.prog 9 #[.slice lo l.length lc] W fun e w' => e = .returned (.int .i64 0) ∧ Below W.heap.size W w')
    (h3 : ∀ W, Calls Tryd.prog 17 #[.int .i64 how, .int .i64 1, .int .i64 3] W fun e w' => e = .returned (.bool true) ∧ w' = W) :
    Calls Tryd.prog 5 #[.slice mo m.length mc, .slice lo l.length lc, .int .i64 how] w fun e w' => ∃ n r, CellsIs m l how n r ∧ ToldC w w' e n r := by
  obtain ⟨i0, hi, hz0, hz1, hz2⟩ := info_parts Tryd.infoCell
  obtain ⟨l3, hmc, _⟩ := mchk_good' hm0
  obtain ⟨l4, hgd, hhw, _⟩ := cbChk_good hc0
  have HMC := hideW hmc
  have HGD := hideW hgd
  have HHW := hideW hhw
  have HTb := hideW hT.low
  have HM := hideW hm
  have HL := hideW hl
  clear hmc hgd hhw hT hm hl hm0 hc0
  obtain ⟨i1, hi', hy0, hy1, hy2⟩ := info_parts Tryd.infoInt
  go_enter Tryd.func5, Tryd.ntmps5
  go_wp2_with fail
  refine h1.mono ?_
  rintro e w1 ⟨rfl, hb1⟩
  go_wp2_with fail
  refine (h2 w1 hb1).mono ?_
  rintro e w2 ⟨rfl, hb2⟩
  have hb := ptw hb1 hb2
  clear hb1 hb2 h1 h2
  go_wp2_with fail
  refine (h3 _).mono ?_
  rintro e w2' ⟨rfl, hw2⟩
  have hw2s := hw2.symm
  subst hw2s
  clear hw2 h3
  go_wp2_with fail
  refine (turns_any mo mc m w2 (HM.out.below hb) l3).mono ?_
  rintro e w3 ⟨va, rfl, hownA, _, hb3⟩
  go_wp2_with fail
  refine (mailTurns_any lo lc l w3 (HL.out.below (ptw hb hb3)) l4).mono ?_
  rintro e w4 ⟨vb, rfl, hownB, _, hb4⟩
  have hownA4 := ownsRow_below hownA hb4
  have hb34 := ptw hb3 hb4
  have hone : Hid (∀ u ∈ (turnsOf l).map (Value.int .i64), u.oneCell' = true) := by intro u hu; rw [List.mem_map] at hu; obtain ⟨z, _, rfl⟩ := hu; rfl
  clear hownA hb3 hb4
  go_wp2_with (at_builtin; refine wpList_append_rows rfl _ _ 43 rfl w2.heap.size 3 i1 (.int .i64 0) 1 8 Tryd.underlying43 hi' hy0 hy1 hy2 rfl (by decide) va _ _ rfl hownA4 _ _ vb _ _ rfl hownB hone.out (by unfold maxLen; omega) (by omega) hb34.size ?_; intro v5 w5 hown5 hgr5)
  have hb5 : Below w2.heap.size w2 w5 := hb34.grown hgr5 hb34.size (fun j hj => (hownA4.lt j hj).1)
  obtain ⟨A, hA⟩ : ∃ A, A = turnsOf m ++ turnsOf l := ⟨_, rfl⟩
  have hAl : A.length = 2 * m.length + 2 * l.length := by rw [hA, List.length_append, turnsOf_length, turnsOf_length]
  have hown6 : w5.ownsRow w2.heap.size 3 1 v5 A.length (A.map (Value.int .i64)) := by rw [hAl, hA, List.map_append]; exact hown5
  have hA8 : A.length ≤ 800 := by omega
  have HA := hideW hA
  obtain ⟨co, cc, rfl, hbd⟩ := rbounds_own hown6 hA8
  clear hA hAl hown5 hown6 hownA4 hownB hgr5 hb34 hone
  go_wp2_with fail
  refine hbd.mono ?_
  rintro e w6 ⟨so, sc, S, rfl, hO, hzS, hb6⟩
  have hbw6 : Below w.heap.size w w6 := ptw hb (ptw hb5 hb6)
  have hSl : S.length ≤ 800 := Nat.le_trans hO.len hA8
  rw [HA.out] at hO
  have HO := hideW hO
  clear hO hbd hb5 hb6 hA8 hb HA
  go_wp2_with fail
  go_loopw [11, 12, 13, 14] (fun v s n vi wr => ∃ (i : Nat) (t : List UInt8) (ev : Int), vi = .int .i64 i ∧ (i = 0 ∨ i + 1 ≤ S.length) ∧ s = .string ⟨t.toArray⟩ ∧ n = .int .i64 ev ∧ ErrIs (cellsTo m l how S i) ev ∧ LastIs m l S i (cellsTo m l how S i) t ∧ wr.ownsRow w6.heap.size 33 5 v (cellsTo m l how S i).length (encC (cellsTo m l how S i)) ∧ Below w6.heap.size w6 wr) (fun _ _ _ vi _ => S.length + 1 - (intOf vi).toNat)
  case atStart => exact ⟨0, [], 0, rfl, .inl rfl, rfl, rfl, .inl ⟨rfl, fun c h => by simp [cellsTo] at h⟩, fun q h => by simp [cellsTo] at h, World.ownsRow_nil _ _ _ _, Below.refl _ _⟩
  case round =>
    obtain ⟨i, t, ev, rfl, hil, rfl, rfl, hev, hla, hown, hb⟩ := hrel
    have hol := cellsTo_len m l how S i
    obtain ⟨out, hout⟩ : ∃ o, o = cellsTo m l how S i := ⟨_, rfl⟩
    rw [← hout] at hev hla hown hol
    have HOut := hideW hout
    have HEV := hideW hev
    have HLA := hideW hla
    clear hout
    have hi8 : i ≤ 800 := by omega
    clear hev hla
    have hbb := ptw hbw6 hb
    by_cases hlt : i + 1 < S.length
    · rcases hzS.below hb with h0 | ⟨b, off, rfl, hbw, hc⟩
      · subst h0; simp at hlt
      have c0 := hc i (by omega)
      have c1 := hc (i + 1) hlt
      rw [getD_get' (by omega : i < S.length)] at c0
      rw [getD_get' hlt] at c1
      have hsz := hb.size
      have hi1 : (i : Int) + 1 < (S.length : Int) := by omega
      have hi2 : (i : Int) < (S.length : Int) := by omega
      have hi3 : (0 : Int) ≤ (i : Int) := by omega
      have hi4 : (0 : Int) ≤ (i : Int) + 1 := by omega
      have hw1 : IntKind.i64.wrap ((i : Int) + 1) = (i : Int) + 1 := wrap_small _ (by omega) (by omega)
      have hcl := Mixed_any lo lc l S[i] how wr (HL.out.below hbb) l4 HGD.out HHW.out (HTb.out.below hbb).tab
      have HOW : Hid (∀ W, Below wr.heap.size wr W → W.ownsRow w6.heap.size 33 5 u11 out.length (encC out) ∧ Below w6.heap.size w6 W) := fun W h => ⟨ownsRow_below hown h, hb.trans (h.mono hb.size)⟩
      have HCC := hideW (fun W (h : Below wr.heap.size wr W) => (⟨(h.cell (p := ⟨b, off + i, none⟩) hbw).trans c0, (h.cell (p := ⟨b, off + (i + 1), none⟩) hbw).trans c1⟩ : W.cell? ⟨b, off + i, none⟩ = some (.int .i64 S[i]) ∧ W.cell? ⟨b, off + (i + 1), none⟩ = some (.int .i64 S[i + 1])))
      have hAt := fun W (h : Below wr.heap.size wr W) => RAt_any mo mc m S[i] W (HM.out.below (ptw hbb h)) (by omega)
      have HAt := hideW hAt
      unfold mixedT at hcl
      clear hc hown hb hAt c1
      cases hfi : mix how l S[i] with
      | none =>
        have HE := hideW (cellsTo_no (m := m) (show i < S.length by omega) hfi)
        have HLS : Hid (∀ t, LastIs m l S (i + 1) (cellsTo m l how S (i + 1)) t) := by intro t; rw [HE.out]; exact lastIs_skip HO.out.inc hlt
        rw [← HOut.out] at HE
        rw [hfi] at hcl
        simp only [Option.isSome_none, Option.getD_none] at hcl
        clear hfi HAt HCC
        go_wp2_with fail
        refine hcl.mono ?_
        rintro e w7 ⟨rfl, hb7⟩
        have F := HOW.out w7 hb7
        clear hcl c0
        go_wp2
        go_roundw
        case rel => exact ⟨i + 1, t, ev, by go_num, .inr (by omega), rfl, rfl, by rw [HE.out]; exact HEV.out, HLS.out t, by rw [HE.out]; exact F.1, F.2⟩
        case measure => simp [intOf]; omega
      | some y =>
        have HE := hideW (cellsTo_yes (m := m) hlt hfi)
        rw [← HOut.out] at HE
        have HLS : Hid (LastIs m l S (i + 1) (cellsTo m l how S (i + 1)) (wtx l S[i] l.length)) := by
          show LastIs _ _ _ _ _ _
          have h9 := lastIs_put (m := m) (l := l) (S := S) (i := i) (out := out) (a := S[i]) (b := S[i + 1]) (v := y)
          rw [getD_get' (by omega : i < S.length)] at h9
          rw [HE.out]; exact h9
        have HNo := hideW (fun q => lastIs_no (q := q) HO.out HMC.out (fun p hp => (HGD.out p hp).2) (by omega) (by omega : i < S.length) HLA.out)
        have hive : ∃ vo vc, u11 = .slice vo out.length vc := by
          obtain ⟨vo, vc, h, _⟩ := ceAt_of_owns (HOW.out wr (Below.refl _ _)).1
          exact ⟨vo, vc, h⟩
        rw [hfi] at hcl
        simp only [Option.isSome_some, Option.getD_some] at hcl
        clear hfi
        go_wp2_with fail
        refine hcl.mono ?_
        rintro e w7 ⟨rfl, hb7⟩
        clear hcl c0
        obtain ⟨c0, c1⟩ := HCC.out w7 hb7
        have hnr := near_any y w7
        go_wp2_with fail
        refine hnr.mono ?_
        rintro e w7' ⟨rfl, hw7⟩
        have hw7s := hw7.symm
        subst hw7s
        clear hw7 hnr
        have hbr : b < w7.heap.size := Nat.lt_of_lt_of_le hbw hb7.size
        by_cases hn : nearB y
        · rw [nb_yes hn]
          have HEV' := hideW (errIs_near (c := (S[i], S[i + 1], (tel m S[i]).getD 0, (tel m S[i]).isSome, y)) HEV.out hn)
          clear hn
          go_wp2_with fail
          go_region_held3 (fun w' => w'.cell? ⟨b, off + i, none⟩ = some (.int .i64 S[i]) ∧ w'.cell? ⟨b, off + (i + 1), none⟩ = some (.int .i64 S[i + 1]))
            (first | go_keep | (refine ⟨?_, ?_⟩ <;> assumption))
            (fail)
          obtain ⟨w8, hw8⟩ : ∃ x, x = (w7.alloc (.cells #[.int .i64 S[i], .int .i64 S[i + 1], .int .i64 0, .bool false, .int .i64 y] 33)).drew := ⟨_, rfl⟩
          rw [← hw8]
          have K8 : K5 w8 w7.heap.size (.int .i64 S[i]) (.int .i64 S[i + 1]) (.int .i64 0) (.bool false) (.int .i64 y) := by rw [hw8]; exact heap_alloc_new w7 _
          have B8 : Below wr.heap.size wr w8 := by rw [hw8]; exact (hb7.alloc hb7.size _).drew
          have hAt := HAt.out w8 B8
          clear hw8 HAt
          obtain ⟨c0, c1⟩ := HCC.out w8 B8
          generalize htv : (tel m S[i]).getD 0 = tv at *
          generalize htb : (tel m S[i]).isSome = tb at *
          clear htv htb
          go_wp2_with fail
          refine hAt.mono ?_
          rintro e w8' ⟨rfl, hw8⟩
          have hw8s := hw8.symm
          subst hw8s
          clear hw8 hAt
          have hfz2 := K8.frz 2
          have cB2 := K8.cells.2.2.1
          have cB3 : (w8.setCell ⟨w7.heap.size, 2, none⟩ (.int .i64 tv)).cell? ⟨w7.heap.size, 3, none⟩ = some (.bool false) := (K8.set2 _).cells.2.2.2.1
          have hfz3 : (w8.setCell ⟨w7.heap.size, 2, none⟩ (.int .i64 tv)).frozen? ⟨w7.heap.size, 3, none⟩ = false := (K8.set2 _).frz 3
          have HK9 := hideW ((K8.set2 (.int .i64 tv)).set3 (.bool tb))
          have HB9 := hideW ((B8.setCell (p := ⟨w7.heap.size, 2, none⟩) hb7.size (.int .i64 tv)).setCell (p := ⟨w7.heap.size, 3, none⟩) hb7.size (.bool tb))
          obtain ⟨vo, vc, rfl⟩ := hive
          go_wp2_with fail
          generalize (w8.setCell ⟨w7.heap.size, 2, none⟩ (.int .i64 tv)).setCell ⟨w7.heap.size, 3, none⟩ (.bool tb) = w9 at HK9 HB9 ⊢
          clear hfz2 cB2 cB3 hfz3 K8 B8 c0 c1
          obtain ⟨cB0, cB1, cB2, cB3, cB4⟩ := HK9.out.cells
          have HF : Hid (∀ n, (K5 (w9.drewN n) w7.heap.size (.int .i64 S[i]) (.int .i64 S[i + 1]) (.int .i64 tv) (.bool tb) (.int .i64 y) ∧ Below wr.heap.size wr (w9.drewN n))) := fun n => ⟨HK9.out, below_drewN HB9.out n⟩
          have hown9 := (HOW.out w9 HB9.out).1
          rcases List.eq_nil_or_concat out with h0 | ⟨o, q, h0⟩
          · rw [h0]
            simp only [List.length_nil]
            have hlo : out.length = 0 := by rw [h0]; rfl
            have HLen := hideW hlo
            rw [hlo] at HOW
            clear hown9 h0
            go_quiet (fail)
            have F := HF.out nq
            generalize w9.drewN nq = wq at F ⊢
            clear cB0 cB1 cB2 cB3 cB4
            obtain ⟨K9, B9⟩ := F
            obtain ⟨cB0, cB1, cB2, cB3, cB4⟩ := K9.cells
            obtain ⟨o1, o2⟩ := HOW.out wq B9
            have hs9 := o2.size
            have HBg : Hid (∀ (o : Obj) (w5 : World), (wq.alloc o).grownBy w5 (Value.slice vo 0 vc).ownBlock → Below w6.heap.size w6 w5) := fun o w5 hgr => (o2.alloc o2.size o).grown hgr (by have := o2.size; simp; omega) (fun k hk => (o1.lt k hk).1)
            clear o2 HK9 HB9 HF
            go_wp2_with (at_builtin; refine wpList_append_own _ rfl _ _ 24 rfl w6.heap.size 33 i0 _ 5 40 Tryd.underlying24 hi hz0 hz1 hz2 rfl (by decide) _ _ _ rfl (World.ownsRow.alloc (w := wq) o1 _) ⟨wq.heap.size, 0, none⟩ 1 1 [.int .i64 S[i], .int .i64 S[i + 1], .int .i64 tv, .bool tb, .int .i64 y] rfl rfl (cells_five_new _ _ _ _ _ _ _ _ rfl) (by intro u hu; simp at hu; rcases hu with rfl | rfl | rfl | rfl | rfl <;> rfl) (by unfold maxLen; omega) (by omega) (by simp; omega) ?_; intro v' w5 hown5 hgrow _)
            have hb' := HBg.out _ _ hgrow
            have R : w5.ownsRow w6.heap.size 33 5 v' (cellsTo m l how S (i + 1)).length (encC (cellsTo m l how S (i + 1))) := by
              rw [HE.out, encC_append, List.length_append, HLen.out]; exact hown5
            clear hgrow o1 hown5
            go_wp2
            go_roundw
            case rel => exact ⟨i + 1, _, _, by go_num, .inr (by omega), rfl, rfl, by rw [HE.out]; exact HEV'.out, HLS.out, R, hb'⟩
            case measure => simp [intOf]; omega
          · rw [List.concat_eq_append] at h0
            have hom : out.length = o.length + 1 := by rw [h0]; simp
            have hqn := HNo.out q (by rw [h0]; simp)
            have hgp : out.getD o.length cl0 = q := by rw [h0]; simp
            obtain ⟨_, f1, f2, f3, _⟩ := encC_get out o.length (by omega)
            rw [hgp] at f1 f2 f3
            rcases hown9.2 with ⟨_, h9⟩ | ⟨gb, c9, cur, e9, _⟩
            · omega
            simp only [Value.slice.injEq, true_and] at e9
            obtain ⟨rfl, rfl⟩ := e9
            have d1 : w9.cell? ⟨gb, o.length * 5 + 1, none⟩ = some (.int .i64 q.2.1) := by rw [hown9.cellAt (o.length * 5 + 1) (by omega)]; exact f1
            have d2 : w9.cell? ⟨gb, o.length * 5 + 2, none⟩ = some (.int .i64 q.2.2.1) := by rw [hown9.cellAt (o.length * 5 + 2) (by omega)]; exact f2
            have d3 : w9.cell? ⟨gb, o.length * 5 + 3, none⟩ = some (.bool q.2.2.2.1) := by rw [hown9.cellAt (o.length * 5 + 3) (by omega)]; exact f3
            have HLen := hideW hom
            rw [hom]
            rw [hom] at HOW hol
            generalize o.length = m0 at *
            clear hown9 h0 hgp f1 f2 f3 hom HNo
            have dm0 : (0 : Int) < (m0 : Int) + 1 := by omega
            have dm1 : (0 : Int) ≤ (m0 : Int) := by omega
            have dm2 : (m0 : Int) < (m0 : Int) + 1 := by omega
            rcases hqn with hq | ⟨hq, hq2⟩ | ⟨hq, hq2, hq3⟩ | ⟨hq, hq2, hq3, hq4⟩
            · have e1 : (q.2.1 == S[i]) = false := by simpa using hq
              clear hq
              go_quiet (fail)
              have F := HF.out nq
              generalize w9.drewN nq = wq at F ⊢
              clear cB0 cB1 cB2 cB3 cB4
              obtain ⟨K9, B9⟩ := F
              obtain ⟨cB0, cB1, cB2, cB3, cB4⟩ := K9.cells
              obtain ⟨o1, o2⟩ := HOW.out wq B9
              have hs9 := o2.size
              have HBg : Hid (∀ (o : Obj) (w5 : World), (wq.alloc o).grownBy w5 (Value.slice (some ⟨gb, 0, none⟩) (m0 + 1) vc).ownBlock → Below w6.heap.size w6 w5) := fun o w5 hgr => (o2.alloc o2.size o).grown hgr (by have := o2.size; simp; omega) (fun k hk => (o1.lt k hk).1)
              clear o2 HK9 HB9 HF
              go_wp2_with (at_builtin; refine wpList_append_own _ rfl _ _ 24 rfl w6.heap.size 33 i0 _ 5 40 Tryd.underlying24 hi hz0 hz1 hz2 rfl (by decide) _ _ _ rfl (World.ownsRow.alloc (w := wq) o1 _) ⟨wq.heap.size, 0, none⟩ 1 1 [.int .i64 S[i], .int .i64 S[i + 1], .int .i64 tv, .bool tb, .int .i64 y] rfl rfl (cells_five_new _ _ _ _ _ _ _ _ rfl) (by intro u hu; simp at hu; rcases hu with rfl | rfl | rfl | rfl | rfl <;> rfl) (by unfold maxLen; omega) (by omega) (by simp; omega) ?_; intro v' w5 hown5 hgrow _)
              have hb' := HBg.out _ _ hgrow
              have R : w5.ownsRow w6.heap.size 33 5 v' (cellsTo m l how S (i + 1)).length (encC (cellsTo m l how S (i + 1))) := by
                rw [HE.out, encC_append, List.length_append, HLen.out]; exact hown5
              clear hgrow o1 hown5
              go_wp2
              go_roundw
              case rel => exact ⟨i + 1, _, _, by go_num, .inr (by omega), rfl, rfl, by rw [HE.out]; exact HEV'.out, HLS.out, R, hb'⟩
              case measure => simp [intOf]; omega
            · have e1 : (q.2.1 == S[i]) = true := by simpa using hq
              have e2 : (t == wtx l S[i] l.length) = false := by simpa using hq2
              clear hq
              go_quiet (fail)
              have F := HF.out nq
              generalize w9.drewN nq = wq at F ⊢
              clear cB0 cB1 cB2 cB3 cB4
              obtain ⟨K9, B9⟩ := F
              obtain ⟨cB0, cB1, cB2, cB3, cB4⟩ := K9.cells
              obtain ⟨o1, o2⟩ := HOW.out wq B9
              have hs9 := o2.size
              have HBg : Hid (∀ (o : Obj) (w5 : World), (wq.alloc o).grownBy w5 (Value.slice (some ⟨gb, 0, none⟩) (m0 + 1) vc).ownBlock → Below w6.heap.size w6 w5) := fun o w5 hgr => (o2.alloc o2.size o).grown hgr (by have := o2.size; simp; omega) (fun k hk => (o1.lt k hk).1)
              clear o2 HK9 HB9 HF
              go_wp2_with (at_builtin; refine wpList_append_own _ rfl _ _ 24 rfl w6.heap.size 33 i0 _ 5 40 Tryd.underlying24 hi hz0 hz1 hz2 rfl (by decide) _ _ _ rfl (World.ownsRow.alloc (w := wq) o1 _) ⟨wq.heap.size, 0, none⟩ 1 1 [.int .i64 S[i], .int .i64 S[i + 1], .int .i64 tv, .bool tb, .int .i64 y] rfl rfl (cells_five_new _ _ _ _ _ _ _ _ rfl) (by intro u hu; simp at hu; rcases hu with rfl | rfl | rfl | rfl | rfl <;> rfl) (by unfold maxLen; omega) (by omega) (by simp; omega) ?_; intro v' w5 hown5 hgrow _)
              have hb' := HBg.out _ _ hgrow
              have R : w5.ownsRow w6.heap.size 33 5 v' (cellsTo m l how S (i + 1)).length (encC (cellsTo m l how S (i + 1))) := by
                rw [HE.out, encC_append, List.length_append, HLen.out]; exact hown5
              clear hgrow o1 hown5
              go_wp2
              go_roundw
              case rel => exact ⟨i + 1, _, _, by go_num, .inr (by omega), rfl, rfl, by rw [HE.out]; exact HEV'.out, HLS.out, R, hb'⟩
              case measure => simp [intOf]; omega
            · have e1 : (q.2.1 == S[i]) = true := by simpa using hq
              have e2 : (t == wtx l S[i] l.length) = true := by simpa using hq2
              have e3 : (q.2.2.1 == tv) = false := by simpa using hq3
              clear hq
              go_quiet (fail)
              have F := HF.out nq
              generalize w9.drewN nq = wq at F ⊢
              clear cB0 cB1 cB2 cB3 cB4
              obtain ⟨K9, B9⟩ := F
              obtain ⟨cB0, cB1, cB2, cB3, cB4⟩ := K9.cells
              obtain ⟨o1, o2⟩ := HOW.out wq B9
              have hs9 := o2.size
              have HBg : Hid (∀ (o : Obj) (w5 : World), (wq.alloc o).grownBy w5 (Value.slice (some ⟨gb, 0, none⟩) (m0 + 1) vc).ownBlock → Below w6.heap.size w6 w5) := fun o w5 hgr => (o2.alloc o2.size o).grown hgr (by have := o2.size; simp; omega) (fun k hk => (o1.lt k hk).1)
              clear o2 HK9 HB9 HF
              go_wp2_with (at_builtin; refine wpList_append_own _ rfl _ _ 24 rfl w6.heap.size 33 i0 _ 5 40 Tryd.underlying24 hi hz0 hz1 hz2 rfl (by decide) _ _ _ rfl (World.ownsRow.alloc (w := wq) o1 _) ⟨wq.heap.size, 0, none⟩ 1 1 [.int .i64 S[i], .int .i64 S[i + 1], .int .i64 tv, .bool tb, .int .i64 y] rfl rfl (cells_five_new _ _ _ _ _ _ _ _ rfl) (by intro u hu; simp at hu; rcases hu with rfl | rfl | rfl | rfl | rfl <;> rfl) (by unfold maxLen; omega) (by omega) (by simp; omega) ?_; intro v' w5 hown5 hgrow _)
              have hb' := HBg.out _ _ hgrow
              have R : w5.ownsRow w6.heap.size 33 5 v' (cellsTo m l how S (i + 1)).length (encC (cellsTo m l how S (i + 1))) := by
                rw [HE.out, encC_append, List.length_append, HLen.out]; exact hown5
              clear hgrow o1 hown5
              go_wp2
              go_roundw
              case rel => exact ⟨i + 1, _, _, by go_num, .inr (by omega), rfl, rfl, by rw [HE.out]; exact HEV'.out, HLS.out, R, hb'⟩
              case measure => simp [intOf]; omega
            · have e1 : (q.2.1 == S[i]) = true := by simpa using hq
              have e2 : (t == wtx l S[i] l.length) = true := by simpa using hq2
              have e3 : (q.2.2.1 == tv) = true := by simpa using hq3
              have e4 : (q.2.2.2.1 == tb) = false := by simpa using hq4
              clear hq
              go_quiet (fail)
              have F := HF.out nq
              generalize w9.drewN nq = wq at F ⊢
              clear cB0 cB1 cB2 cB3 cB4
              obtain ⟨K9, B9⟩ := F
              obtain ⟨cB0, cB1, cB2, cB3, cB4⟩ := K9.cells
              obtain ⟨o1, o2⟩ := HOW.out wq B9
              have hs9 := o2.size
              have HBg : Hid (∀ (o : Obj) (w5 : World), (wq.alloc o).grownBy w5 (Value.slice (some ⟨gb, 0, none⟩) (m0 + 1) vc).ownBlock → Below w6.heap.size w6 w5) := fun o w5 hgr => (o2.alloc o2.size o).grown hgr (by have := o2.size; simp; omega) (fun k hk => (o1.lt k hk).1)
              clear o2 HK9 HB9 HF
              go_wp2_with (at_builtin; refine wpList_append_own _ rfl _ _ 24 rfl w6.heap.size 33 i0 _ 5 40 Tryd.underlying24 hi hz0 hz1 hz2 rfl (by decide) _ _ _ rfl (World.ownsRow.alloc (w := wq) o1 _) ⟨wq.heap.size, 0, none⟩ 1 1 [.int .i64 S[i], .int .i64 S[i + 1], .int .i64 tv, .bool tb, .int .i64 y] rfl rfl (cells_five_new _ _ _ _ _ _ _ _ rfl) (by intro u hu; simp at hu; rcases hu with rfl | rfl | rfl | rfl | rfl <;> rfl) (by unfold maxLen; omega) (by omega) (by simp; omega) ?_; intro v' w5 hown5 hgrow _)
              have hb' := HBg.out _ _ hgrow
              have R : w5.ownsRow w6.heap.size 33 5 v' (cellsTo m l how S (i + 1)).length (encC (cellsTo m l how S (i + 1))) := by
                rw [HE.out, encC_append, List.length_append, HLen.out]; exact hown5
              clear hgrow o1 hown5
              go_wp2
              go_roundw
              case rel => exact ⟨i + 1, _, _, by go_num, .inr (by omega), rfl, rfl, by rw [HE.out]; exact HEV'.out, HLS.out, R, hb'⟩
              case measure => simp [intOf]; omega
        · rw [nb_no hn]
          have HEV' := hideW (errIs_far (out := out) (c := (S[i], S[i + 1], (tel m S[i]).getD 0, (tel m S[i]).isSome, y)) hn)
          clear hn
          go_wp2_with fail
          go_region_held3 (fun w' => w'.cell? ⟨b, off + i, none⟩ = some (.int .i64 S[i]) ∧ w'.cell? ⟨b, off + (i + 1), none⟩ = some (.int .i64 S[i + 1]))
            (first | go_keep | (refine ⟨?_, ?_⟩ <;> assumption))
            (fail)
          obtain ⟨w8, hw8⟩ : ∃ x, x = (w7.alloc (.cells #[.int .i64 S[i], .int .i64 S[i + 1], .int .i64 0, .bool false, .int .i64 y] 33)).drew := ⟨_, rfl⟩
          rw [← hw8]
          have K8 : K5 w8 w7.heap.size (.int .i64 S[i]) (.int .i64 S[i + 1]) (.int .i64 0) (.bool false) (.int .i64 y) := by rw [hw8]; exact heap_alloc_new w7 _
          have B8 : Below wr.heap.size wr w8 := by rw [hw8]; exact (hb7.alloc hb7.size _).drew
          have hAt := HAt.out w8 B8
          clear hw8 HAt
          obtain ⟨c0, c1⟩ := HCC.out w8 B8
          generalize htv : (tel m S[i]).getD 0 = tv at *
          generalize htb : (tel m S[i]).isSome = tb at *
          clear htv htb
          go_wp2_with fail
          refine hAt.mono ?_
          rintro e w8' ⟨rfl, hw8⟩
          have hw8s := hw8.symm
          subst hw8s
          clear hw8 hAt
          have hfz2 := K8.frz 2
          have cB2 := K8.cells.2.2.1
          have cB3 : (w8.setCell ⟨w7.heap.size, 2, none⟩ (.int .i64 tv)).cell? ⟨w7.heap.size, 3, none⟩ = some (.bool false) := (K8.set2 _).cells.2.2.2.1
          have hfz3 : (w8.setCell ⟨w7.heap.size, 2, none⟩ (.int .i64 tv)).frozen? ⟨w7.heap.size, 3, none⟩ = false := (K8.set2 _).frz 3
          have HK9 := hideW ((K8.set2 (.int .i64 tv)).set3 (.bool tb))
          have HB9 := hideW ((B8.setCell (p := ⟨w7.heap.size, 2, none⟩) hb7.size (.int .i64 tv)).setCell (p := ⟨w7.heap.size, 3, none⟩) hb7.size (.bool tb))
          obtain ⟨vo, vc, rfl⟩ := hive
          go_wp2_with fail
          generalize (w8.setCell ⟨w7.heap.size, 2, none⟩ (.int .i64 tv)).setCell ⟨w7.heap.size, 3, none⟩ (.bool tb) = w9 at HK9 HB9 ⊢
          clear hfz2 cB2 cB3 hfz3 K8 B8 c0 c1
          obtain ⟨cB0, cB1, cB2, cB3, cB4⟩ := HK9.out.cells
          have HF : Hid (∀ n, (K5 (w9.drewN n) w7.heap.size (.int .i64 S[i]) (.int .i64 S[i + 1]) (.int .i64 tv) (.bool tb) (.int .i64 y) ∧ Below wr.heap.size wr (w9.drewN n))) := fun n => ⟨HK9.out, below_drewN HB9.out n⟩
          have hown9 := (HOW.out w9 HB9.out).1
          rcases List.eq_nil_or_concat out with h0 | ⟨o, q, h0⟩
          · rw [h0]
            simp only [List.length_nil]
            have hlo : out.length = 0 := by rw [h0]; rfl
            have HLen := hideW hlo
            rw [hlo] at HOW
            clear hown9 h0
            go_quiet (fail)
            have F := HF.out nq
            generalize w9.drewN nq = wq at F ⊢
            clear cB0 cB1 cB2 cB3 cB4
            obtain ⟨K9, B9⟩ := F
            obtain ⟨cB0, cB1, cB2, cB3, cB4⟩ := K9.cells
            obtain ⟨o1, o2⟩ := HOW.out wq B9
            have hs9 := o2.size
            have HBg : Hid (∀ (o : Obj) (w5 : World), (wq.alloc o).grownBy w5 (Value.slice vo 0 vc).ownBlock → Below w6.heap.size w6 w5) := fun o w5 hgr => (o2.alloc o2.size o).grown hgr (by have := o2.size; simp; omega) (fun k hk => (o1.lt k hk).1)
            clear o2 HK9 HB9 HF
            go_wp2_with (at_builtin; refine wpList_append_own _ rfl _ _ 24 rfl w6.heap.size 33 i0 _ 5 40 Tryd.underlying24 hi hz0 hz1 hz2 rfl (by decide) _ _ _ rfl (World.ownsRow.alloc (w := wq) o1 _) ⟨wq.heap.size, 0, none⟩ 1 1 [.int .i64 S[i], .int .i64 S[i + 1], .int .i64 tv, .bool tb, .int .i64 y] rfl rfl (cells_five_new _ _ _ _ _ _ _ _ rfl) (by intro u hu; simp at hu; rcases hu with rfl | rfl | rfl | rfl | rfl <;> rfl) (by unfold maxLen; omega) (by omega) (by simp; omega) ?_; intro v' w5 hown5 hgrow _)
            have hb' := HBg.out _ _ hgrow
            have R : w5.ownsRow w6.heap.size 33 5 v' (cellsTo m l how S (i + 1)).length (encC (cellsTo m l how S (i + 1))) := by
              rw [HE.out, encC_append, List.length_append, HLen.out]; exact hown5
            clear hgrow o1 hown5
            go_wp2
            go_roundw
            case rel => exact ⟨i + 1, _, _, by go_num, .inr (by omega), rfl, rfl, by rw [HE.out]; exact HEV'.out, HLS.out, R, hb'⟩
            case measure => simp [intOf]; omega
          · rw [List.concat_eq_append] at h0
            have hom : out.length = o.length + 1 := by rw [h0]; simp
            have hqn := HNo.out q (by rw [h0]; simp)
            have hgp : out.getD o.length cl0 = q := by rw [h0]; simp
            obtain ⟨_, f1, f2, f3, _⟩ := encC_get out o.length (by omega)
            rw [hgp] at f1 f2 f3
            rcases hown9.2 with ⟨_, h9⟩ | ⟨gb, c9, cur, e9, _⟩
            · omega
            simp only [Value.slice.injEq, true_and] at e9
            obtain ⟨rfl, rfl⟩ := e9
            have d1 : w9.cell? ⟨gb, o.length * 5 + 1, none⟩ = some (.int .i64 q.2.1) := by rw [hown9.cellAt (o.length * 5 + 1) (by omega)]; exact f1
            have d2 : w9.cell? ⟨gb, o.length * 5 + 2, none⟩ = some (.int .i64 q.2.2.1) := by rw [hown9.cellAt (o.length * 5 + 2) (by omega)]; exact f2
            have d3 : w9.cell? ⟨gb, o.length * 5 + 3, none⟩ = some (.bool q.2.2.2.1) := by rw [hown9.cellAt (o.length * 5 + 3) (by omega)]; exact f3
            have HLen := hideW hom
            rw [hom]
            rw [hom] at HOW hol
            generalize o.length = m0 at *
            clear hown9 h0 hgp f1 f2 f3 hom HNo
            have dm0 : (0 : Int) < (m0 : Int) + 1 := by omega
            have dm1 : (0 : Int) ≤ (m0 : Int) := by omega
            have dm2 : (m0 : Int) < (m0 : Int) + 1 := by omega
            rcases hqn with hq | ⟨hq, hq2⟩ | ⟨hq, hq2, hq3⟩ | ⟨hq, hq2, hq3, hq4⟩
            · have e1 : (q.2.1 == S[i]) = false := by simpa using hq
              clear hq
              go_quiet (fail)
              have F := HF.out nq
              generalize w9.drewN nq = wq at F ⊢
              clear cB0 cB1 cB2 cB3 cB4
              obtain ⟨K9, B9⟩ := F
              obtain ⟨cB0, cB1, cB2, cB3, cB4⟩ := K9.cells
              obtain ⟨o1, o2⟩ := HOW.out wq B9
              have hs9 := o2.size
              have HBg : Hid (∀ (o : Obj) (w5 : World), (wq.alloc o).grownBy w5 (Value.slice (some ⟨gb, 0, none⟩) (m0 + 1) vc).ownBlock → Below w6.heap.size w6 w5) := fun o w5 hgr => (o2.alloc o2.size o).grown hgr (by have := o2.size; simp; omega) (fun k hk => (o1.lt k hk).1)
              clear o2 HK9 HB9 HF
              go_wp2_with (at_builtin; refine wpList_append_own _ rfl _ _ 24 rfl w6.heap.size 33 i0 _ 5 40 Tryd.underlying24 hi hz0 hz1 hz2 rfl (by decide) _ _ _ rfl (World.ownsRow.alloc (w := wq) o1 _) ⟨wq.heap.size, 0, none⟩ 1 1 [.int .i64 S[i], .int .i64 S[i + 1], .int .i64 tv, .bool tb, .int .i64 y] rfl rfl (cells_five_new _ _ _ _ _ _ _ _ rfl) (by intro u hu; simp at hu; rcases hu with rfl | rfl | rfl | rfl | rfl <;> rfl) (by unfold maxLen; omega) (by omega) (by simp; omega) ?_; intro v' w5 hown5 hgrow _)
              have hb' := HBg.out _ _ hgrow
              have R : w5.ownsRow w6.heap.size 33 5 v' (cellsTo m l how S (i + 1)).length (encC (cellsTo m l how S (i + 1))) := by
                rw [HE.out, encC_append, List.length_append, HLen.out]; exact hown5
              clear hgrow o1 hown5
              go_wp2
              go_roundw
              case rel => exact ⟨i + 1, _, _, by go_num, .inr (by omega), rfl, rfl, by rw [HE.out]; exact HEV'.out, HLS.out, R, hb'⟩
              case measure => simp [intOf]; omega
            · have e1 : (q.2.1 == S[i]) = true := by simpa using hq
              have e2 : (t == wtx l S[i] l.length) = false := by simpa using hq2
              clear hq
              go_quiet (fail)
              have F := HF.out nq
              generalize w9.drewN nq = wq at F ⊢
              clear cB0 cB1 cB2 cB3 cB4
              obtain ⟨K9, B9⟩ := F
              obtain ⟨cB0, cB1, cB2, cB3, cB4⟩ := K9.cells
              obtain ⟨o1, o2⟩ := HOW.out wq B9
              have hs9 := o2.size
              have HBg : Hid (∀ (o : Obj) (w5 : World), (wq.alloc o).grownBy w5 (Value.slice (some ⟨gb, 0, none⟩) (m0 + 1) vc).ownBlock → Below w6.heap.size w6 w5) := fun o w5 hgr => (o2.alloc o2.size o).grown hgr (by have := o2.size; simp; omega) (fun k hk => (o1.lt k hk).1)
              clear o2 HK9 HB9 HF
              go_wp2_with (at_builtin; refine wpList_append_own _ rfl _ _ 24 rfl w6.heap.size 33 i0 _ 5 40 Tryd.underlying24 hi hz0 hz1 hz2 rfl (by decide) _ _ _ rfl (World.ownsRow.alloc (w := wq) o1 _) ⟨wq.heap.size, 0, none⟩ 1 1 [.int .i64 S[i], .int .i64 S[i + 1], .int .i64 tv, .bool tb, .int .i64 y] rfl rfl (cells_five_new _ _ _ _ _ _ _ _ rfl) (by intro u hu; simp at hu; rcases hu with rfl | rfl | rfl | rfl | rfl <;> rfl) (by unfold maxLen; omega) (by omega) (by simp; omega) ?_; intro v' w5 hown5 hgrow _)
              have hb' := HBg.out _ _ hgrow
              have R : w5.ownsRow w6.heap.size 33 5 v' (cellsTo m l how S (i + 1)).length (encC (cellsTo m l how S (i + 1))) := by
                rw [HE.out, encC_append, List.length_append, HLen.out]; exact hown5
              clear hgrow o1 hown5
              go_wp2
              go_roundw
              case rel => exact ⟨i + 1, _, _, by go_num, .inr (by omega), rfl, rfl, by rw [HE.out]; exact HEV'.out, HLS.out, R, hb'⟩
              case measure => simp [intOf]; omega
            · have e1 : (q.2.1 == S[i]) = true := by simpa using hq
              have e2 : (t == wtx l S[i] l.length) = true := by simpa using hq2
              have e3 : (q.2.2.1 == tv) = false := by simpa using hq3
              clear hq
              go_quiet (fail)
              have F := HF.out nq
              generalize w9.drewN nq = wq at F ⊢
              clear cB0 cB1 cB2 cB3 cB4
              obtain ⟨K9, B9⟩ := F
              obtain ⟨cB0, cB1, cB2, cB3, cB4⟩ := K9.cells
              obtain ⟨o1, o2⟩ := HOW.out wq B9
              have hs9 := o2.size
              have HBg : Hid (∀ (o : Obj) (w5 : World), (wq.alloc o).grownBy w5 (Value.slice (some ⟨gb, 0, none⟩) (m0 + 1) vc).ownBlock → Below w6.heap.size w6 w5) := fun o w5 hgr => (o2.alloc o2.size o).grown hgr (by have := o2.size; simp; omega) (fun k hk => (o1.lt k hk).1)
              clear o2 HK9 HB9 HF
              go_wp2_with (at_builtin; refine wpList_append_own _ rfl _ _ 24 rfl w6.heap.size 33 i0 _ 5 40 Tryd.underlying24 hi hz0 hz1 hz2 rfl (by decide) _ _ _ rfl (World.ownsRow.alloc (w := wq) o1 _) ⟨wq.heap.size, 0, none⟩ 1 1 [.int .i64 S[i], .int .i64 S[i + 1], .int .i64 tv, .bool tb, .int .i64 y] rfl rfl (cells_five_new _ _ _ _ _ _ _ _ rfl) (by intro u hu; simp at hu; rcases hu with rfl | rfl | rfl | rfl | rfl <;> rfl) (by unfold maxLen; omega) (by omega) (by simp; omega) ?_; intro v' w5 hown5 hgrow _)
              have hb' := HBg.out _ _ hgrow
              have R : w5.ownsRow w6.heap.size 33 5 v' (cellsTo m l how S (i + 1)).length (encC (cellsTo m l how S (i + 1))) := by
                rw [HE.out, encC_append, List.length_append, HLen.out]; exact hown5
              clear hgrow o1 hown5
              go_wp2
              go_roundw
              case rel => exact ⟨i + 1, _, _, by go_num, .inr (by omega), rfl, rfl, by rw [HE.out]; exact HEV'.out, HLS.out, R, hb'⟩
              case measure => simp [intOf]; omega
            · have e1 : (q.2.1 == S[i]) = true := by simpa using hq
              have e2 : (t == wtx l S[i] l.length) = true := by simpa using hq2
              have e3 : (q.2.2.1 == tv) = true := by simpa using hq3
              have e4 : (q.2.2.2.1 == tb) = false := by simpa using hq4
              clear hq
              go_quiet (fail)
              have F := HF.out nq
              generalize w9.drewN nq = wq at F ⊢
              clear cB0 cB1 cB2 cB3 cB4
              obtain ⟨K9, B9⟩ := F
              obtain ⟨cB0, cB1, cB2, cB3, cB4⟩ := K9.cells
              obtain ⟨o1, o2⟩ := HOW.out wq B9
              have hs9 := o2.size
              have HBg : Hid (∀ (o : Obj) (w5 : World), (wq.alloc o).grownBy w5 (Value.slice (some ⟨gb, 0, none⟩) (m0 + 1) vc).ownBlock → Below w6.heap.size w6 w5) := fun o w5 hgr => (o2.alloc o2.size o).grown hgr (by have := o2.size; simp; omega) (fun k hk => (o1.lt k hk).1)
              clear o2 HK9 HB9 HF
              go_wp2_with (at_builtin; refine wpList_append_own _ rfl _ _ 24 rfl w6.heap.size 33 i0 _ 5 40 Tryd.underlying24 hi hz0 hz1 hz2 rfl (by decide) _ _ _ rfl (World.ownsRow.alloc (w := wq) o1 _) ⟨wq.heap.size, 0, none⟩ 1 1 [.int .i64 S[i], .int .i64 S[i + 1], .int .i64 tv, .bool tb, .int .i64 y] rfl rfl (cells_five_new _ _ _ _ _ _ _ _ rfl) (by intro u hu; simp at hu; rcases hu with rfl | rfl | rfl | rfl | rfl <;> rfl) (by unfold maxLen; omega) (by omega) (by simp; omega) ?_; intro v' w5 hown5 hgrow _)
              have hb' := HBg.out _ _ hgrow
              have R : w5.ownsRow w6.heap.size 33 5 v' (cellsTo m l how S (i + 1)).length (encC (cellsTo m l how S (i + 1))) := by
                rw [HE.out, encC_append, List.length_append, HLen.out]; exact hown5
              clear hgrow o1 hown5
              go_wp2
              go_roundw
              case rel => exact ⟨i + 1, _, _, by go_num, .inr (by omega), rfl, rfl, by rw [HE.out]; exact HEV'.out, HLS.out, R, hb'⟩
              case measure => simp [intOf]; omega
    · have hil' : i = S.length - 1 := by omega
      have hi1 : ¬ ((i : Int) + 1 < (S.length : Int)) := by omega
      have hw1 : IntKind.i64.wrap ((i : Int) + 1) = (i : Int) + 1 := wrap_small _ (by omega) (by omega)
      rw [hil'] at HOut
      obtain ⟨vo, vc, rfl, _⟩ := ceAt_of_owns hown
      have HR := hideW (owns_base2 hown hbw6.size)
      have HBB := hideW hbb
      clear hown hb hbb hil' HLA
      rcases HEV.out with ⟨rfl, hn⟩ | ⟨rfl, hn⟩
      · by_cases h200 : 200 < out.length
        · have HC : Hid (CellsIs m l how 2 []) := ⟨S, HO.out, .inr (.inl (by rw [← HOut.out]; exact ⟨hn, h200, rfl, rfl⟩))⟩
          clear hn
          go_wp2
          go_ret2
          exact ⟨_, _, HC.out, _, rfl, nilC _ _, HBB.out⟩
        · have HC : Hid (CellsIs m l how 0 out) := ⟨S, HO.out, .inr (.inr (by rw [← HOut.out]; exact ⟨hn, by omega, rfl, rfl⟩))⟩
          clear hn
          go_wp2
          go_ret2
          exact ⟨_, _, HC.out, _, rfl, HR.out, HBB.out⟩
      · have HC : Hid (CellsIs m l how 5 []) := ⟨S, HO.out, .inl (by rw [← HOut.out]; exact ⟨hn, rfl, rfl⟩)⟩
        clear hn
        go_wp2
        go_ret2
        exact ⟨_, _, HC.out, _, rfl, nilC _ _, HBB.out⟩

set_option maxRecDepth 100000 in
set_option maxHeartbeats 2000000 in
theorem RCells_any (mo lo : Option Addr) (mc lc : Nat) (m l : List (Int × Int × Int)) (how : Int) (w : World) (hm : PcAt w mo m) (hl : PcAt w lo l) (hT : Tab w) :
    Calls Tryd.prog 5 #[.slice mo m.length mc, .slice lo l.length lc, .int .i64 how] w fun e w' => ∃ n r, CellsAns m l how n r ∧ ToldC w w' e n r := by
  have h1 := RMap_any mo mc m w hm
  by_cases e1 : ¬ mchk m = 0
  · obtain ⟨n, en, hn⟩ := mchk_bad' e1
    have HC : Hid (CellsAns m l how n []) := .inl ⟨e1, en.symm, rfl⟩
    rw [en] at h1
    clear e1 en
    rcases hn with rfl | rfl
    all_goals
      go_enter Tryd.func5, Tryd.ntmps5
      go_wp2_with fail
      refine h1.mono ?_
      rintro e w1 ⟨rfl, hb1⟩
      go_wp2
      go_ret2
      exact ⟨_, _, HC.out, _, rfl, nilC _ _, hb1⟩
  rw [Decidable.not_not] at e1
  rw [e1] at h1
  have HE1 := hideW e1
  have h2 := fun W (h : Below w.heap.size w W) => Messages_any lo lc l W (hl.below h)
  clear e1
  rcases lchk_cases l with e2 | ⟨e2, _⟩
  · have HC : Hid (CellsAns m l how (lchk l) []) := by
      have : cbChk l how = lchk l := by unfold cbChk; rcases e2 with e | e <;> rw [e] <;> rfl
      exact .inr (.inl ⟨HE1.out, by rw [this]; rcases e2 with e | e <;> rw [e] <;> decide, this.symm, rfl⟩)
    rcases e2 with e | e
    all_goals
      rw [e] at HC
      simp only [e] at h2
      clear e
      go_enter Tryd.func5, Tryd.ntmps5
      go_wp2_with fail
      refine h1.mono ?_
      rintro e w1 ⟨rfl, hb1⟩
      go_wp2_with fail
      refine (h2 w1 hb1).mono ?_
      rintro e w2 ⟨rfl, hb2⟩
      have hb := ptw hb1 hb2
      clear hb1 hb2
      go_wp2
      go_ret2
      exact ⟨_, _, HC.out, _, rfl, nilC _ _, hb⟩
  simp only [e2] at h2
  have h3 := fun W => In13_any how W
  cases hh : isHow how with
  | false =>
    have HC : Hid (CellsAns m l how 1 []) := by
      have : cbChk l how = 1 := by unfold cbChk; rw [e2, hh]; rfl
      exact .inr (.inl ⟨HE1.out, by rw [this]; decide, this.symm, rfl⟩)
    rw [hh] at h3
    clear e2 hh
    go_enter Tryd.func5, Tryd.ntmps5
    go_wp2_with fail
    refine h1.mono ?_
    rintro e w1 ⟨rfl, hb1⟩
    go_wp2_with fail
    refine (h2 w1 hb1).mono ?_
    rintro e w2 ⟨rfl, hb2⟩
    have hb := ptw hb1 hb2
    clear hb1 hb2
    go_wp2_with (go_at_call 17; refine (h3 _).mono ?_; rintro e w' ⟨rfl, rfl⟩)
    go_ret2
    exact ⟨_, _, HC.out, _, rfl, nilC _ _, by assumption⟩
  | true =>
    rw [hh] at h3
    have hc0 : cbChk l how = 0 := by unfold cbChk; rw [e2, hh]; rfl
    refine (rcells_core mo lo mc lc m l how w hm hl HE1.out hc0 hT h1 h2 h3).mono ?_
    rintro e w' ⟨n, r, hC, hT⟩
    exact ⟨n, r, .inr (.inr ⟨HE1.out, hc0, hC⟩), hT⟩

end Go.Proofs.YtjlnokjaabcldabDoor
