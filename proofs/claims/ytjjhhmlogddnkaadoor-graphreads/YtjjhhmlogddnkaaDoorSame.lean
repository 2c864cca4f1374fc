/-
  SameGraph of the reference: two graphs that are one.
-/
import Derived.Test.YtjjhhmlogddnkaaDoorPk1
import Derived.Test.YtjjhhmlogddnkaaDoorEq
import Derived.Laws.StructEq
namespace Go.Proofs.YtjjhhmlogddnkaaDoor
open Go.RowKit

theorem neq_lg2 (x y : Lg) (w : World) : (binOp .neq 54 (.agg #[.int .i64 x.1, .int .i64 x.2.1, .int .i64 x.2.2.1, .int .i64 x.2.2.2]) (.agg #[.int .i64 y.1, .int .i64 y.2.1, .int .i64 y.2.2.1, .int .i64 y.2.2.2])).run Tryd.prog w = .ok (.bool (!(x.1 == y.1 && (x.2.1 == y.2.1 && (x.2.2.1 == y.2.2.1 && x.2.2.2 == y.2.2.2))))) w := by
  have u3 := Tryd.underlying3
  have a3 := Tryd.isAgg3
  have z3 := Tryd.sizeOf3
  have hS : Tryd.prog.underlying 54 = some (.struct (Tryd.prog.fieldsOf 54)) := by kernel_rfl
  have hp : Tryd.prog.stoodInHeld 54 = false := by kernel_rfl
  rw [run_neq_struct, show (10000 : Nat) = 9999 + 1 from rfl, run_equalIn_agg w 9999 54 _ _ hS hp]
  simp only [Program.fieldsOf, Tryd.underlying54]
  go_simp
  by_cases h1 : x.fst = y.fst <;> by_cases h2 : x.snd.fst = y.snd.fst <;> by_cases h3 : x.snd.snd.fst = y.snd.snd.fst <;> by_cases h4 : x.snd.snd.snd = y.snd.snd.snd <;> simp [h1, h2, h3, h4]

set_option maxHeartbeats 2000000 in
theorem EqLg_any (ao bo : Option Addr) (ca cb : Nat) (a b : List Lg) (w : World) (hA : LgAt w ao a) (hB : LgAt w bo b) (hl : a.length ≤ 9223372036854775807) :
    Calls Tryd.prog 34 #[.slice ao a.length ca, .slice bo b.length cb] w fun e w' => e = .returned (.bool (decide (a = b))) ∧ Below w.heap.size w w' := by
  by_cases hlen : a.length = b.length
  · have hm : Tryd.prog.eqGuardType Tryd.prog.depth 54 = false := by kernel_rfl
    have HLN : Hid (a.length = b.length) := hlen
    rw [← hlen]
    have hne : ((a.length : Int) != (a.length : Int)) = false := by simp
    clear hlen
    go_enter Tryd.func34, Tryd.ntmps34
    go_wp2
    go_loopw [5, 13] (fun _ i wr => ∃ k : Nat, k ≤ a.length ∧ i = .int .i64 k ∧ a.take k = b.take k ∧ Below w.heap.size w wr) (fun _ i _ => a.length - (intOf i).toNat)
    case atStart => exact ⟨0, Nat.zero_le _, rfl, rfl, Below.refl _ _⟩
    case round =>
      obtain ⟨k, hk, rfl, hh, hb⟩ := hrel
      have HH : Hid (a.take k = b.take k) := hh
      clear hh
      by_cases hlt : k < a.length
      · have hlt' : k < b.length := by have := HLN.out; omega
        rcases hA.below hb with h0 | ⟨b1, o1, rfl, hb1, hc1⟩
        · subst h0; simp at hlt
        rcases hB.below hb with h0 | ⟨b2, o2, rfl, hb2, hc2⟩
        · subst h0; simp at hlt'
        obtain ⟨c0, c1, c2, c3⟩ := LgAt.get hlt hc1
        obtain ⟨d0, d1, d2, d3⟩ := LgAt.get hlt' hc2
        have nq := neq_lg2 a[k] b[k]
        clear hc1 hc2 hA hB
        by_cases g : a[k] = b[k]
        · have e1 : (a[k].1 == b[k].1) = true := by rw [g]; simp
          have e2 : (a[k].2.1 == b[k].2.1) = true := by rw [g]; simp
          have e3 : (a[k].2.2.1 == b[k].2.2.1) = true := by rw [g]; simp
          have e4 : (a[k].2.2.2 == b[k].2.2.2) = true := by rw [g]; simp
          have HC : Hid (a.take (k + 1) = b.take (k + 1)) := by show _ = _; rw [take_succ_get a k hlt, take_succ_get b k hlt', HH.out, g]
          rw [e1, e2, e3, e4] at nq
          clear g e1 e2 e3 e4
          go_wp2
          go_quiet (fail)
          go_wp2
          go_roundw
          case rel => exact ⟨k + 1, by omega, by go_num, HC.out, below_drewN hb _⟩
          case measure => simp [intOf]; omega
        · have e1 : (a[k].1 == b[k].1 && (a[k].2.1 == b[k].2.1 && (a[k].2.2.1 == b[k].2.2.1 && a[k].2.2.2 == b[k].2.2.2))) = false := by
            rw [← Bool.not_eq_true, Bool.and_eq_true, Bool.and_eq_true, Bool.and_eq_true, beq_iff_eq, beq_iff_eq, beq_iff_eq, beq_iff_eq]
            exact fun ⟨h, h', h'', h'''⟩ => g (Prod.ext h (Prod.ext h' (Prod.ext h'' h''')))
          have HC : Hid (decide (a = b) = false) := by
            show _ = _
            rw [decide_eq_false_iff_not]
            intro h; subst h; exact g rfl
          rw [e1] at nq
          clear g e1
          go_wp2
          go_quiet (fail)
          go_wp2
          go_ret
          exact ⟨ret_bool HC.out.symm, below_drewN hb _⟩
      · have hkl : k = a.length := by omega
        have HC : Hid (decide (a = b) = true) := by
          show _ = _
          have := HH.out
          rw [hkl, List.take_length, HLN.out, List.take_length] at this
          rw [this]; simp
        go_wp2
        go_ret
        exact ⟨ret_bool HC.out.symm, hb⟩
  · have hne : ((a.length : Int) != (b.length : Int)) = true := by simp; omega
    have HC : Hid (decide (a = b) = false) := by
      show _ = _
      rw [decide_eq_false_iff_not]
      intro h; subst h; exact hlen rfl
    clear hlen
    go_enter Tryd.func34, Tryd.ntmps34
    go_wp2
    go_ret
    exact ⟨ret_bool HC.out.symm, Below.refl _ _⟩

set_option maxHeartbeats 2000000 in
set_option maxRecDepth 100000 in
theorem sameEd_any (A B : Int) (legs : List Lg) (lo lp : Option Addr) (c1 c2 : Nat) (w : World) (hA : LgAt w lo legs) (hB : LgAt w lp legs) (hl : legs.length ≤ 9223372036854775807) :
    Calls Tryd.prog 33 #[.agg #[.int .i64 A, .int .i64 B, .slice lo legs.length c1], .agg #[.int .i64 A, .int .i64 B, .slice lp legs.length c2]] w fun e w' => e = .returned (.bool true) ∧ Below w.heap.size w w' := by
  have hE : Hid (∀ o o', Calls Tryd.prog 34 #[.slice lo legs.length c1, .slice lp legs.length c2] ((w.alloc o).alloc o') fun e w' => e = .returned (.bool true) ∧ Below w.heap.size w w') := fun o o' => by
    have hb := ptg (gal w o) (gal _ o')
    refine (EqLg_any lo lp c1 c2 legs legs _ (hA.below hb) (hB.below hb) hl).mono ?_
    rintro e w' ⟨rfl, h⟩
    exact ⟨by simp, ptg hb h⟩
  clear hA hB
  go_enter Tryd.func33, Tryd.ntmps33
  go_wp2_with (go_at_call 34; refine (hE.out _ _).mono ?_; rintro e w' ⟨rfl, hb⟩)
  go_ret
  exact ⟨rfl, hb⟩

set_option maxHeartbeats 2000000 in
set_option maxRecDepth 100000 in
theorem EqFunc_any (ea eb : Option Addr) (ca cb : Nat) (es : List Ed) (w : World) (hA : EdAt w ea es) (hB : EdAt w eb es) (hl : es.length ≤ 9223372036854775807) :
    Calls Tryd.prog 32 #[.slice ea es.length ca, .slice eb es.length cb, .func (.func 33) #[] #[]] w fun e w' => e = .returned (.bool true) ∧ Below w.heap.size w w' := by
  have hne : ((es.length : Int) != (es.length : Int)) = false := by simp
  go_enter Tryd.func32, Tryd.ntmps32
  go_wp2
  go_loopw [17] (fun i wr => ∃ k : Nat, k ≤ es.length ∧ i = .int .i64 k ∧ Below w.heap.size w wr) (fun i _ => es.length - (intOf i).toNat)
  case atStart => exact ⟨0, Nat.zero_le _, rfl, Below.refl _ _⟩
  case round =>
    obtain ⟨k, hk, rfl, hb⟩ := hrel
    by_cases hlt : k < es.length
    · rcases hA.below hb with h0 | ⟨b1, o1, rfl, hb1, hc1⟩
      · subst h0; simp at hlt
      rcases hB.below hb with h0 | ⟨b2, o2, rfl, hb2, hc2⟩
      · subst h0; simp at hlt
      obtain ⟨p0, p1, lo, c1, p2, hL1, _, hm1⟩ := hc1 k hlt
      obtain ⟨q0, q1, lp, c2, q2, hL2, _, _⟩ := hc2 k hlt
      have hll : es[k].2.2.length ≤ 9223372036854775807 := by omega
      have i1 : (k : Int) < (es.length : Int) := by omega
      have i2 : (0 : Int) ≤ (k : Int) := by omega
      clear hc1 hc2 hA hB
      generalize es[k] = e at *
      obtain ⟨A, B, legs⟩ := e
      simp only at p0 p1 p2 q0 q1 q2 hL1 hL2 hll
      have hE : Hid (∀ o o', Calls Tryd.prog 33 #[.agg #[.int .i64 A, .int .i64 B, .slice lo legs.length c1], .agg #[.int .i64 A, .int .i64 B, .slice lp legs.length c2]] ((wr.alloc o).alloc o') fun e w' => e = .returned (.bool true) ∧ Below w.heap.size w w') := fun o o' => by
        have hb' := ptg (gal wr o) (gal _ o')
        refine (sameEd_any A B legs lo lp c1 c2 _ (hL1.below hb') (hL2.below hb') hll).mono ?_
        rintro e w' ⟨rfl, h⟩
        exact ⟨rfl, ptg hb (ptg hb' h)⟩
      clear hL1 hL2
      go_wp2_with fail
      refine (hE.out _ _).mono ?_
      rintro e w' ⟨rfl, hb'⟩
      go_wp2
      go_roundw
      case rel => exact ⟨k + 1, by omega, by go_num, hb'⟩
      case measure => simp [intOf]; omega
    · go_wp2
      go_ret
      exact ⟨rfl, hb⟩

set_option maxHeartbeats 2000000 in
set_option maxRecDepth 100000 in
theorem Same_any (g : Gr) (la ea lb eb : Option Addr) (lc ec ld ed : Nat) (w : World) (hA : GAt w la ea g) (hB : GAt w lb eb g) :
    Calls Tryd.prog 16 #[.agg #[.int .i64 g.hor, .slice la g.lives.length lc, .slice ea g.edges.length ec], .agg #[.int .i64 g.hor, .slice lb g.lives.length ld, .slice eb g.edges.length ed]] w fun e w' => e = .returned (.bool true) ∧ Below w.heap.size w w' := by
  obtain ⟨h, lives, edges⟩ := g
  have n1 := hA.nl
  have n2 := hA.ne
  simp only at n1 n2 ⊢
  have hE : Hid (∀ o o', Calls Tryd.prog 31 #[.slice la lives.length lc, .slice lb lives.length ld] ((w.alloc o).alloc o') fun e w' => e = .returned (.bool true) ∧ Below ((w.alloc o).alloc o').heap.size ((w.alloc o).alloc o') w') := fun o o' => by
    have hb := ptg (gal w o) (gal _ o')
    refine (Equal_any la lb lc ld lives lives _ (hA.lv.below hb) (hB.lv.below hb) n1).mono ?_
    rintro e w' ⟨rfl, h⟩
    exact ⟨by simp, h⟩
  have hF : Hid (∀ o o' w', Below ((w.alloc o).alloc o').heap.size ((w.alloc o).alloc o') w' → Calls Tryd.prog 32 #[.slice ea edges.length ec, .slice eb edges.length ed, .func (.func 33) #[] #[]] w' fun e w2 => e = .returned (.bool true) ∧ Below w.heap.size w w2) := fun o o' w' h => by
    have hb := ptg (ptg (gal w o) (gal _ o')) h
    refine (EqFunc_any ea eb ec ed edges _ (hA.ed.below hb) (hB.ed.below hb) n2).mono ?_
    rintro e w2 ⟨rfl, h2⟩
    exact ⟨rfl, ptg hb h2⟩
  clear hA hB
  go_enter Tryd.func16, Tryd.ntmps16
  go_wp2_with fail
  refine (hE.out _ _).mono ?_
  rintro e w1 ⟨rfl, hb1⟩
  have p2 : w1.cell? ⟨w.heap.size, 2, none⟩ = some (.slice ea edges.length ec) := by rw [hb1.cell (p := ⟨w.heap.size, 2, none⟩) (by simp; omega)]; simp
  have q2 : w1.cell? ⟨w.heap.size + 1, 2, none⟩ = some (.slice eb edges.length ed) := by rw [hb1.cell (p := ⟨w.heap.size + 1, 2, none⟩) (by simp)]; simp
  go_wp2_with fail
  refine (hF.out _ _ _ hb1).mono ?_
  rintro e w2 ⟨rfl, hb2⟩
  go_wp2
  go_ret
  exact ⟨rfl, hb2⟩

end Go.Proofs.YtjjhhmlogddnkaaDoor
