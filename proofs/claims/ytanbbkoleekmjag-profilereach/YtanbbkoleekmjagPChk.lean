/-
  What near, follows, has, Check and At of the program's maps answer.
-/
import Derived.Test.YtanbbkoleekmjagPk1
import Derived.Deep.RegionHeld3
import Derived.Deep.AppendLies
namespace Go.Proofs.Ytanbbkoleekmjag
open Go.RowKit

theorem Near_three (B : Nat) (x y z : Int) (w : World) (hB : B < w.heap.size) (c0 : w.cell? ⟨B, 0, none⟩ = some (.int .i64 x)) (c1 : w.cell? ⟨B, 1, none⟩ = some (.int .i64 y)) (c2 : w.cell? ⟨B, 2, none⟩ = some (.int .i64 z)) :
    Calls Try.prog 60 #[.slice (some ⟨B, 0, none⟩) 3 3] w fun e w' => e = .returned (.bool (nrB x && (nrB y && nrB z))) ∧ w' = w := by
  have h := Near_any (some ⟨B, 0, none⟩) 3 [x, y, z] w (.inr ⟨B, 0, rfl, hB, fun j hj => by
    match j, hj with
    | 0, _ => exact c0
    | 1, _ => exact c1
    | 2, _ => exact c2⟩) (by simp)
  simpa using h

/-- are the three numbers near? -/
def nr3 (x y z : Int) : Bool := nrB x && (nrB y && nrB z)
theorem nr3_iff (p : Int × Int × Int) : nr3 p.1 p.2.1 p.2.2 = true ↔ NearP p := by
  unfold nr3 NearP
  rw [Bool.and_eq_true, Bool.and_eq_true, nrB_iff, nrB_iff, nrB_iff]

theorem pnear_any (x y z : Int) (w : World) :
    Calls Try.prog 38 #[.agg #[.int .i64 x, .int .i64 y, .int .i64 z]] w fun e w' => e = .returned (.bool (nr3 x y z)) ∧ Below w.heap.size w w' := by
  go_enter Try.func38, Try.ntmps38
  go_wp2_with fail
  refine (Near_three (w.heap.size + 1) x y z _ (by simp) (by simp) (by simp) (by simp)).mono ?_
  rintro e w1 ⟨rfl, rfl⟩
  go_wp2
  go_ret
  exact ⟨rfl, ptw (pal _ _) (pal _ _)⟩

/-- does x lie from a to b - 1? -/
def inB (a b x : Int) : Bool := decide (a ≤ x) && decide (x < b)
theorem phas_any (a b v t : Int) (w : World) :
    Calls Try.prog 37 #[.agg #[.int .i64 a, .int .i64 b, .int .i64 v], .int .i64 t] w fun e w' => e = .returned (.bool (inB a b t)) ∧ Below w.heap.size w w' := by
  have HB : Hid (∀ o, Below w.heap.size w (w.alloc o)) := fun o => pal w o
  by_cases g1 : a ≤ t
  · by_cases g2 : t < b
    · have HC : Hid (inB a b t = true) := by show _ = _; unfold inB; simp [g1, g2]
      go_enter Try.func37, Try.ntmps37
      go_wp2
      go_ret
      exact ⟨ret_bool HC.out.symm, HB.out _⟩
    · have HC : Hid (inB a b t = false) := by show _ = _; unfold inB; simp [g2]
      go_enter Try.func37, Try.ntmps37
      go_wp2
      go_ret
      exact ⟨ret_bool HC.out.symm, HB.out _⟩
  · have HC : Hid (inB a b t = false) := by show _ = _; unfold inB; simp [g1]
    go_enter Try.func37, Try.ntmps37
    go_wp2
    go_ret
    exact ⟨ret_bool HC.out.symm, HB.out _⟩

/-- follows, on numbers -/
def flB (b v a' v' : Int) : Bool := decide (b < a') || (b == a' && v != v')
theorem follows_any (a b v a' b' v' : Int) (w : World) :
    Calls Try.prog 39 #[.agg #[.int .i64 a, .int .i64 b, .int .i64 v], .agg #[.int .i64 a', .int .i64 b', .int .i64 v']] w fun e w' => e = .returned (.bool (flB b v a' v')) ∧ Below w.heap.size w w' := by
  have HB : Hid (∀ o o', Below w.heap.size w ((w.alloc o).alloc o')) := fun o o' => ptw (pal w o) (pal _ o')
  by_cases g1 : b < a'
  · have HC : Hid (flB b v a' v' = true) := by show _ = _; unfold flB; simp [g1]
    go_enter Try.func39, Try.ntmps39
    go_wp2
    go_ret
    exact ⟨ret_bool HC.out.symm, HB.out _ _⟩
  · by_cases g2 : b = a'
    · by_cases g3 : v = v'
      · have HC : Hid (flB b v a' v' = false) := by show _ = _; unfold flB; simp [g2, g3]
        subst g2
        subst g3
        go_enter Try.func39, Try.ntmps39
        go_wp2
        go_ret
        exact ⟨ret_bool (by first | (rw [HC.out]; simp; done) | rw [HC.out]), HB.out _ _⟩
      · have HC : Hid (flB b v a' v' = true) := by show _ = _; unfold flB; simp [g2, g3]
        have e3 : (v != v') = true := by simp [g3]
        subst g2
        go_enter Try.func39, Try.ntmps39
        go_wp2
        go_ret
        exact ⟨ret_bool (by first | (rw [HC.out]; simp [e3]; done) | rw [HC.out]), HB.out _ _⟩
    · have HC : Hid (flB b v a' v' = false) := by show _ = _; unfold flB; simp [g1, g2]
      have e2 : (b == a') = false := by simp [g2]
      go_enter Try.func39, Try.ntmps39
      go_wp2
      go_ret
      exact ⟨ret_bool (by rw [HC.out]), HB.out _ _⟩

theorem getD3 {m : List (Int × Int × Int)} {k : Nat} (h : k < m.length) : m.getD k (0, 0, 0) = m[k] := by simp [List.getD_eq_getElem?_getD, List.getElem?_eq_getElem h]

theorem PcAt.get {w : World} {b off : Nat} {m : List (Int × Int × Int)} {k : Nat} (hk : k < m.length) (hc : ∀ j, j < m.length → w.cell? ⟨b, off + j * 3, none⟩ = some (.int .i64 (m.getD j (0, 0, 0)).1) ∧ w.cell? ⟨b, off + j * 3 + 1, none⟩ = some (.int .i64 (m.getD j (0, 0, 0)).2.1) ∧ w.cell? ⟨b, off + j * 3 + 2, none⟩ = some (.int .i64 (m.getD j (0, 0, 0)).2.2)) :
    w.cell? ⟨b, off + k * 3, none⟩ = some (.int .i64 m[k].1) ∧ w.cell? ⟨b, off + k * 3 + 1, none⟩ = some (.int .i64 m[k].2.1) ∧ w.cell? ⟨b, off + k * 3 + 2, none⟩ = some (.int .i64 m[k].2.2) := by
  have := hc k hk
  rwa [getD3 hk] at this

set_option maxHeartbeats 1000000 in
theorem PAt_any (ao : Option Addr) (cap : Nat) (m : List (Int × Int × Int)) (t : Int) (w : World) (hl : PcAt w ao m) (hn : m.length ≤ 9223372036854775807) :
    Calls Try.prog 14 #[.slice ao m.length cap, .int .i64 t] w fun e w' => e = .returned (.tuple #[.int .i64 ((tel m t).getD 0), .bool (tel m t).isSome]) ∧ Below w.heap.size w w' := by
  go_enter Try.func14, Try.ntmps14
  go_wp2
  go_loopw [10] (fun i wr => ∃ k : Nat, k ≤ m.length ∧ i = .int .i64 k ∧ tel (m.take k) t = none ∧ Below w.heap.size w wr) (fun i _ => m.length - (intOf i).toNat)
  case atStart => exact ⟨0, Nat.zero_le _, rfl, rfl, Below.refl _ _⟩
  case round =>
    obtain ⟨k, hk, rfl, hh, hb⟩ := hrel
    have HH : Hid (tel (m.take k) t = none) := hh
    clear hh
    by_cases hlt : k < m.length
    · rcases hl.below hb with h0 | ⟨b, off, rfl, hbw, hc⟩
      · subst h0; simp at hlt
      obtain ⟨c0, c1, c2⟩ := PcAt.get hlt hc
      have HB : Hid (Below w.heap.size w wr) := hb
      clear hc hl hb
      go_wp2_with fail
      refine (phas_any m[k].1 m[k].2.1 m[k].2.2 t _).mono ?_
      rintro e w1 ⟨rfl, hb1⟩
      have hb' : Below w.heap.size w w1 := ptw (ptw HB.out (pal _ _)) hb1
      have d2 := hb1.cell (p := ⟨wr.heap.size, 2, none⟩) (by simp)
      have d2 : w1.cell? ⟨wr.heap.size, 2, none⟩ = some (.int .i64 m[k].2.2) := d2.trans (by simp)
      clear hb1 c0 c1 c2
      cases hp : inP m[k] t with
      | true =>
        have e1 : inB m[k].1 m[k].2.1 t = true := hp
        have HC : Hid (tel m t = some m[k].2.2) := tel_take_yes hlt HH.out hp
        rw [e1]
        clear hp e1
        go_wp2
        go_ret2
        exact ⟨by rw [HC.out]; rfl, hb'⟩
      | false =>
        have e1 : inB m[k].1 m[k].2.1 t = false := hp
        have HC : Hid (tel (m.take (k + 1)) t = none) := tel_take_no hlt HH.out hp
        rw [e1]
        clear hp e1
        go_wp2
        go_roundw
        case rel => exact ⟨k + 1, by omega, by go_num, HC.out, hb'⟩
        case measure => simp [intOf]; omega
    · have hkl : k = m.length := by omega
      subst hkl
      have HC : Hid (tel m t = none) := by have := HH.out; rwa [List.take_length] at this
      go_wp2
      go_ret2
      exact ⟨by rw [HC.out]; rfl, hb⟩

/-- what the round of Check needs to know behind its calls: the piece's box, the piece ahead, and that nothing else turned -/
structure Kp (w wr w1 : World) (b o : Nat) (p q : Int × Int × Int) : Prop where
  k0 : w1.cell? ⟨wr.heap.size, 0, none⟩ = some (.int .i64 p.1)
  k1 : w1.cell? ⟨wr.heap.size, 1, none⟩ = some (.int .i64 p.2.1)
  k2 : w1.cell? ⟨wr.heap.size, 2, none⟩ = some (.int .i64 p.2.2)
  q0 : w1.cell? ⟨b, o, none⟩ = some (.int .i64 q.1)
  q1 : w1.cell? ⟨b, o + 1, none⟩ = some (.int .i64 q.2.1)
  q2 : w1.cell? ⟨b, o + 2, none⟩ = some (.int .i64 q.2.2)
  bel : Below w.heap.size w w1
  sz : wr.heap.size + 1 ≤ w1.heap.size
  lt : b < wr.heap.size
theorem kp_start {w wr w1 : World} {b o : Nat} {p q : Int × Int × Int} {T : Nat} (hb : Below w.heap.size w wr) (hbw : b < wr.heap.size) (c0 : wr.cell? ⟨b, o, none⟩ = some (.int .i64 q.1)) (c1 : wr.cell? ⟨b, o + 1, none⟩ = some (.int .i64 q.2.1)) (c2 : wr.cell? ⟨b, o + 2, none⟩ = some (.int .i64 q.2.2))
    (h : Below (wr.alloc (.cells #[.int .i64 p.1, .int .i64 p.2.1, .int .i64 p.2.2] T)).heap.size (wr.alloc (.cells #[.int .i64 p.1, .int .i64 p.2.1, .int .i64 p.2.2] T)) w1) : Kp w wr w1 b o p q := by
  have hA : Below wr.heap.size wr w1 := ptw (pal _ _) h
  refine ⟨(h.cell (p := ⟨wr.heap.size, 0, none⟩) (by simp)).trans (by simp), (h.cell (p := ⟨wr.heap.size, 1, none⟩) (by simp)).trans (by simp), (h.cell (p := ⟨wr.heap.size, 2, none⟩) (by simp)).trans (by simp), ?_, ?_, ?_, ptw hb hA, by have := h.size; simpa using this, hbw⟩
  · rw [hA.cell (p := ⟨b, o, none⟩) hbw]; exact c0
  · rw [hA.cell (p := ⟨b, o + 1, none⟩) hbw]; exact c1
  · rw [hA.cell (p := ⟨b, o + 2, none⟩) hbw]; exact c2
theorem Kp.below {w wr w1 w2 : World} {b o : Nat} {p q : Int × Int × Int} (K : Kp w wr w1 b o p q) (h : Below w1.heap.size w1 w2) : Kp w wr w2 b o p q := by
  have hs := K.sz
  have hl := K.lt
  refine ⟨?_, ?_, ?_, ?_, ?_, ?_, ptw K.bel h, Nat.le_trans hs h.size, hl⟩
  · rw [h.cell (p := ⟨wr.heap.size, 0, none⟩) (by show wr.heap.size < _; omega)]; exact K.k0
  · rw [h.cell (p := ⟨wr.heap.size, 1, none⟩) (by show wr.heap.size < _; omega)]; exact K.k1
  · rw [h.cell (p := ⟨wr.heap.size, 2, none⟩) (by show wr.heap.size < _; omega)]; exact K.k2
  · rw [h.cell (p := ⟨b, o, none⟩) (by show b < _; omega)]; exact K.q0
  · rw [h.cell (p := ⟨b, o + 1, none⟩) (by show b < _; omega)]; exact K.q1
  · rw [h.cell (p := ⟨b, o + 2, none⟩) (by show b < _; omega)]; exact K.q2

end Go.Proofs.Ytanbbkoleekmjag
