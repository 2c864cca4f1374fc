/-
  How the program reads a number of a graph's bytes.
-/
import Derived.Test.YteibdmfcclkjpahPkA
namespace Go.Proofs.Yteibdmfcclkjpah
open Go.RowKit

/-- the reader's box -/
def RS (s : ByteArray) (RB : Nat) (st : Nat × Int) (W : World) : Prop := W.heap[RB]? = some (.cells #[.string s, .int .i64 (st.1 : Int), .int .i64 st.2] 74 (0, 0))
/-- what next answers: where one is then, the error, and the bytes -/
def nxB (s : ByteArray) (st : Nat × Int) (k : Nat) : (Nat × Int) × ByteArray :=
  if st.2 = 0 then if st.1 + k ≤ s.size then ((st.1 + k, 0), s.extract st.1 (st.1 + k)) else ((st.1, 5), ⟨#[]⟩) else (st, ⟨#[]⟩)
theorem RS.c0 {s : ByteArray} {RB : Nat} {st : Nat × Int} {W : World} (h : RS s RB st W) : W.cell? ⟨RB, 0, none⟩ = some (.string s) := by rw [Lib.cell_of_heap h]; rfl
theorem RS.c1 {s : ByteArray} {RB : Nat} {st : Nat × Int} {W : World} (h : RS s RB st W) : W.cell? ⟨RB, 1, none⟩ = some (.int .i64 (st.1 : Int)) := by rw [Lib.cell_of_heap h]; rfl
theorem RS.c2 {s : ByteArray} {RB : Nat} {st : Nat × Int} {W : World} (h : RS s RB st W) : W.cell? ⟨RB, 2, none⟩ = some (.int .i64 st.2) := by rw [Lib.cell_of_heap h]; rfl
theorem RS.f {s : ByteArray} {RB : Nat} {st : Nat × Int} {W : World} (h : RS s RB st W) (j : Nat) : W.frozen? ⟨RB, j, none⟩ = false := Lib.frozen_of_heap h j
theorem RS.set1 {s : ByteArray} {RB : Nat} {st : Nat × Int} {W : World} (h : RS s RB st W) (k : Nat) : RS s RB (k, st.2) (W.setCell ⟨RB, 1, none⟩ (.int .i64 (k : Int))) := box_set h 1 _
theorem RS.set2 {s : ByteArray} {RB : Nat} {st : Nat × Int} {W : World} (h : RS s RB st W) (e : Int) : RS s RB (st.1, e) (W.setCell ⟨RB, 2, none⟩ (.int .i64 e)) := box_set h 2 _
theorem Kn.refl {base RB : Nat} (w : World) : Kn base RB RB w w := ⟨Below.refl _ _, rfl, fun _ _ _ => rfl⟩
theorem Kn.set {base RB j : Nat} {w W : World} {x : Value} (h : Kn base RB RB w W) (hb : base ≤ RB) : Kn base RB RB w (W.setCell ⟨RB, j, none⟩ x) :=
  ⟨h.bel.setCell (p := ⟨RB, j, none⟩) hb _, by rw [← h.size]; simp [World.setCell], fun b h1 h2 => by rw [Below.heap_setCell _ _ _ _ (by show b ≠ RB; exact h1)]; exact h.blk b h1 h2⟩
theorem Kn.trans {base RB : Nat} {a b c : World} (h : Kn base RB RB a b) (k : Kn base RB RB b c) : Kn base RB RB a c :=
  ⟨h.bel.trans k.bel, k.size.trans h.size, fun j h1 h2 => (k.blk j h1 h2).trans (h.blk j h1 h2)⟩
theorem Kn.drewN {base RB : Nat} {w W : World} (h : Kn base RB RB w W) (n : Nat) : Kn base RB RB w (W.drewN n) := ⟨below_drewN h.bel n, h.size, h.blk⟩

set_option maxHeartbeats 1000000 in
theorem pNext_any (s : ByteArray) (w : World) (base RB : Nat) (st : Nat × Int) (k : Nat) (hs : s.size ≤ 4611686018427387904) (hat : st.1 ≤ s.size) (hk : k ≤ 4) (hb : base ≤ RB) (hR : RS s RB st w) :
    Calls Try.prog 67 #[.pointer (some ⟨RB, 0, none⟩), .int .i64 (k : Int)] w fun r w' => r = .returned (.string (nxB s st k).2) ∧ RS s RB (nxB s st k).1 w' ∧ Kn base RB RB w w' := by
  obtain ⟨a, e⟩ := st
  have c0 := hR.c0
  have c1 := hR.c1
  have c2 := hR.c2
  have f1 := hR.f 1
  have f2 := hR.f 2
  simp only at hat c1 c2
  by_cases he : e = 0
  · subst he
    have hw1 : IntKind.i64.wrap ((s.size : Int) - (a : Int)) = (s.size : Int) - (a : Int) := wrap_q _ (by omega) (by omega)
    by_cases hlt : a + k ≤ s.size
    · have hn : ¬ ((s.size : Int) - (a : Int) < (k : Int)) := by omega
      have hw2 : IntKind.i64.wrap ((a : Int) + (k : Int)) = ((a + k : Nat) : Int) := by rw [wrap_q _ (by omega) (by omega)]; omega
      have HR : Hid (nxB s (a, 0) k = ((a + k, 0), s.extract a (a + k))) := by show _ = _; unfold nxB; rw [if_pos rfl, if_pos hlt]
      obtain ⟨ak, hak⟩ : ∃ x, x = a + k := ⟨_, rfl⟩
      rw [← hak] at HR hw2 hlt
      have h1 : a ≤ ak := by omega
      have HS := hideg hR
      clear hR hak
      go_enter Try.func67, Try.ntmps67
      go_wp2_with fail
      go_quiet (fail)
      have hRq : RS s RB (a, 0) (w.drewN nq) := HS.out
      have hKq : Kn base RB RB w (w.drewN nq) := (Kn.refl w).drewN nq
      clear HS c0 c1 c2 f1 f2
      generalize w.drewN nq = wq at *
      have c0 := hRq.c0
      have c1 := hRq.c1
      simp only at c1
      go_wp2_with fail
      go_quiet (fail)
      have hRz : RS s RB (a, 0) (wq.drewN nq) := hRq
      have hKz : Kn base RB RB w (wq.drewN nq) := hKq.drewN nq
      clear hRq hKq c0 c1
      generalize wq.drewN nq = wz at *
      have c1 := hRz.c1
      have f1 := hRz.f 1
      have HK := hideg (⟨hRz.set1 ak, hKz.set hb⟩ : _ ∧ Kn base RB RB w (wz.setCell ⟨RB, 1, none⟩ (.int .i64 (ak : Int))))
      simp only at c1
      clear hRz hKz
      go_wp2
      go_ret
      rw [HR.out]
      exact ⟨rfl, HK.out⟩
    · have hn : (s.size : Int) - (a : Int) < (k : Int) := by omega
      have HR : Hid (nxB s (a, 0) k = ((a, 5), ⟨#[]⟩)) := by show _ = _; unfold nxB; rw [if_pos rfl, if_neg hlt]
      have HS := hideg hR
      clear hR
      go_enter Try.func67, Try.ntmps67
      go_wp2_with fail
      go_quiet (fail)
      have hRq : RS s RB (a, 0) (w.drewN nq) := HS.out
      have hKq : Kn base RB RB w (w.drewN nq) := (Kn.refl w).drewN nq
      clear HS c0 c1 c2 f1 f2
      generalize w.drewN nq = wq at *
      have c2 := hRq.c2
      have f2 := hRq.f 2
      have HK := hideg (⟨hRq.set2 5, hKq.set hb⟩ : _ ∧ Kn base RB RB w (wq.setCell ⟨RB, 2, none⟩ (.int .i64 5)))
      simp only at c2
      clear hRq hKq
      go_wp2
      go_ret
      rw [HR.out]
      exact ⟨rfl, HK.out⟩
  · have hen : (e != 0) = true := by simpa using he
    have HR : Hid (nxB s (a, e) k = ((a, e), ⟨#[]⟩)) := by show _ = _; unfold nxB; rw [if_neg he]
    have HS := hideg hR
    clear hR
    go_enter Try.func67, Try.ntmps67
    go_wp2
    go_ret
    rw [HR.out]
    exact ⟨rfl, HS.out, Kn.refl w⟩

theorem bdlF (a : ByteArray) : a.toList = a.data.toList := ByteArray.toList_eq a
theorem ext_get {s : ByteArray} {a k j : Nat} (h : a + k ≤ s.size) (hj : j < k) : ∀ h2 : j < (s.extract a (a + k)).size, (s.extract a (a + k))[j] = s[a + j] := by
  intro h2
  simp [ByteArray.getElem_extract]
theorem or_two (x y : Nat) (hx : x < 256) (hy : y < 256) : bits .or .i64 ((x : Int) * 256) (y : Int) = ((x * 256 + y : Nat) : Int) := by
  have e1 : (BitVec.ofInt 64 ((x : Int) * 256)).toNat = x * 256 := by
    rw [show ((x : Int) * 256) = ((x * 256 : Nat) : Int) by omega, BitVec.ofInt_natCast, BitVec.toNat_ofNat]; exact Nat.mod_eq_of_lt (by omega)
  have e2 : (BitVec.ofInt 64 (y : Int)).toNat = y := by rw [BitVec.ofInt_natCast, BitVec.toNat_ofNat]; exact Nat.mod_eq_of_lt (by omega)
  have e3 : x * 256 ||| y = x * 256 + y := by
    rw [show 256 = 2 ^ 8 by rfl, Nat.mul_comm x, Nat.two_pow_add_eq_or_of_lt (by omega)]
  show IntKind.i64.wrap ((BitVec.ofInt 64 ((x : Int) * 256) ||| BitVec.ofInt 64 (y : Int)).toNat : Int) = _
  rw [BitVec.toNat_or, e1, e2, e3]
  exact wrap_q _ (by omega) (by omega)

set_option maxHeartbeats 1000000 in
theorem pNum_any (s : ByteArray) (w : World) (base RB : Nat) (st : Nat × Int) (hs : s.size ≤ 4611686018427387904) (hat : st.1 ≤ s.size) (hb : base ≤ RB) (hR : RS s RB st w) :
    Calls Try.prog 64 #[.pointer (some ⟨RB, 0, none⟩)] w fun r w' => r = .returned (.int .i64 (nx s.data.toList st 65535).2) ∧ RS s RB (nx s.data.toList st 65535).1 w' ∧ Kn base RB RB w w' := by
  have h1 := pNext_any s w base RB st 2 hs hat (by omega) hb hR
  have HL : Hid (s.data.toList.length = s.size) := rfl
  clear hR
  by_cases hc : st.2 = 0 ∧ st.1 + 2 ≤ s.size
  · obtain ⟨a, e⟩ := st
    obtain ⟨he, hlt⟩ := hc
    simp only at he hlt hat
    subst he
    have hn : nxB s (a, 0) 2 = ((a + 2, 0), s.extract a (a + 2)) := by unfold nxB; rw [if_pos rfl, if_pos hlt]
    rw [hn] at h1
    obtain ⟨q, hq⟩ : ∃ q, q = s.extract a (a + 2) := ⟨_, rfl⟩
    have hqs : q.size = 2 := by rw [hq, ByteArray.size_extract]; omega
    have ha0 : a < s.size := by omega
    have ha1 : a + 1 < s.size := by omega
    have hq0 : q[0].toNat = (s.data.toList.getD a 0).toNat := by
      subst hq
      rw [ext_get hlt (by omega), List.getD_eq_getElem?_getD, List.getElem?_eq_getElem (by rw [HL.out]; exact ha0)]; rfl
    have hq1 : q[1].toNat = (s.data.toList.getD (a + 1) 0).toNat := by
      subst hq
      rw [ext_get hlt (by omega), List.getD_eq_getElem?_getD, List.getElem?_eq_getElem (by rw [HL.out]; exact ha1)]; rfl
    have hx0 := q[0].toNat_lt
    have hx1 := q[1].toNat_lt
    have hor := or_two q[0].toNat q[1].toNat hx0 hx1
    have HR : Hid (nx s.data.toList (a, 0) 65535 = ((a + 2, (0 : Int)), ((q[0].toNat * 256 + q[1].toNat : Nat) : Int))) := by
      show _ = _
      have h65 := at2_lt s.data.toList a
      have e1 : at2 s.data.toList a = q[0].toNat * 256 + q[1].toNat := by unfold at2; rw [hq0, hq1]
      unfold nx
      show (if (0 : Int) = 0 then if a + 2 ≤ s.data.toList.length then if (65535 : Int) < (at2 s.data.toList a : Int) then ((a + 2, (2 : Int)), (0 : Int)) else ((a + 2, 0), (at2 s.data.toList a : Int)) else ((a, 5), 0) else ((a, 0), 0)) = _
      rw [if_pos rfl, if_pos (by rw [HL.out]; exact hlt), if_neg (by omega), e1]
    rw [← hq] at h1
    have hqE : q.toList.isEmpty = false := by rw [bdlF, List.isEmpty_eq_false_iff]; intro h; have h2 : q.data.toList.length = 2 := hqs; rw [h] at h2; cases h2
    have hi0 : (0 : Int) < (q.size : Int) := by omega
    have hi1 : (1 : Int) < (q.size : Int) := by omega
    have hn0 : 0 < q.size := by omega
    have hn1 : 1 < q.size := by omega
    have hw0 : IntKind.i64.wrap (q[0].toNat : Int) = (q[0].toNat : Int) := wrap_q _ (by omega) (by omega)
    have hw1 : IntKind.i64.wrap (q[1].toNat : Int) = (q[1].toNat : Int) := wrap_q _ (by omega) (by omega)
    have hw2 : IntKind.i64.wrap ((q[0].toNat : Int) * 256) = (q[0].toNat : Int) * 256 := wrap_q _ (by omega) (by omega)
    generalize q[0].toNat * 256 + q[1].toNat = v at *
    simp only at h1
    clear hq hq0 hq1 hn hx0 hx1
    go_enter Try.func64, Try.ntmps64
    go_wp2_with fail
    refine h1.mono ?_
    rintro r w1 ⟨rfl, hR1, hK1⟩
    clear h1
    go_wp2_with fail
    go_quiet (fail)
    go_wp2
    go_ret
    rw [HR.out]
    exact ⟨rfl, hR1, hK1.drewN _⟩
  · have hn : (nxB s st 2).2 = ⟨#[]⟩ ∧ (nxB s st 2).1 = (nx s.data.toList st 65535).1 ∧ (nx s.data.toList st 65535).2 = 0 := by
      unfold nxB nx
      by_cases he : st.2 = 0
      · have hlt : ¬ (st.1 + 2 ≤ s.size) := fun h => hc ⟨he, h⟩
        rw [if_pos he, if_neg hlt, if_pos he, if_neg (by rw [HL.out]; exact hlt)]
        exact ⟨rfl, rfl, rfl⟩
      · rw [if_neg he, if_neg he]
        exact ⟨rfl, rfl, rfl⟩
    obtain ⟨n1, n2, n3⟩ := hn
    rw [n1, n2] at h1
    rw [n3]
    generalize (nx s.data.toList st 65535).1 = st' at *
    clear n1 n2 n3 hc
    go_enter Try.func64, Try.ntmps64
    go_wp2_with fail
    refine h1.mono ?_
    rintro r w1 ⟨rfl, hR1, hK1⟩
    clear h1
    go_wp2
    go_ret
    exact ⟨rfl, hR1, hK1⟩

end Go.Proofs.Yteibdmfcclkjpah
