/-
  How the reference reads a number of a graph's bytes.
-/
import Derived.Test.YteibdmfcclkjpadPkNum
namespace Go.Proofs.Yteibdmfcclkjpad
open Go.RowKit

/-- two bytes as a number -/
def at2 (s : List UInt8) (i : Nat) : Nat := (s.getD i 0).toNat * 256 + (s.getD (i + 1) 0).toNat
/-- the next number, where at most so much may be: where one is then, the error, and the number -/
def nx (s : List UInt8) (st : Nat × Int) (most : Int) : (Nat × Int) × Int :=
  if st.2 = 0 then if st.1 + 2 ≤ s.length then if most < (at2 s st.1 : Int) then ((st.1 + 2, 2), 0) else ((st.1 + 2, 0), (at2 s st.1 : Int)) else ((st.1, 5), 0) else (st, 0)
theorem at2_lt (s : List UInt8) (i : Nat) : at2 s i < 65536 := by
  unfold at2
  have h1 := (s.getD i 0).toNat_lt
  have h2 := (s.getD (i + 1) 0).toNat_lt
  omega
theorem nx_range {s : List UInt8} {st : Nat × Int} {most : Int} (hm : 0 ≤ most) : 0 ≤ (nx s st most).2 ∧ (nx s st most).2 ≤ most := by
  unfold nx
  split
  · split
    · split
      · simp only; omega
      · simp only; omega
    · simp only; omega
  · simp only; omega
theorem nx_at {s : List UInt8} {st : Nat × Int} {most : Int} (h : st.1 ≤ s.length) : (nx s st most).1.1 ≤ s.length := by
  unfold nx
  split
  · split
    · split <;> simp only <;> omega
    · exact h
  · exact h

/-- the boxes of the place and of the error -/
structure Bx2 (AB EB : Nat) (st : Nat × Int) (w : World) : Prop where
  a : w.heap[AB]? = some (.cells #[.int .i64 (st.1 : Int)] 3 (0, 0))
  e : w.heap[EB]? = some (.cells #[.int .i64 st.2] 26 (0, 0))
/-- what a call of next keeps -/
structure Kn (base AB EB : Nat) (w w' : World) : Prop where
  bel : Below base w w'
  size : w'.heap.size = w.heap.size
  blk : ∀ b, b ≠ AB → b ≠ EB → w'.heap[b]? = w.heap[b]?

theorem one_set {w : World} {b : Nat} {x y : Value} {T : TypeId} (h : w.heap[b]? = some (.cells #[x] T (0, 0))) : (w.setCell ⟨b, 0, none⟩ y).heap[b]? = some (.cells #[y] T (0, 0)) := box_set h 0 y

set_option maxHeartbeats 1000000 in
theorem PNext_any (s : ByteArray) (w : World) (base AB EB SB : Nat) (st : Nat × Int) (most : Int) (hs : s.size ≤ 4611686018427387904) (hat : st.1 ≤ s.size) (hA : base ≤ AB) (hE : base ≤ EB) (hne : AB ≠ EB) (B2 : Bx2 AB EB st w) (hS : w.cell? ⟨SB, 0, none⟩ = some (.string s)) (hsA : SB ≠ AB) (hsE : SB ≠ EB) :
    Calls Try.prog 34 #[.int .i64 most, .pointer (some ⟨EB, 0, none⟩), .pointer (some ⟨AB, 0, none⟩), .pointer (some ⟨SB, 0, none⟩)] w fun r w' => r = .returned (.int .i64 (nx s.data.toList st most).2) ∧ Bx2 AB EB (nx s.data.toList st most).1 w' ∧ Kn base AB EB w w' := by
  obtain ⟨k, e⟩ := st
  have HL : Hid (s.data.toList.length = s.size) := rfl
  have ca : w.cell? ⟨AB, 0, none⟩ = some (.int .i64 (k : Int)) := by rw [Lib.cell_of_heap B2.a]; rfl
  have ce : w.cell? ⟨EB, 0, none⟩ = some (.int .i64 e) := by rw [Lib.cell_of_heap B2.e]; rfl
  have fa : w.frozen? ⟨AB, 0, none⟩ = false := Lib.frozen_of_heap B2.a 0
  have fe : w.frozen? ⟨EB, 0, none⟩ = false := Lib.frozen_of_heap B2.e 0
  have HB2 := hideg B2
  simp only at hat ca ce
  by_cases he : e = 0
  · subst he
    by_cases hlt : k + 2 ≤ s.size
    · have hn1 : ¬ ((k : Int) + 2 > (s.size : Int)) := by omega
      have hw2 : IntKind.i64.wrap ((k : Int) + 2) = (k : Int) + 2 := wrap_q _ (by omega) (by omega)
      obtain ⟨k1, hk1e⟩ : ∃ k1 : Nat, k1 = k + 1 := ⟨_, rfl⟩
      have hw1 : IntKind.i64.wrap ((k : Int) + 1) = (k1 : Int) := by rw [wrap_q _ (by omega) (by omega)]; omega
      have hk0 : k < s.size := by omega
      have hk1 : k1 < s.size := by omega
      have hki : (k : Int) < (s.size : Int) := by omega
      have hki1 : (k1 : Int) < (s.size : Int) := by omega
      have b0 := s[k].toNat_lt
      have b1 := s[k1].toNat_lt
      have hx0 : IntKind.i64.wrap (s[k].toNat : Int) = (s[k].toNat : Int) := wrap_q _ (by omega) (by omega)
      have hx1 : IntKind.i64.wrap (s[k1].toNat : Int) = (s[k1].toNat : Int) := wrap_q _ (by omega) (by omega)
      have hx2 : IntKind.i64.wrap ((s[k].toNat : Int) * 256) = (s[k].toNat : Int) * 256 := wrap_q _ (by omega) (by omega)
      have hx3 : IntKind.i64.wrap ((s[k].toNat : Int) * 256 + (s[k1].toNat : Int)) = ((s[k].toNat * 256 + s[k1].toNat : Nat) : Int) := by rw [wrap_q _ (by omega) (by omega)]; omega
      have HAt : Hid (at2 s.data.toList k = s[k].toNat * 256 + s[k1].toNat) := by
        subst hk1e
        show _ = _
        unfold at2
        rw [List.getD_eq_getElem?_getD, List.getD_eq_getElem?_getD, List.getElem?_eq_getElem (by rw [HL.out]; exact hk0), List.getElem?_eq_getElem (by rw [HL.out]; exact hk1)]
        rfl
      have HK := hideg hk1e
      have HSet : Hid (∀ W, Bx2 AB EB (k, 0) W → Bx2 AB EB (k + 2, 0) (W.setCell ⟨AB, 0, none⟩ (.int .i64 ((k : Int) + 2))) ∧ Bx2 AB EB (k + 2, 2) ((W.setCell ⟨AB, 0, none⟩ (.int .i64 ((k : Int) + 2))).setCell ⟨EB, 0, none⟩ (.int .i64 2))) := by
        intro W B2
        have h1 := one_set (y := .int .i64 ((k : Int) + 2)) B2.a
        have h2 : (W.setCell ⟨AB, 0, none⟩ (.int .i64 ((k : Int) + 2))).heap[EB]? = some (.cells #[.int .i64 0] 26 (0, 0)) := by rw [Below.heap_setCell _ _ _ _ (by show EB ≠ AB; exact fun h => hne h.symm)]; exact B2.e
        exact ⟨⟨h1, h2⟩, ⟨by rw [Below.heap_setCell _ _ _ _ (by show AB ≠ EB; exact hne)]; exact h1, one_set h2⟩⟩
      clear B2 hk1e b0 b1
      generalize s[k].toNat * 256 + s[k1].toNat = v at *
      go_enter Try.func34, Try.ntmps34
      go_wp2_with fail
      go_quiet (fail)
      have hBq : Bx2 AB EB (k, 0) (w.drewN nq) := ⟨HB2.out.a, HB2.out.e⟩
      have hKq : Kn base AB EB w (w.drewN nq) := ⟨below_drewN (Below.refl _ _) nq, rfl, fun _ _ _ => rfl⟩
      clear ca ce fa fe hS HB2
      generalize w.drewN nq = wq at *
      have ca : wq.cell? ⟨AB, 0, none⟩ = some (.int .i64 (k : Int)) := by rw [Lib.cell_of_heap hBq.a]; rfl
      have ce : wq.cell? ⟨EB, 0, none⟩ = some (.int .i64 0) := by rw [Lib.cell_of_heap hBq.e]; rfl
      have fa : wq.frozen? ⟨AB, 0, none⟩ = false := Lib.frozen_of_heap hBq.a 0
      have fe : wq.frozen? ⟨EB, 0, none⟩ = false := Lib.frozen_of_heap hBq.e 0
      obtain ⟨s1, s2⟩ := HSet.out wq hBq
      have hK1 : Kn base AB EB w (wq.setCell ⟨AB, 0, none⟩ (.int .i64 ((k : Int) + 2))) := ⟨hKq.bel.setCell (p := ⟨AB, 0, none⟩) hA _, by rw [← hKq.size]; simp [World.setCell], fun b h1 h2 => by rw [Below.heap_setCell _ _ _ _ (by show b ≠ AB; exact h1)]; exact hKq.blk b h1 h2⟩
      have hK2 : Kn base AB EB w ((wq.setCell ⟨AB, 0, none⟩ (.int .i64 ((k : Int) + 2))).setCell ⟨EB, 0, none⟩ (.int .i64 2)) := ⟨hK1.bel.setCell (p := ⟨EB, 0, none⟩) hE _, by rw [← hK1.size]; simp [World.setCell], fun b h1 h2 => by rw [Below.heap_setCell _ _ _ _ (by show b ≠ EB; exact h2)]; exact hK1.blk b h1 h2⟩
      have HK1 := hideg (⟨s1, hK1⟩ : _ ∧ _)
      have HK2 := hideg (⟨s2, hK2⟩ : _ ∧ _)
      clear hBq hKq s1 s2 hK1 hK2 HSet
      by_cases hv : most < (v : Int)
      · have hvg : (v : Int) > most := hv
        have HR : Hid (nx s.data.toList (k, 0) most = ((k + 2, 2), 0)) := by show _ = _; unfold nx; rw [if_pos rfl, if_pos (by rw [HL.out]; exact hlt), HAt.out, if_pos hv]
        go_wp2
        go_ret
        rw [HR.out]
        exact ⟨rfl, HK2.out⟩
      · have hvg : ¬ ((v : Int) > most) := hv
        have HR : Hid (nx s.data.toList (k, 0) most = ((k + 2, 0), (v : Int))) := by show _ = _; unfold nx; rw [if_pos rfl, if_pos (by rw [HL.out]; exact hlt), HAt.out, if_neg hv]
        go_wp2
        go_ret
        rw [HR.out]
        exact ⟨rfl, HK1.out⟩
    · have hn1 : (k : Int) + 2 > (s.size : Int) := by omega
      have hw2 : IntKind.i64.wrap ((k : Int) + 2) = (k : Int) + 2 := wrap_q _ (by omega) (by omega)
      have HR : Hid (nx s.data.toList (k, 0) most = ((k, 5), 0)) := by show _ = _; unfold nx; rw [if_pos rfl, if_neg (by rw [HL.out]; exact hlt)]
      have HE : Hid (Bx2 AB EB (k, 5) (w.setCell ⟨EB, 0, none⟩ (.int .i64 5)) ∧ Kn base AB EB w (w.setCell ⟨EB, 0, none⟩ (.int .i64 5))) := by
        refine ⟨⟨by rw [Below.heap_setCell _ _ _ _ (by show AB ≠ EB; exact hne)]; exact B2.a, one_set B2.e⟩, ⟨(Below.refl _ _).setCell (p := ⟨EB, 0, none⟩) hE _, by simp [World.setCell], fun b h1 h2 => Below.heap_setCell _ _ _ _ (by show b ≠ EB; exact h2)⟩⟩
      clear B2
      go_enter Try.func34, Try.ntmps34
      go_wp2
      go_ret
      rw [HR.out]
      exact ⟨rfl, HE.out⟩
  · have hen : (e != 0) = true := by simpa using he
    have hen2 : (e == 0) = false := by simpa using he
    have HR : Hid (nx s.data.toList (k, e) most = ((k, e), 0)) := by show _ = _; unfold nx; rw [if_neg he]
    clear B2
    go_enter Try.func34, Try.ntmps34
    go_wp2
    go_ret
    rw [HR.out]
    exact ⟨rfl, HB2.out, ⟨Below.refl _ _, rfl, fun _ _ _ => rfl⟩⟩

end Go.Proofs.Yteibdmfcclkjpad
