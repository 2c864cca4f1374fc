/-
  What slices.Reverse of hops does.
-/
import Derived.Test.YtjjhhmlogddnkaiDoorErB
namespace Go.Proofs.YtjjhhmlogddnkaiDoor
open Go.RowKit

/-- the first k and the last k of a list are turned round -/
def RevTo (l m : List Hp) (k : Nat) : Prop := m.length = l.length ∧ ∀ x, x < l.length → m.getD x (0, 0) = if x < k ∨ l.length ≤ x + k then l.getD (l.length - 1 - x) (0, 0) else l.getD x (0, 0)
theorem revTo_zero (l : List Hp) : RevTo l l 0 := ⟨rfl, fun x hx => by rw [if_neg (by omega)]⟩
theorem getD_setH (T : List Hp) (i j : Nat) (x d : Hp) (h : i < T.length) : (T.set i x).getD j d = if j = i then x else T.getD j d := by
  simp only [List.getD_eq_getElem?_getD, List.getElem?_set]
  by_cases e : i = j
  · subst e; simp [h]
  · have : ¬ j = i := fun h => e h.symm
    simp [e, this]
theorem revTo_step {l m : List Hp} {k J : Nat} (h : RevTo l m k) (hJ : J = l.length - 1 - k) (hk : k < J) : RevTo l ((m.set k (m.getD J (0, 0))).set J (m.getD k (0, 0))) (k + 1) := by
  have hl := h.1
  refine ⟨by simp [hl], fun x hx => ?_⟩
  rw [getD_setH _ _ _ _ _ (by simp [hl]; omega), getD_setH _ _ _ _ _ (by omega)]
  by_cases e1 : x = J
  · rw [if_pos e1, h.2 k (by omega), if_neg (by omega), if_pos (by omega)]
    congr 1; omega
  · rw [if_neg e1]
    by_cases e2 : x = k
    · rw [if_pos e2, h.2 J (by omega), if_neg (by omega), if_pos (by omega)]
      congr 1; omega
    · rw [if_neg e2, h.2 x hx]
      by_cases e3 : x < k ∨ l.length ≤ x + k
      · rw [if_pos e3, if_pos (by omega)]
      · rw [if_neg e3, if_neg (by omega)]
theorem revTo_end {l m : List Hp} {k : Nat} (h : RevTo l m k) (hk : l.length ≤ k + k + 1) : m = l.reverse := by
  apply List.ext_getElem (by simp [h.1])
  intro x h1 h2
  have hx : x < l.length := by rw [← h.1]; exact h1
  have := h.2 x hx
  rw [List.getD_eq_getElem?_getD, List.getElem?_eq_getElem h1, Option.getD_some] at this
  rw [this, List.getElem_reverse]
  have e : ∀ y (hy : y < l.length), l.getD y (0, 0) = l[y] := fun y hy => by rw [List.getD_eq_getElem?_getD, List.getElem?_eq_getElem hy]; rfl
  split
  · exact e _ (by omega)
  · rw [e x hx]
    congr 1
    omega
theorem encs_cons (x : Hp) (l : List Hp) : encs (x :: l) = .int .i64 x.1 :: .int .i64 x.2 :: encs l := by simp [encs, flat]
theorem encs_set : ∀ (m : List Hp) (k : Nat) (q : Hp), k < m.length → ((encs m).set (k * 2) (.int .i64 q.1)).set (k * 2 + 1) (.int .i64 q.2) = encs (m.set k q)
  | [], k, q, h => by simp at h
  | x :: m, 0, q, _ => by
    have e : (x :: m).set 0 q = q :: m := rfl
    rw [e, encs_cons, encs_cons]; rfl
  | x :: m, k + 1, q, h => by
    have ih := encs_set m k q (by simpa using h)
    have e : (x :: m).set (k + 1) q = x :: m.set k q := rfl
    rw [e, encs_cons, encs_cons, ← ih, show (k + 1) * 2 = k * 2 + 1 + 1 from by omega]
    rfl
/-- a row of hops, in memory of the call's own -/
abbrev Ho (w : World) (base gb n cap : Nat) (x : List Hp) : Prop := w.ownsRow base 43 2 (.slice (some ⟨gb, 0, none⟩) n cap) n (encs x)
theorem encs_len (l : List Hp) : (encs l).length = l.length * 2 := by
  induction l with
  | nil => rfl
  | cons x l ih => rw [encs_cons]; simp only [List.length_cons, ih]; omega
theorem Ho.len {w : World} {base gb n cap : Nat} {x : List Hp} (h : Ho w base gb n cap x) : x.length = n := by have := h.1; rw [encs_len] at this; omega
theorem encs_get (l : List Hp) (j : Nat) (h : j < l.length) : (encs l)[j * 2]? = some (.int .i64 (l.getD j (0, 0)).1) ∧ (encs l)[j * 2 + 1]? = some (.int .i64 (l.getD j (0, 0)).2) := by
  induction l generalizing j with
  | nil => simp at h
  | cons c l ih =>
    rw [encs_cons]
    cases j with
    | zero => exact ⟨rfl, rfl⟩
    | succ j =>
      have := ih j (by simpa using h)
      rw [show (j + 1) * 2 = j * 2 + 1 + 1 by omega]
      simpa using this
theorem Ho.one {w : World} {base gb n cap : Nat} {x : List Hp} (h : Ho w base gb n cap x) {k : Nat} (hk : k < n) : w.cell? ⟨gb, k * 2, none⟩ = some (.int .i64 (x.getD k (0, 0)).1) ∧ w.cell? ⟨gb, k * 2 + 1, none⟩ = some (.int .i64 (x.getD k (0, 0)).2) := by
  have hl := h.len
  obtain ⟨f0, f1⟩ := encs_get x k (by omega)
  exact ⟨by rw [World.ownsRow.cellAt h (k * 2) (by omega)]; exact f0, by rw [World.ownsRow.cellAt h (k * 2 + 1) (by omega)]; exact f1⟩
theorem Ho.set {w : World} {base gb n cap : Nat} {x : List Hp} (h : Ho w base gb n cap x) {k : Nat} (hk : k < n) (q : Hp) : Ho ((w.setCell ⟨gb, k * 2, none⟩ (.int .i64 q.1)).setCell ⟨gb, k * 2 + 1, none⟩ (.int .i64 q.2)) base gb n cap (x.set k q) := by
  have hl := h.len
  have h5 := (World.ownsRow.stored ((World.ownsRow.stored h (k * 2) (.int .i64 q.1)).1) (k * 2 + 1) (.int .i64 q.2)).1
  rw [encs_set x k q (by omega)] at h5
  exact h5

set_option maxRecDepth 100000 in
set_option maxHeartbeats 1000000 in
theorem Reverse_any (base gb cap : Nat) (l : List Hp) (w : World) (h : Ho w base gb l.length cap l) (hl : l.length ≤ 4000) :
    Calls Tryd.prog 22 #[.slice (some ⟨gb, 0, none⟩) l.length cap] w fun r w' => (∃ v, r = .returned v) ∧ Ho w' base gb l.length cap l.reverse ∧ Below base w w' := by
  have hbg : base ≤ gb := (World.ownsRow.lt h _ rfl).1
  have hwl : IntKind.i64.wrap ((l.length : Int) - 1) = (l.length : Int) - 1 := wrap_nj _ (by omega) (by omega)
  have HH := hideg h
  clear h
  go_enter Tryd.func22, Tryd.ntmps22
  go_wp2_with fail
  go_loopw [2, 3] (fun i j wr => ∃ (k : Nat) (m : List Hp), k ≤ l.length ∧ i = .int .i64 k ∧ j = .int .i64 ((l.length : Int) - 1 - (k : Int)) ∧ RevTo l m k ∧ Ho wr base gb l.length cap m ∧ Below base w wr) (fun i j _ => (intOf j + 1 - intOf i).toNat)
  case atStart => exact ⟨0, l, Nat.zero_le _, rfl, by simp, revTo_zero l, HH.out, Below.refl _ _⟩
  case round =>
    clear HH hwl
    obtain ⟨k, m, hk, rfl, rfl, hR, hO, hb⟩ := hrel
    have hml := hO.len
    by_cases hkJ : (k : Int) < (l.length : Int) - 1 - (k : Int)
    · obtain ⟨J, hJ⟩ : ∃ J : Nat, J = l.length - 1 - k := ⟨_, rfl⟩
      have hJi : (l.length : Int) - 1 - (k : Int) = (J : Int) := by omega
      have HJn : Hid ((J : Int) - 1 = (l.length : Int) - 1 - ((k + 1 : Nat) : Int)) := by show _ = _; omega
      have hkJn : k < J := by omega
      have hkl : k < l.length := by omega
      have hJl : J < l.length := by omega
      rw [hJi] at hkJ ⊢
      have HR2 := hideg (revTo_step hR hJ hkJn)
      have hO1 := hideg (fun (p q : Hp) => (hO.set hkl p).set hJl q)
      obtain ⟨ck0, ck1⟩ := hO.one hkl
      obtain ⟨cj0, cj1⟩ := hO.one hJl
      have fz := fun j => World.ownsRow.frozenAt hO j
      have hkli : (k : Int) < (l.length : Int) := by omega
      have hJli : (J : Int) < (l.length : Int) := by omega
      have hw1 : IntKind.i64.wrap ((k : Int) + 1) = (k : Int) + 1 := wrap_nj _ (by omega) (by omega)
      have hw2 : IntKind.i64.wrap ((J : Int) - 1) = (J : Int) - 1 := wrap_nj _ (by omega) (by omega)
      generalize m.getD k (0, 0) = P at *
      generalize m.getD J (0, 0) = Q at *
      clear hJ hJi hR
      have hBel : Hid (∀ x y z v, Below base w ((((wr.setCell ⟨gb, k * 2, none⟩ x).setCell ⟨gb, k * 2 + 1, none⟩ y).setCell ⟨gb, J * 2, none⟩ z).setCell ⟨gb, J * 2 + 1, none⟩ v).drew) := fun x y z v => ((((hb.setCell (p := ⟨gb, k * 2, none⟩) hbg x).setCell (p := ⟨gb, k * 2 + 1, none⟩) hbg y).setCell (p := ⟨gb, J * 2, none⟩) hbg z).setCell (p := ⟨gb, J * 2 + 1, none⟩) hbg v).drew
      obtain ⟨p1, p2⟩ := P
      obtain ⟨q1, q2⟩ := Q
      simp only at ck0 ck1 cj0 cj1 HR2
      go_wp2_with fail
      go_region
      have HF : Hid (Ho ((((wr.setCell ⟨gb, k * 2, none⟩ (.int .i64 q1)).setCell ⟨gb, k * 2 + 1, none⟩ (.int .i64 q2)).setCell ⟨gb, J * 2, none⟩ (.int .i64 p1)).setCell ⟨gb, J * 2 + 1, none⟩ (.int .i64 p2)).drew base gb l.length cap ((m.set k (q1, q2)).set J (p1, p2)) ∧ Below base w ((((wr.setCell ⟨gb, k * 2, none⟩ (.int .i64 q1)).setCell ⟨gb, k * 2 + 1, none⟩ (.int .i64 q2)).setCell ⟨gb, J * 2, none⟩ (.int .i64 p1)).setCell ⟨gb, J * 2 + 1, none⟩ (.int .i64 p2)).drew) := ⟨(hO1.out (q1, q2) (p1, p2)).drew, hBel.out _ _ _ _⟩
      clear hO1 hBel hO fz ck0 ck1 cj0 cj1
      generalize ((((wr.setCell ⟨gb, k * 2, none⟩ (.int .i64 q1)).setCell ⟨gb, k * 2 + 1, none⟩ (.int .i64 q2)).setCell ⟨gb, J * 2, none⟩ (.int .i64 p1)).setCell ⟨gb, J * 2 + 1, none⟩ (.int .i64 p2)).drew = w9 at *
      go_wp2
      go_roundw
      case rel => exact ⟨k + 1, _, by omega, by go_num, by rw [← HJn.out], HR2.out, HF.out.1, HF.out.2⟩
      case measure => simp [intOf] <;> omega
    · have hend : l.length ≤ k + k + 1 := by omega
      have HE : Hid (Ho wr base gb l.length cap l.reverse) := by rw [← revTo_end hR hend]; exact hO
      have hnk : ¬ (k : Int) < (l.length : Int) - 1 - (k : Int) := hkJ
      clear hR hO hend
      go_wp2_with fail
      refine bodyPost_end (results_none rfl _ _ _) rfl ⟨⟨_, rfl⟩, HE.out, hb⟩

set_option maxRecDepth 100000 in
theorem Reverse_nil (w : World) : Calls Tryd.prog 22 #[.slice none 0 0] w fun r w' => (∃ v, r = .returned v) ∧ w' = w := by
  go_enter Tryd.func22, Tryd.ntmps22
  go_wp2_with fail
  go_loopw [2, 3] (fun i j wr => i = .int .i64 0 ∧ j = .int .i64 (-1) ∧ wr = w) (fun i j _ => (intOf j + 1 - intOf i).toNat)
  case atStart => exact ⟨rfl, by simp, rfl⟩
  case round =>
    obtain ⟨rfl, rfl, rfl⟩ := hrel
    go_wp2_with fail
    refine bodyPost_end (results_none rfl _ _ _) rfl ⟨⟨_, rfl⟩, rfl⟩

end Go.Proofs.YtjjhhmlogddnkaiDoor
