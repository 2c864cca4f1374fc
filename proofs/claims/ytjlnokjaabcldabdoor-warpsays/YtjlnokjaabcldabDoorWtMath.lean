/-
  Which messages are there at a time, as a text: other messages, another text. Plain mathematics, without any program.
-/
import Derived.Test.YtjlnokjaabcldabDoorWpMath
import Derived.Test.YtjlnokjaabcldabDoorGText
namespace Go.Proofs.YtjlnokjaabcldabDoor
open Go.Lib

/-- the numbers of messages as a text -/
def wt (is : List Nat) : List UInt8 := is.flatMap fun (i : Nat) => itoa (i : Int) ++ [44]
theorem wt_cons (i : Nat) (is : List Nat) : wt (i :: is) = itoa (i : Int) ++ 44 :: wt is := by simp [wt]
theorem wt_append (a b : List Nat) : wt (a ++ b) = wt a ++ wt b := by simp [wt]
theorem wt_nil {is : List Nat} : wt is = [] ↔ is = [] := by
  cases is with
  | nil => simp [wt]
  | cons i is => rw [wt_cons]; simp
theorem wt_sp (is : List Nat) : sp 44 (wt is) = is.map (fun (i : Nat) => itoa (i : Int)) ++ [[]] := by
  induction is with
  | nil => rfl
  | cons i is ih => rw [wt_cons, sp_ahead _ (itoa_not (by omega) (by decide)), ih]; rfl
theorem itoa_inj {i j : Nat} (hi : i ≤ 9999) (hj : j ≤ 9999) (h : itoa (i : Int) = itoa (j : Int)) : i = j := by
  have h1 := nm_itoa (n := (i : Int)) (by omega) (by omega)
  have h2 := nm_itoa (n := (j : Int)) (by omega) (by omega)
  rw [h, h2, Option.some.injEq] at h1
  omega
theorem map_inj_on {f : Nat → List UInt8} {n : Nat} (hf : ∀ i j, i ≤ n → j ≤ n → f i = f j → i = j) : ∀ {a b : List Nat}, (∀ i ∈ a, i ≤ n) → (∀ i ∈ b, i ≤ n) → a.map f = b.map f → a = b
  | [], [], _, _, _ => rfl
  | [], _ :: _, _, _, h => by simp at h
  | _ :: _, [], _, _, h => by simp at h
  | i :: a, j :: b, ha, hb, h => by
    simp only [List.map_cons, List.cons.injEq] at h
    rw [hf i j (ha i (by simp)) (hb j (by simp)) h.1, map_inj_on hf (fun k hk => ha k (by simp [hk])) (fun k hk => hb k (by simp [hk])) h.2]
theorem wt_inj {a b : List Nat} (ha : ∀ i ∈ a, i ≤ 9999) (hb : ∀ i ∈ b, i ≤ 9999) (h : wt a = wt b) : a = b := by
  have := wt_sp a
  rw [h, wt_sp b] at this
  have := List.append_cancel_right this
  exact (map_inj_on (fun i j hi hj e => itoa_inj hi hj e) hb ha this).symm
/-- the text of the messages of a time -/
def wtx (l : List (Int × Int × Int)) (t : Int) (k : Nat) : List UInt8 := wt (who l t k)
theorem wtx_no {l : List (Int × Int × Int)} {t : Int} {k : Nat} (hk : k < l.length) (h : inP l[k] t = false) : wtx l t (k + 1) = wtx l t k := by
  have hg : l.getD k (0, 0, 0) = l[k] := by simp [List.getD_eq_getElem?_getD, List.getElem?_eq_getElem hk]
  unfold wtx; rw [who_succ, hg, h]; simp
theorem wtx_yes {l : List (Int × Int × Int)} {t : Int} {k : Nat} (hk : k < l.length) (h : inP l[k] t = true) : wtx l t (k + 1) = wtx l t k ++ (itoa (k : Int) ++ [44]) := by
  have hg : l.getD k (0, 0, 0) = l[k] := by simp [List.getD_eq_getElem?_getD, List.getElem?_eq_getElem hk]
  unfold wtx; rw [who_succ, hg, h, if_pos rfl, wt_append, wt_cons]; rfl
theorem wtx_len {l : List (Int × Int × Int)} {t : Int} {k : Nat} (hk : k ≤ 1000) : (wtx l t k).length ≤ 5 * k := by
  induction k with
  | zero => simp [wtx, who, wt]
  | succ k ih =>
    have ih := ih (by omega)
    unfold wtx at ih ⊢
    rw [who_succ]
    split
    · rw [wt_append, List.length_append, wt_cons, List.length_append]
      have := itoa_len (n := (k : Int)) (by omega) 3 (by omega)
      simp [wt] at *
      omega
    · rw [List.append_nil]; omega
theorem wtx_who {l : List (Int × Int × Int)} {s t : Int} {k : Nat} (hk : k ≤ 9999) : wtx l s k = wtx l t k ↔ who l s k = who l t k :=
  ⟨fun h => wt_inj (fun i hi => by have := (mem_who.1 hi).1; omega) (fun i hi => by have := (mem_who.1 hi).1; omega) h, fun h => by unfold wtx; rw [h]⟩
theorem wtx_nil {how : Int} {l : List (Int × Int × Int)} {t : Int} {k : Nat} (hk : k ≤ l.length) : wtx l t k = [] ↔ mix how (l.take k) t = none := by
  unfold wtx
  rw [wt_nil]
  induction k with
  | zero => simp [who, mix]
  | succ k ih =>
    have ih := ih (by omega)
    have hg : l.getD k (0, 0, 0) = l[k] := by simp [List.getD_eq_getElem?_getD, List.getElem?_eq_getElem (show k < l.length by omega)]
    rw [who_succ, mix_take (by omega), hg]
    cases inP l[k] t with
    | true =>
      simp only [if_pos]
      constructor
      · intro h; simp at h
      · intro h; have := mixO_some how (mix how (l.take k) t) l[k].2.2; rw [h] at this; cases this
    | false => simpa using ih

end Go.Proofs.YtjlnokjaabcldabDoor
