/-
  Several texts in one: SpMath, GMath, SnMath, JnMath, SuMath, JpMath, ErMath, ErOut, ChMath, Math, Sets, Base, Gby, ChMap.
-/
import Derived.Test.YtanbbkoleekmjaiRows
import Derived.WalkKit
import Derived.WalkSpells
import Derived.WalkLawsBesides
import Derived.Maps.OwnSet
import Derived.DeepKeys4

namespace Go.Proofs.Ytanbbkoleekmjai

/-- an arc: from, to, cost -/
abbrev Ac := Int × Int × Int
/-- what is told of a vertex -/
def vat (x : List Int) (v : Int) : Int := x.getD v.toNat 0

/-- numbers that no arc makes less, none above what is told at first -/
structure Adm (first : List Int) (arcs : List Ac) (p : Ac → Int) (y : Nat → Int) : Prop where
  le : ∀ v, v < first.length → y v ≤ first.getD v 0
  cl : ∀ a ∈ arcs, y a.2.1.toNat ≤ y a.1.toNat + p a
/-- what is told on the way -/
structure Mid (first : List Int) (arcs : List Ac) (p : Ac → Int) (x : List Int) : Prop where
  len : x.length = first.length
  le : ∀ v, v < first.length → x.getD v 0 ≤ first.getD v 0
  most : ∀ y, Adm first arcs p y → ∀ v, v < first.length → y v ≤ x.getD v 0
/-- what is told in the end -/
structure Best (first : List Int) (arcs : List Ac) (p : Ac → Int) (x : List Int) : Prop where
  mid : Mid first arcs p x
  cl : ∀ a ∈ arcs, vat x a.2.1 ≤ vat x a.1 + p a

theorem mid_start (first : List Int) (arcs : List Ac) (p : Ac → Int) : Mid first arcs p first := ⟨rfl, fun _ _ => Int.le_refl _, fun _ h v hv => h.le v hv⟩
theorem getD_set (x : List Int) (k v : Nat) (m : Int) (hk : k < x.length) : (x.set k m).getD v 0 = if v = k then m else x.getD v 0 := by
  simp only [List.getD_eq_getElem?_getD, List.getElem?_set]
  by_cases h : k = v
  · subst h; simp [hk]
  · have : ¬ v = k := fun e => h e.symm
    simp [h, this]
theorem mid_set {first : List Int} {arcs : List Ac} {p : Ac → Int} {x : List Int} {k : Nat} {m : Int} (h : Mid first arcs p x) (hk : k < first.length) (hm : m ≤ x.getD k 0) (ha : ∀ y, Adm first arcs p y → y k ≤ m) : Mid first arcs p (x.set k m) := by
  have hk' : k < x.length := by rw [h.len]; exact hk
  refine ⟨by rw [List.length_set]; exact h.len, fun v hv => ?_, fun y hy v hv => ?_⟩
  · rw [getD_set _ _ _ _ hk']
    by_cases e : v = k
    · rw [if_pos e]; subst e; exact Int.le_trans hm (h.le v hv)
    · rw [if_neg e]; exact h.le v hv
  · rw [getD_set _ _ _ _ hk']
    by_cases e : v = k
    · rw [if_pos e]; subst e; exact ha y hy
    · rw [if_neg e]; exact h.most y hy v hv
/-- an arc's ends are vertices -/
def EndsIn (n : Nat) (arcs : List Ac) : Prop := ∀ a ∈ arcs, 0 ≤ a.1 ∧ a.1 < n ∧ 0 ≤ a.2.1 ∧ a.2.1 < n
/-- what an arc tells is no less than what may be told -/
theorem mid_arc {first : List Int} {arcs : List Ac} {p : Ac → Int} {x : List Int} {a : Ac} (h : Mid first arcs p x) (ha : a ∈ arcs) (hE : EndsIn first.length arcs) : ∀ y, Adm first arcs p y → y a.2.1.toNat ≤ vat x a.1 + p a := by
  intro y hy
  have h1 := hy.cl a ha
  have h2 := h.most y hy a.1.toNat (by have := hE a ha; omega)
  unfold vat; omega
theorem best_le {first : List Int} {arcs : List Ac} {p : Ac → Int} {x x' : List Int} (h : Best first arcs p x) (h' : Mid first arcs p x') : ∀ v, v < first.length → x.getD v 0 ≤ x'.getD v 0 :=
  h'.most (fun v => x.getD v 0) ⟨h.mid.le, h.cl⟩
theorem best_unique {first : List Int} {arcs : List Ac} {p : Ac → Int} {x x' : List Int} (h : Best first arcs p x) (h' : Best first arcs p x') : x = x' := by
  apply List.ext_getElem (by rw [h.mid.len, h'.mid.len])
  intro i h1 h2
  have a := best_le h h'.mid i (by rw [← h.mid.len]; exact h1)
  have b := best_le h' h.mid i (by rw [← h.mid.len]; exact h1)
  simp only [List.getD_eq_getElem?_getD, List.getElem?_eq_getElem h1, List.getElem?_eq_getElem h2, Option.getD_some] at a b
  omega
/-- other arcs that tell the same -/
theorem best_arcs {first : List Int} {arcs arcs' : List Ac} {p p' : Ac → Int} {x : List Int} (h : Best first arcs p x) (hs : ∀ y : Nat → Int, (∀ a ∈ arcs, y a.2.1.toNat ≤ y a.1.toNat + p a) ↔ ∀ a ∈ arcs', y a.2.1.toNat ≤ y a.1.toNat + p' a) : Best first arcs' p' x :=
  ⟨⟨h.mid.len, h.mid.le, fun y hy => h.mid.most y ⟨hy.le, (hs y).2 hy.cl⟩⟩, (hs fun v => x.getD v 0).1 h.cl⟩
theorem mid_arcs {first : List Int} {arcs arcs' : List Ac} {p p' : Ac → Int} {x : List Int} (h : Mid first arcs p x) (hs : ∀ y : Nat → Int, (∀ a ∈ arcs, y a.2.1.toNat ≤ y a.1.toNat + p a) ↔ ∀ a ∈ arcs', y a.2.1.toNat ≤ y a.1.toNat + p' a) : Mid first arcs' p' x :=
  ⟨h.len, h.le, fun y hy => h.most y ⟨hy.le, (hs y).2 hy.cl⟩⟩

/-- numbers of a first row and prices that are fine -/
structure Fine (first : List Int) (arcs : List Ac) (p : Ac → Int) : Prop where
  lo : ∀ v, v < first.length → 0 ≤ first.getD v 0
  hi : ∀ v, v < first.length → first.getD v 0 ≤ 1099511627776
  pl : ∀ a ∈ arcs, 0 ≤ p a ∧ p a ≤ 1000
  en : EndsIn first.length arcs
theorem Mid.lo {first : List Int} {arcs : List Ac} {p : Ac → Int} {x : List Int} (h : Mid first arcs p x) (f : Fine first arcs p) (v : Nat) (hv : v < first.length) : 0 ≤ x.getD v 0 :=
  h.most (fun _ => 0) ⟨f.lo, fun a ha => by have := f.pl a ha; show (0 : Int) ≤ 0 + p a; omega⟩ v hv
theorem Mid.hi {first : List Int} {arcs : List Ac} {p : Ac → Int} {x : List Int} (h : Mid first arcs p x) (f : Fine first arcs p) (v : Nat) (hv : v < first.length) : x.getD v 0 ≤ 1099511627776 := Int.le_trans (h.le v hv) (f.hi v hv)
theorem Mid.bounds {first : List Int} {arcs : List Ac} {p : Ac → Int} {x : List Int} (h : Mid first arcs p x) (f : Fine first arcs p) : ∀ z ∈ x, 0 ≤ z ∧ z ≤ 1099511627776 := by
  intro z hz
  obtain ⟨i, hi, rfl⟩ := List.getElem_of_mem hz
  have a := h.lo f i (by rw [← h.len]; exact hi)
  have b := h.hi f i (by rw [← h.len]; exact hi)
  simp only [List.getD_eq_getElem?_getD, List.getElem?_eq_getElem hi, Option.getD_some] at a b
  exact ⟨a, b⟩

/-- how much there is in all -/
def msum : List Int → Nat
  | [] => 0
  | z :: l => z.toNat + msum l
theorem msum_set : ∀ (x : List Int) (k : Nat) (m : Int), 0 ≤ m → k < x.length → m < x.getD k 0 → msum (x.set k m) < msum x
  | [], _, _, _, h, _ => by simp at h
  | z :: l, 0, m, h0, _, h => by simp at h; simp [msum]; omega
  | z :: l, k + 1, m, h0, hk, h => by
    have := msum_set l k m h0 (by simpa using hk) (by simpa using h)
    simp [msum]; omega
theorem msum_le : ∀ (x y : List Int), x.length = y.length → (∀ v, v < x.length → x.getD v 0 ≤ y.getD v 0) → msum x ≤ msum y
  | [], [], _, _ => Nat.le_refl _
  | a :: x, [], h, _ => by simp at h
  | [], b :: y, h, _ => by simp at h
  | a :: x, b :: y, h, hl => by
    have h1 := msum_le x y (by simpa using h) (fun v hv => by have := hl (v + 1) (by simpa using hv); simpa using this)
    have h2 := hl 0 (by simp)
    simp at h2
    simp [msum]; omega
theorem msum_lt : ∀ (x y : List Int), x.length = y.length → (∀ z ∈ x, 0 ≤ z) → (∀ v, v < x.length → x.getD v 0 ≤ y.getD v 0) → x ≠ y → msum x < msum y
  | [], [], _, _, _, h => absurd rfl h
  | a :: x, [], h, _, _, _ => by simp at h
  | [], b :: y, h, _, _, _ => by simp at h
  | a :: x, b :: y, h, h0, hl, hn => by
    have h2 := hl 0 (by simp)
    simp at h2
    have ha : 0 ≤ a := h0 a (by simp)
    have hl' : ∀ v, v < x.length → x.getD v 0 ≤ y.getD v 0 := fun v hv => by have := hl (v + 1) (by simpa using hv); simpa using this
    by_cases e : x = y
    · subst e
      have : a ≠ b := fun h => hn (by rw [h])
      simp [msum]; omega
    · have h1 := msum_lt x y (by simpa using h) (fun z hz => h0 z (by simp [hz])) hl' e
      simp [msum]; omega
theorem msum_bound : ∀ (x : List Int), (∀ z ∈ x, z ≤ 1099511627776) → msum x ≤ x.length * 1099511627776
  | [], _ => by simp [msum]
  | a :: x, h => by
    have h1 := msum_bound x (fun z hz => h z (by simp [hz]))
    have h2 := h a (by simp)
    simp only [msum, List.length_cons]; omega

/-- one arc of the program's way: what is told at once is told on -/
def Seen (arcs : List Ac) (p : Ac → Int) (x : List Int) (i : Nat) : Prop := ∀ j, (h : j < arcs.length) → j < i → vat x arcs[j].2.1 ≤ vat x arcs[j].1 + p arcs[j]
/-- a round of the program: x at its begin, z behind i arcs; ch: has something turned? -/
structure Turn (first : List Int) (arcs : List Ac) (p : Ac → Int) (x z : List Int) (ch : Bool) (i : Nat) : Prop where
  mid : Mid first arcs p z
  same : ch = false → z = x ∧ Seen arcs p x i
  less : ch = true → msum z < msum x
theorem turn_start {first : List Int} {arcs : List Ac} {p : Ac → Int} {x : List Int} (h : Mid first arcs p x) : Turn first arcs p x x false 0 := ⟨h, fun _ => ⟨rfl, fun _ _ h => by omega⟩, fun h => by simp at h⟩
theorem turn_stay {first : List Int} {arcs : List Ac} {p : Ac → Int} {x z : List Int} {ch : Bool} {i : Nat} (T : Turn first arcs p x z ch i) (hi : i < arcs.length) (hn : ¬ vat z arcs[i].1 + p arcs[i] < vat z arcs[i].2.1) : Turn first arcs p x z ch (i + 1) := by
  refine ⟨T.mid, fun h => ⟨(T.same h).1, fun j hj hji => ?_⟩, T.less⟩
  by_cases e : j = i
  · subst e; rw [← (T.same h).1]; omega
  · exact (T.same h).2 j hj (by omega)
theorem turn_less {first : List Int} {arcs : List Ac} {p : Ac → Int} {x z : List Int} {ch : Bool} {i : Nat} (f : Fine first arcs p) (T : Turn first arcs p x z ch i) (hi : i < arcs.length) (hn : vat z arcs[i].1 + p arcs[i] < vat z arcs[i].2.1) : Turn first arcs p x (z.set arcs[i].2.1.toNat (vat z arcs[i].1 + p arcs[i])) true (i + 1) := by
  have hm : arcs[i] ∈ arcs := List.getElem_mem hi
  have he := f.en _ hm
  have hp := f.pl _ hm
  have hB : arcs[i].2.1.toNat < first.length := by omega
  have h0 : 0 ≤ vat z arcs[i].1 := T.mid.lo f _ (by omega)
  have hs := msum_set z arcs[i].2.1.toNat (vat z arcs[i].1 + p arcs[i]) (by omega) (by rw [T.mid.len]; exact hB) hn
  refine ⟨mid_set T.mid hB (by unfold vat at hn ⊢; omega) (mid_arc T.mid hm f.en), fun h => by simp at h, fun _ => ?_⟩
  cases hc : ch
  · rw [(T.same hc).1] at hs ⊢; exact hs
  · exact Nat.lt_trans hs (T.less hc)
theorem turn_end {first : List Int} {arcs : List Ac} {p : Ac → Int} {x z : List Int} (T : Turn first arcs p x z false arcs.length) : Best first arcs p z := by
  obtain ⟨rfl, hs⟩ := T.same rfl
  refine ⟨T.mid, fun a ha => ?_⟩
  obtain ⟨i, hi, rfl⟩ := List.getElem_of_mem ha
  exact hs i hi hi

/-- one arc of the reference's round: x at its begin, z so far -/
def rel1 (p : Ac → Int) (back : Bool) (x z : List Int) (a : Ac) : List Int :=
  let z1 := z.set a.2.1.toNat (min (vat z a.2.1) (vat x a.1 + p a))
  if back = true then z1.set a.1.toNat (min (vat z1 a.1) (vat x a.2.1 + p a)) else z1
/-- a round of the reference -/
def rnd (arcs : List Ac) (p : Ac → Int) (back : Bool) (x : List Int) : List Int := arcs.foldl (rel1 p back x) x
/-- some rounds -/
def rnds (arcs : List Ac) (p : Ac → Int) (back : Bool) : Nat → List Int → List Int
  | 0, x => x
  | k + 1, x => rnd arcs p back (rnds arcs p back k x)
/-- the arcs both ways round -/
def bothW (arcs : List Ac) : List Ac := arcs.flatMap fun a => [a, (a.2.1, a.1, a.2.2)]
def ways (back : Bool) (arcs : List Ac) : List Ac := if back = true then bothW arcs else arcs
theorem mem_both {arcs : List Ac} {b : Ac} : b ∈ bothW arcs ↔ ∃ a ∈ arcs, b = a ∨ b = (a.2.1, a.1, a.2.2) := by simp [bothW]
/-- a price that is the same either way round -/
def Even (p : Ac → Int) : Prop := ∀ a : Ac, p (a.2.1, a.1, a.2.2) = p a
theorem both_take (arcs : List Ac) (k : Nat) (hk : k < arcs.length) : bothW (arcs.take (k + 1)) = bothW (arcs.take k) ++ [arcs[k], (arcs[k].2.1, arcs[k].1, arcs[k].2.2)] := by
  unfold bothW
  rw [List.take_succ_eq_append_getElem hk, List.flatMap_append, List.flatMap_singleton]
theorem both_length : ∀ arcs : List Ac, (bothW arcs).length = arcs.length * 2
  | [] => rfl
  | a :: l => by
    have := both_length l
    unfold bothW at this ⊢
    rw [List.flatMap_cons, List.length_append, this]; simp; omega

theorem rel1_length (p : Ac → Int) (back : Bool) (x z : List Int) (a : Ac) : (rel1 p back x z a).length = z.length := by
  unfold rel1; cases back <;> simp
theorem foldl_rel1_length (p : Ac → Int) (back : Bool) (x : List Int) : ∀ (l : List Ac) (z : List Int), (l.foldl (rel1 p back x) z).length = z.length
  | [], _ => rfl
  | a :: l, z => by rw [List.foldl_cons, foldl_rel1_length p back x l, rel1_length]
theorem rnd_length (arcs : List Ac) (p : Ac → Int) (back : Bool) (x : List Int) : (rnd arcs p back x).length = x.length := foldl_rel1_length _ _ _ _ _
theorem rnds_length (arcs : List Ac) (p : Ac → Int) (back : Bool) : ∀ (k : Nat) (x : List Int), (rnds arcs p back k x).length = x.length
  | 0, _ => rfl
  | k + 1, x => by rw [rnds, rnd_length, rnds_length arcs p back k]
theorem fold_take (arcs : List Ac) (p : Ac → Int) (back : Bool) (x : List Int) (i : Nat) (hi : i < arcs.length) : (arcs.take (i + 1)).foldl (rel1 p back x) x = rel1 p back x ((arcs.take i).foldl (rel1 p back x) x) arcs[i] := by
  rw [List.take_succ_eq_append_getElem hi, List.foldl_append]; rfl

/-- what holds while a round of the reference goes on -/
structure Rn (first : List Int) (arcs : List Ac) (p : Ac → Int) (back : Bool) (x z : List Int) (i : Nat) : Prop where
  mid : Mid first (ways back arcs) p z
  le : ∀ v, v < first.length → z.getD v 0 ≤ x.getD v 0
  told : ∀ j, (h : j < arcs.length) → j < i → vat z arcs[j].2.1 ≤ vat x arcs[j].1 + p arcs[j] ∧ (back = true → vat z arcs[j].1 ≤ vat x arcs[j].2.1 + p arcs[j])
theorem mem_ways {back : Bool} {arcs : List Ac} {a : Ac} (h : a ∈ arcs) : a ∈ ways back arcs ∧ (back = true → (a.2.1, a.1, a.2.2) ∈ ways back arcs) := by
  unfold ways
  cases back
  · exact ⟨h, fun h => by simp at h⟩
  · exact ⟨mem_both.2 ⟨a, h, .inl rfl⟩, fun _ => mem_both.2 ⟨a, h, .inr rfl⟩⟩
theorem rn_start {first : List Int} {arcs : List Ac} {p : Ac → Int} {back : Bool} {x : List Int} (h : Mid first (ways back arcs) p x) : Rn first arcs p back x x 0 := ⟨h, fun _ _ => Int.le_refl _, fun _ _ h => by omega⟩
theorem vat_set {x : List Int} {k : Nat} {m v : Int} (hk : k < x.length) : vat (x.set k m) v = if v.toNat = k then m else vat x v := by unfold vat; exact getD_set _ _ _ _ hk
theorem rn_next {first : List Int} {arcs : List Ac} {p : Ac → Int} {back : Bool} {x z : List Int} {i : Nat} (f : Fine first (ways back arcs) p) (he : back = true → Even p) (hx : Mid first (ways back arcs) p x) (R : Rn first arcs p back x z i) (hi : i < arcs.length) : Rn first arcs p back x (rel1 p back x z arcs[i]) (i + 1) := by
  have hm : arcs[i] ∈ arcs := List.getElem_mem hi
  obtain ⟨hw, hw2⟩ := mem_ways (back := back) hm
  have en := f.en _ hw
  have k1 : arcs[i].2.1.toNat < first.length := by omega
  have k2 : arcs[i].1.toNat < first.length := by omega
  have M1 : Mid first (ways back arcs) p (z.set arcs[i].2.1.toNat (min (vat z arcs[i].2.1) (vat x arcs[i].1 + p arcs[i]))) := by
    refine mid_set R.mid k1 (by unfold vat; omega) (fun y hy => ?_)
    have h1 := mid_arc hx hw f.en y hy
    have h2 := R.mid.most y hy _ k1
    unfold vat at h1 ⊢; omega
  have L1 : ∀ v, v < first.length → (z.set arcs[i].2.1.toNat (min (vat z arcs[i].2.1) (vat x arcs[i].1 + p arcs[i]))).getD v 0 ≤ z.getD v 0 := by
    intro v hv
    rw [getD_set _ _ _ _ (by rw [R.mid.len]; exact k1)]
    by_cases e : v = arcs[i].2.1.toNat
    · rw [if_pos e, e]; unfold vat; omega
    · rw [if_neg e]; exact Int.le_refl _
  have V1 : vat (z.set arcs[i].2.1.toNat (min (vat z arcs[i].2.1) (vat x arcs[i].1 + p arcs[i]))) arcs[i].2.1 ≤ vat x arcs[i].1 + p arcs[i] := by
    rw [vat_set (by rw [R.mid.len]; exact k1), if_pos rfl]; omega
  unfold rel1
  generalize z.set arcs[i].2.1.toNat (min (vat z arcs[i].2.1) (vat x arcs[i].1 + p arcs[i])) = z1 at M1 L1 V1 ⊢
  have T1 : ∀ j, (h : j < arcs.length) → j < i + 1 → vat z1 arcs[j].2.1 ≤ vat x arcs[j].1 + p arcs[j] := by
    intro j hj hji
    by_cases e : j = i
    · subst e; exact V1
    · have hj2 := mem_ways (back := back) (List.getElem_mem hj)
      have := (R.told j hj (by omega)).1
      have h3 := L1 arcs[j].2.1.toNat (by have := f.en _ hj2.1; omega)
      unfold vat at this ⊢; omega
  cases back
  · simp only [Bool.false_eq_true, if_false]
    exact ⟨M1, fun v hv => Int.le_trans (L1 v hv) (R.le v hv), fun j hj hji => ⟨T1 j hj hji, fun h => by simp at h⟩⟩
  · simp only [if_true]
    have hev := he rfl
    have L2 : ∀ v, v < first.length → (z1.set arcs[i].1.toNat (min (vat z1 arcs[i].1) (vat x arcs[i].2.1 + p arcs[i]))).getD v 0 ≤ z1.getD v 0 := by
      intro v hv
      rw [getD_set _ _ _ _ (by rw [M1.len]; exact k2)]
      by_cases e : v = arcs[i].1.toNat
      · rw [if_pos e, e]; unfold vat; omega
      · rw [if_neg e]; exact Int.le_refl _
    refine ⟨mid_set M1 k2 (by unfold vat; omega) (fun y hy => ?_), fun v hv => Int.le_trans (L2 v hv) (Int.le_trans (L1 v hv) (R.le v hv)), fun j hj hji => ⟨?_, fun _ => ?_⟩⟩
    · have h1 := mid_arc hx (hw2 rfl) f.en y hy
      have h2 := M1.most y hy _ k2
      simp only [hev arcs[i]] at h1
      unfold vat at h1 ⊢; omega
    · have h1 := T1 j hj hji
      have hj2 := mem_ways (back := true) (List.getElem_mem hj)
      have h3 := L2 arcs[j].2.1.toNat (by have := f.en _ hj2.1; omega)
      unfold vat at h1 h3 ⊢; omega
    · by_cases e : j = i
      · subst e; rw [vat_set (by rw [M1.len]; exact k2), if_pos rfl]; omega
      · have hj2 := mem_ways (back := true) (List.getElem_mem hj)
        have h1 := (R.told j hj (by omega)).2 rfl
        have h4 := L1 arcs[j].1.toNat (by have := f.en _ hj2.1; omega)
        have h3 := L2 arcs[j].1.toNat (by have := f.en _ hj2.1; omega)
        unfold vat at h1 h3 h4 ⊢; omega
theorem rn_fold {first : List Int} {arcs : List Ac} {p : Ac → Int} {back : Bool} {x : List Int} (f : Fine first (ways back arcs) p) (he : back = true → Even p) (hx : Mid first (ways back arcs) p x) : ∀ i, i ≤ arcs.length → Rn first arcs p back x ((arcs.take i).foldl (rel1 p back x) x) i
  | 0, _ => by rw [List.take_zero]; exact rn_start hx
  | i + 1, h => by rw [fold_take _ _ _ _ _ (by omega)]; exact rn_next f he hx (rn_fold f he hx i (by omega)) (by omega)
theorem rn_round {first : List Int} {arcs : List Ac} {p : Ac → Int} {back : Bool} {x : List Int} (f : Fine first (ways back arcs) p) (he : back = true → Even p) (hx : Mid first (ways back arcs) p x) : Rn first arcs p back x (rnd arcs p back x) arcs.length := by
  have := rn_fold f he hx arcs.length (Nat.le_refl _)
  rw [List.take_length] at this; exact this
/-- where a round tells what was told nothing gets less -/
theorem rnd_end {first : List Int} {arcs : List Ac} {p : Ac → Int} {back : Bool} {x : List Int} (f : Fine first (ways back arcs) p) (he : back = true → Even p) (hx : Mid first (ways back arcs) p x) (h : rnd arcs p back x = x) : Best first (ways back arcs) p x := by
  have R := rn_round f he hx
  rw [h] at R
  refine ⟨hx, fun b hb => ?_⟩
  have go : ∀ a ∈ arcs, vat x a.2.1 ≤ vat x a.1 + p a ∧ (back = true → vat x a.1 ≤ vat x a.2.1 + p a) := by
    intro a ha
    obtain ⟨i, hi, rfl⟩ := List.getElem_of_mem ha
    exact R.told i hi hi
  unfold ways at hb
  cases back
  · simp only [Bool.false_eq_true, if_false] at hb; exact (go b hb).1
  · simp only [if_true] at hb
    obtain ⟨a, ha, rfl | rfl⟩ := mem_both.1 hb
    · exact (go _ ha).1
    · have := (go a ha).2 rfl
      rw [he rfl a]; exact this
theorem rnd_less {first : List Int} {arcs : List Ac} {p : Ac → Int} {back : Bool} {x : List Int} (f : Fine first (ways back arcs) p) (he : back = true → Even p) (hx : Mid first (ways back arcs) p x) (h : ¬ rnd arcs p back x = x) : msum (rnd arcs p back x) < msum x := by
  have R := rn_round f he hx
  exact msum_lt _ _ (by rw [R.mid.len, hx.len]) (fun z hz => (R.mid.bounds f z hz).1) (fun v hv => R.le v (by rw [← R.mid.len]; exact hv)) h

end Go.Proofs.Ytanbbkoleekmjai

namespace Go.Proofs.Ytanbbkoleekmjai

/-- a leg: From, To, Time, Cost -/
abbrev Lg := Int × Int × Int × Int
/-- an edge: A, B, its legs -/
abbrev Ed := Int × Int × List Lg
/-- a graph -/
structure Gr where
  hor : Int
  lives : List (Int × Int)
  edges : List Ed

/-- is n from lo to hi? -/
def inR (n lo hi : Int) : Bool := decide (lo ≤ n) && decide (n ≤ hi)
/-- are the times from a to b some, and times of the graph? -/
def spanB (a b h : Int) : Bool := decide (0 ≤ a) && (decide (a < b) && decide (b ≤ h))
/-- is the leg one? -/
def fitB (l : Lg) (h : Int) : Bool := spanB l.1 l.2.1 h && (inR l.2.2.1 1 50 && inR l.2.2.2 0 1000)

/-- legs, behind a leg that ends at p -/
def lgChk (h p : Int) : List Lg → Int
  | [] => 0
  | l :: ls => if fitB l h = false then 1 else if l.1 < p then 5 else lgChk h l.2.1 ls
/-- an edge -/
def edChk (h n : Int) (e : Ed) : Int := if (inR e.1 0 (n - 1) && inR e.2.1 0 (n - 1)) = false then 4 else if 6 < e.2.2.length then 2 else lgChk h 0 e.2.2
def edsChk (h n : Int) : List Ed → Int
  | [] => 0
  | e :: es => if edChk h n e = 0 then edsChk h n es else edChk h n e
def lvChk (h : Int) : List (Int × Int) → Int
  | [] => 0
  | p :: ps => if spanB p.1 p.2 h = true then lvChk h ps else 1
/-- what Check answers -/
def gChk (g : Gr) : Int :=
  if inR g.hor 1 100 = false then 1 else if 12 < g.lives.length ∨ 30 < g.edges.length then 2 else if lvChk g.hor g.lives ≠ 0 then 1 else edsChk g.hor g.lives.length g.edges

theorem inR_iff (n lo hi : Int) : inR n lo hi = true ↔ lo ≤ n ∧ n ≤ hi := by unfold inR; simp
theorem inR_no {n lo hi : Int} (h : ¬ (lo ≤ n ∧ n ≤ hi)) : inR n lo hi = false := by rw [← Bool.not_eq_true, inR_iff]; exact h
theorem spanB_iff (a b h : Int) : spanB a b h = true ↔ 0 ≤ a ∧ a < b ∧ b ≤ h := by unfold spanB; simp
theorem spanB_no {a b h : Int} (k : ¬ (0 ≤ a ∧ a < b ∧ b ≤ h)) : spanB a b h = false := by rw [← Bool.not_eq_true, spanB_iff]; exact k
theorem fitB_iff (l : Lg) (h : Int) : fitB l h = true ↔ (0 ≤ l.1 ∧ l.1 < l.2.1 ∧ l.2.1 ≤ h) ∧ (1 ≤ l.2.2.1 ∧ l.2.2.1 ≤ 50) ∧ (0 ≤ l.2.2.2 ∧ l.2.2.2 ≤ 1000) := by
  unfold fitB; rw [Bool.and_eq_true, Bool.and_eq_true, spanB_iff, inR_iff, inR_iff]

theorem lgChk_cases (h : Int) : ∀ (l : List Lg) (p : Int), lgChk h p l = 0 ∨ lgChk h p l = 1 ∨ lgChk h p l = 5
  | [], p => .inl rfl
  | l :: ls, p => by
    unfold lgChk
    split
    · exact .inr (.inl rfl)
    · split
      · exact .inr (.inr rfl)
      · exact lgChk_cases h ls _
theorem edChk_cases (h n : Int) (e : Ed) : edChk h n e = 0 ∨ edChk h n e = 1 ∨ edChk h n e = 2 ∨ edChk h n e = 4 ∨ edChk h n e = 5 := by
  unfold edChk
  split
  · simp
  · split
    · simp
    · rcases lgChk_cases h e.2.2 0 with k | k | k <;> simp [k]
theorem edsChk_cases (h n : Int) : ∀ l : List Ed, edsChk h n l = 0 ∨ edsChk h n l = 1 ∨ edsChk h n l = 2 ∨ edsChk h n l = 4 ∨ edsChk h n l = 5
  | [] => .inl rfl
  | e :: es => by
    unfold edsChk
    split
    · exact edsChk_cases h n es
    · exact edChk_cases h n e
theorem lvChk_cases (h : Int) : ∀ l : List (Int × Int), lvChk h l = 0 ∨ lvChk h l = 1
  | [] => .inl rfl
  | p :: ps => by
    unfold lvChk
    split
    · exact lvChk_cases h ps
    · exact .inr rfl
theorem gChk_cases (g : Gr) : gChk g = 0 ∨ gChk g = 1 ∨ gChk g = 2 ∨ gChk g = 4 ∨ gChk g = 5 := by
  unfold gChk
  split
  · simp
  · split
    · simp
    · split
      · simp
      · exact edsChk_cases _ _ _

theorem drop_get {α : Type} (l : List α) (k : Nat) (h : k < l.length) : l.drop k = l[k] :: l.drop (k + 1) := (List.drop_eq_getElem_cons h)

/-- the To of the leg ahead of leg k; 0 ahead of the first -/
def prevTo (l : List Lg) : Nat → Int
  | 0 => 0
  | k + 1 => (l.getD k (0, 0, 0, 0)).2.1

theorem lg_bad {h : Int} {l : List Lg} {k : Nat} (hk : k < l.length) (hI : lgChk h 0 l = lgChk h (prevTo l k) (l.drop k)) (hf : fitB l[k] h = false) : lgChk h 0 l = 1 := by
  rw [hI, drop_get l k hk, lgChk, if_pos hf]
theorem lg_form {h : Int} {l : List Lg} {k : Nat} (hk : k < l.length) (hI : lgChk h 0 l = lgChk h (prevTo l k) (l.drop k)) (hf : fitB l[k] h = true) (hp : l[k].1 < prevTo l k) : lgChk h 0 l = 5 := by
  rw [hI, drop_get l k hk, lgChk, if_neg (by simp [hf]), if_pos hp]
theorem lg_next {h : Int} {l : List Lg} {k : Nat} (hk : k < l.length) (hI : lgChk h 0 l = lgChk h (prevTo l k) (l.drop k)) (hf : fitB l[k] h = true) (hp : ¬ l[k].1 < prevTo l k) : lgChk h 0 l = lgChk h (prevTo l (k + 1)) (l.drop (k + 1)) := by
  rw [hI, drop_get l k hk, lgChk, if_neg (by simp [hf]), if_neg hp]
  simp [prevTo, List.getD_eq_getElem?_getD, List.getElem?_eq_getElem hk]
theorem lg_end {h : Int} {l : List Lg} (hI : lgChk h 0 l = lgChk h (prevTo l l.length) (l.drop l.length)) : lgChk h 0 l = 0 := by
  rw [hI, List.drop_length]; rfl
theorem prevTo_succ {l : List Lg} {k : Nat} (hk : k < l.length) : prevTo l (k + 1) = l[k].2.1 := by
  simp [prevTo, List.getD_eq_getElem?_getD, List.getElem?_eq_getElem hk]

theorem eds_stop {h n : Int} {l : List Ed} {k : Nat} (hk : k < l.length) (hI : edsChk h n l = edsChk h n (l.drop k)) (he : edChk h n l[k] ≠ 0) : edsChk h n l = edChk h n l[k] := by
  rw [hI, drop_get l k hk, edsChk, if_neg he]
theorem eds_next {h n : Int} {l : List Ed} {k : Nat} (hk : k < l.length) (hI : edsChk h n l = edsChk h n (l.drop k)) (he : edChk h n l[k] = 0) : edsChk h n l = edsChk h n (l.drop (k + 1)) := by
  rw [hI, drop_get l k hk, edsChk, if_pos he]
theorem eds_end {h n : Int} {l : List Ed} (hI : edsChk h n l = edsChk h n (l.drop l.length)) : edsChk h n l = 0 := by
  rw [hI, List.drop_length]; rfl
theorem lv_stop {h : Int} {l : List (Int × Int)} {k : Nat} (hk : k < l.length) (hI : lvChk h l = lvChk h (l.drop k)) (he : spanB l[k].1 l[k].2 h = false) : lvChk h l = 1 := by
  rw [hI, drop_get l k hk, lvChk, if_neg (by simp [he])]
theorem lv_next {h : Int} {l : List (Int × Int)} {k : Nat} (hk : k < l.length) (hI : lvChk h l = lvChk h (l.drop k)) (he : spanB l[k].1 l[k].2 h = true) : lvChk h l = lvChk h (l.drop (k + 1)) := by
  rw [hI, drop_get l k hk, lvChk, if_pos he]
theorem lv_end {h : Int} {l : List (Int × Int)} (hI : lvChk h l = lvChk h (l.drop l.length)) : lvChk h l = 0 := by
  rw [hI, List.drop_length]; rfl

theorem gChk_hor {g : Gr} (h : inR g.hor 1 100 = false) : gChk g = 1 := by unfold gChk; rw [if_pos h]
theorem gChk_large {g : Gr} (h : inR g.hor 1 100 = true) (k : 12 < g.lives.length ∨ 30 < g.edges.length) : gChk g = 2 := by unfold gChk; rw [if_neg (by simp [h]), if_pos k]
theorem gChk_life {g : Gr} (h : inR g.hor 1 100 = true) (k : ¬ (12 < g.lives.length ∨ 30 < g.edges.length)) (l : lvChk g.hor g.lives = 1) : gChk g = 1 := by unfold gChk; rw [if_neg (by simp [h]), if_neg k, if_pos (by omega)]
theorem gChk_rest {g : Gr} (h : inR g.hor 1 100 = true) (k : ¬ (12 < g.lives.length ∨ 30 < g.edges.length)) (l : lvChk g.hor g.lives = 0) : gChk g = edsChk g.hor g.lives.length g.edges := by unfold gChk; rw [if_neg (by simp [h]), if_neg k, if_neg (by omega)]

/-- what a right graph is -/
structure Right (g : Gr) : Prop where
  hor : 1 ≤ g.hor ∧ g.hor ≤ 100
  lvs : g.lives.length ≤ 12
  eds : g.edges.length ≤ 30
  life : ∀ p ∈ g.lives, 0 ≤ p.1 ∧ p.1 < p.2 ∧ p.2 ≤ g.hor
  ends : ∀ e ∈ g.edges, (0 ≤ e.1 ∧ e.1 < g.lives.length) ∧ (0 ≤ e.2.1 ∧ e.2.1 < g.lives.length) ∧ e.2.2.length ≤ 6
  legs : ∀ e ∈ g.edges, ∀ l ∈ e.2.2, fitB l g.hor = true

theorem lv_all {h : Int} : ∀ {l : List (Int × Int)}, lvChk h l = 0 → ∀ p ∈ l, spanB p.1 p.2 h = true
  | [], _, p, hp => by simp at hp
  | q :: l, hl, p, hp => by
    unfold lvChk at hl
    by_cases hq : spanB q.1 q.2 h = true
    · rw [if_pos hq] at hl
      rcases List.mem_cons.1 hp with rfl | hp
      · exact hq
      · exact lv_all hl p hp
    · rw [if_neg hq] at hl; omega
theorem lg_all {h : Int} : ∀ {l : List Lg} {p : Int}, lgChk h p l = 0 → ∀ x ∈ l, fitB x h = true
  | [], _, _, x, hx => by simp at hx
  | q :: l, p, hl, x, hx => by
    unfold lgChk at hl
    by_cases hq : fitB q h = false
    · rw [if_pos hq] at hl; omega
    · rw [if_neg hq] at hl
      by_cases hp : q.1 < p
      · rw [if_pos hp] at hl; omega
      · rw [if_neg hp] at hl
        rcases List.mem_cons.1 hx with rfl | hx
        · simpa using hq
        · exact lg_all hl x hx
theorem eds_all {h n : Int} : ∀ {l : List Ed}, edsChk h n l = 0 → ∀ e ∈ l, edChk h n e = 0
  | [], _, e, he => by simp at he
  | q :: l, hl, e, he => by
    unfold edsChk at hl
    by_cases hq : edChk h n q = 0
    · rw [if_pos hq] at hl
      rcases List.mem_cons.1 he with rfl | he
      · exact hq
      · exact eds_all hl e he
    · rw [if_neg hq] at hl; exact absurd hl hq
theorem gChk_right {g : Gr} (h : gChk g = 0) : Right g := by
  unfold gChk at h
  by_cases h1 : inR g.hor 1 100 = false
  · rw [if_pos h1] at h; omega
  rw [if_neg h1] at h
  by_cases h2 : 12 < g.lives.length ∨ 30 < g.edges.length
  · rw [if_pos h2] at h; omega
  rw [if_neg h2] at h
  by_cases h3 : lvChk g.hor g.lives ≠ 0
  · rw [if_pos h3] at h; omega
  rw [if_neg h3] at h
  have e0 := eds_all h
  have hed : ∀ e ∈ g.edges, (0 ≤ e.1 ∧ e.1 < g.lives.length) ∧ (0 ≤ e.2.1 ∧ e.2.1 < g.lives.length) ∧ e.2.2.length ≤ 6 ∧ lgChk g.hor 0 e.2.2 = 0 := by
    intro e he
    have := e0 e he
    unfold edChk at this
    by_cases k1 : (inR e.1 0 (g.lives.length - 1) && inR e.2.1 0 (g.lives.length - 1)) = false
    · rw [if_pos k1] at this; omega
    rw [if_neg k1] at this
    by_cases k2 : 6 < e.2.2.length
    · rw [if_pos k2] at this; omega
    rw [if_neg k2] at this
    rw [Bool.not_eq_false, Bool.and_eq_true, inR_iff, inR_iff] at k1
    exact ⟨⟨k1.1.1, by omega⟩, ⟨k1.2.1, by omega⟩, by omega, this⟩
  refine ⟨(inR_iff _ _ _).1 (by simpa using h1), by omega, by omega, fun p hp => (spanB_iff _ _ _).1 (lv_all (by omega) p hp), fun e he => ?_, fun e he l hl => lg_all (hed e he).2.2.2 l hl⟩
  have := hed e he
  exact ⟨this.1, this.2.1, this.2.2.1⟩

end Go.Proofs.Ytanbbkoleekmjai

namespace Go.Proofs.Ytanbbkoleekmjai

/-- does t lie from a to b - 1? -/
def hasB (a b t : Int) : Bool := decide (a ≤ t) && decide (t < b)
/-- the leg of some legs that has t -/
def lgFind (t : Int) : List Lg → Option Lg
  | [] => none
  | l :: ls => if hasB l.1 l.2.1 t = true then some l else lgFind t ls
/-- which vertices are alive -/
def aliveL (t : Int) (lives : List (Int × Int)) : List Bool := lives.map fun p => hasB p.1 p.2 t
/-- is the vertex v alive? -/
def aliveB (t : Int) (lives : List (Int × Int)) (v : Int) : Bool := (aliveL t lives).getD v.toNat false
/-- the arc of an edge, if it has one -/
def arcOf (t : Int) (lives : List (Int × Int)) (e : Ed) : List (Int × Int × Int) :=
  match lgFind t e.2.2 with
  | none => []
  | some l => if (aliveB t lives e.1 && aliveB t lives e.2.1) = true then [(e.1, e.2.1, l.2.2.2)] else []
def arcsL (t : Int) (lives : List (Int × Int)) (edges : List Ed) : List (Int × Int × Int) := edges.flatMap (arcOf t lives)
/-- the error that At tells -/
def atErr (g : Gr) (t : Int) : Int := if gChk g = 0 then (if inR t 0 (g.hor - 1) = true then 0 else 1) else gChk g

theorem hasB_iff (a b t : Int) : hasB a b t = true ↔ a ≤ t ∧ t < b := by unfold hasB; simp
theorem hasB_no {a b t : Int} (h : ¬ (a ≤ t ∧ t < b)) : hasB a b t = false := by rw [← Bool.not_eq_true, hasB_iff]; exact h
theorem lgFind_hit {t : Int} {l : List Lg} {k : Nat} (hk : k < l.length) (hI : lgFind t l = lgFind t (l.drop k)) (h : hasB l[k].1 l[k].2.1 t = true) : lgFind t l = some l[k] := by
  rw [hI, drop_get l k hk, lgFind, if_pos h]
theorem lgFind_next {t : Int} {l : List Lg} {k : Nat} (hk : k < l.length) (hI : lgFind t l = lgFind t (l.drop k)) (h : hasB l[k].1 l[k].2.1 t = false) : lgFind t l = lgFind t (l.drop (k + 1)) := by
  rw [hI, drop_get l k hk, lgFind, if_neg (by simp [h])]
theorem lgFind_end {t : Int} {l : List Lg} (hI : lgFind t l = lgFind t (l.drop l.length)) : lgFind t l = none := by rw [hI, List.drop_length]; rfl
theorem aliveL_length (t : Int) (lives : List (Int × Int)) : (aliveL t lives).length = lives.length := by simp [aliveL]
theorem aliveL_take (t : Int) (lives : List (Int × Int)) (k : Nat) (hk : k < lives.length) : aliveL t (lives.take (k + 1)) = aliveL t (lives.take k) ++ [hasB lives[k].1 lives[k].2 t] := by
  unfold aliveL; rw [List.take_succ_eq_append_getElem hk, List.map_append]; rfl
theorem aliveB_at (t : Int) (lives : List (Int × Int)) (v : Nat) (h : v < lives.length) : aliveB t lives v = hasB lives[v].1 lives[v].2 t := by
  unfold aliveB aliveL
  rw [Int.toNat_natCast, List.getD_eq_getElem?_getD, List.getElem?_map, List.getElem?_eq_getElem h]; rfl
theorem arcs_take (t : Int) (lives : List (Int × Int)) (edges : List Ed) (k : Nat) (hk : k < edges.length) : arcsL t lives (edges.take (k + 1)) = arcsL t lives (edges.take k) ++ arcOf t lives edges[k] := by
  unfold arcsL
  rw [List.take_succ_eq_append_getElem hk, List.flatMap_append, List.flatMap_singleton]
theorem arcOf_none {t : Int} {lives : List (Int × Int)} {e : Ed} (h : lgFind t e.2.2 = none) : arcOf t lives e = [] := by unfold arcOf; rw [h]
theorem arcOf_dead {t : Int} {lives : List (Int × Int)} {e : Ed} (h : (aliveB t lives e.1 && aliveB t lives e.2.1) = false) : arcOf t lives e = [] := by
  unfold arcOf
  cases lgFind t e.2.2 with
  | none => rfl
  | some l => simp only [h]; rfl
theorem arcOf_some {t : Int} {lives : List (Int × Int)} {e : Ed} {l : Lg} (h : lgFind t e.2.2 = some l) (k : (aliveB t lives e.1 && aliveB t lives e.2.1) = true) : arcOf t lives e = [(e.1, e.2.1, l.2.2.2)] := by
  unfold arcOf; rw [h]; simp only [k, if_true]
theorem arcOf_len (t : Int) (lives : List (Int × Int)) (e : Ed) : (arcOf t lives e).length ≤ 1 := by
  unfold arcOf
  split
  · simp
  · split <;> simp
theorem arcs_len (t : Int) (lives : List (Int × Int)) : ∀ edges : List Ed, (arcsL t lives edges).length ≤ edges.length
  | [] => by simp [arcsL]
  | e :: es => by
    have h1 := arcs_len t lives es
    have h2 := arcOf_len t lives e
    unfold arcsL at h1 ⊢
    rw [List.flatMap_cons, List.length_append, List.length_cons]; omega

end Go.Proofs.Ytanbbkoleekmjai

namespace Go.Proofs.Ytanbbkoleekmjai

/-- when one comes along an edge, who leaves at t, and at what cost -/
def lands (g : Gr) (e : Ed) (t : Int) : Option (Int × Int) :=
  match lgFind t e.2.2 with
  | none => none
  | some l => if (aliveB t g.lives e.1 && (decide (t + l.2.2.1 < g.hor) && aliveB (t + l.2.2.1) g.lives e.2.1)) = true then some (t + l.2.2.1, l.2.2.2) else none
theorem lands_none {g : Gr} {e : Ed} {t : Int} (h : lgFind t e.2.2 = none) : lands g e t = none := by unfold lands; rw [h]
theorem lands_no {g : Gr} {e : Ed} {t : Int} {l : Lg} (h : lgFind t e.2.2 = some l) (k : (aliveB t g.lives e.1 && (decide (t + l.2.2.1 < g.hor) && aliveB (t + l.2.2.1) g.lives e.2.1)) = false) : lands g e t = none := by
  unfold lands; rw [h]; simp only [k]; rfl
theorem lands_yes {g : Gr} {e : Ed} {t : Int} {l : Lg} (h : lgFind t e.2.2 = some l) (k : (aliveB t g.lives e.1 && (decide (t + l.2.2.1 < g.hor) && aliveB (t + l.2.2.1) g.lives e.2.1)) = true) : lands g e t = some (t + l.2.2.1, l.2.2.2) := by
  unfold lands; rw [h]; simp only [k, if_true]
theorem lgFind_mem {t : Int} {ls : List Lg} {l : Lg} (h : lgFind t ls = some l) : l ∈ ls ∧ l.1 ≤ t ∧ t < l.2.1 := by
  induction ls with
  | nil => cases h
  | cons x ls ih =>
    rw [lgFind] at h
    split at h
    · rename_i hx; cases h; exact ⟨by simp, (hasB_iff _ _ _).1 hx⟩
    · have := ih h; exact ⟨by simp [this.1], this.2⟩
theorem lands_spec {g : Gr} {e : Ed} {t tq c : Int} (h : lands g e t = some (tq, c)) : ∃ l ∈ e.2.2, l.1 ≤ t ∧ t < l.2.1 ∧ tq = t + l.2.2.1 ∧ c = l.2.2.2 ∧ aliveB t g.lives e.1 = true ∧ tq < g.hor ∧ aliveB tq g.lives e.2.1 = true := by
  unfold lands at h
  split at h
  · cases h
  · rename_i l hl
    split at h
    · rename_i hk
      simp only [Option.some.injEq, Prod.mk.injEq] at h
      simp only [Bool.and_eq_true, decide_eq_true_eq] at hk
      obtain ⟨h1, h2, h3⟩ := lgFind_mem hl
      exact ⟨l, h1, h2, h3, h.1.symm, h.2.symm, hk.1, by omega, by rw [← h.1]; exact hk.2.2⟩
    · cases h

/-- what is wrong with a graph, a vertex and a time -/
def placeE (g : Gr) (v t : Int) : Int := if gChk g = 0 then if inR v 0 ((g.lives.length : Int) - 1) = true then if inR t 0 (g.hor - 1) = true then 0 else 1 else 4 else gChk g
theorem placeE_cases (g : Gr) (v t : Int) : placeE g v t = 0 ∨ placeE g v t = 1 ∨ placeE g v t = 2 ∨ placeE g v t = 4 ∨ placeE g v t = 5 := by
  unfold placeE
  split
  · split
    · split <;> simp
    · simp
  · exact gChk_cases g
theorem placeE_zero {g : Gr} {v t : Int} (h : placeE g v t = 0) : gChk g = 0 ∧ (0 ≤ v ∧ v < (g.lives.length : Int)) ∧ 0 ≤ t ∧ t < g.hor := by
  unfold placeE at h
  split at h
  · rename_i h0
    split at h
    · rename_i h1
      split at h
      · rename_i h2
        rw [inR_iff] at h1 h2
        exact ⟨h0, by omega, by omega⟩
      · cases h
    · cases h
  · rename_i h0; exact absurd h h0

/-- one hop: Edge, Depart -/
abbrev Hp := Int × Int
/-- one hop from where one is -/
def hopF (g : Gr) (s : Int × Int × Int) (h : Hp) : Option (Int × Int × Int) :=
  if inR h.1 0 ((g.edges.length : Int) - 1) = true then
    if (g.edges.getD h.1.toNat (0, 0, [])).1 = s.1 ∧ s.2.1 ≤ h.2 then
      match lands g (g.edges.getD h.1.toNat (0, 0, [])) h.2 with
      | none => none
      | some q => some ((g.edges.getD h.1.toNat (0, 0, [])).2.1, q.1, s.2.2 + q.2)
    else none
  else none
/-- what hops come to -/
def goF (g : Gr) (s : Option (Int × Int × Int)) (l : List Hp) : Option (Int × Int × Int) := l.foldl (fun s h => s.bind fun s => hopF g s h) s
theorem goF_take {g : Gr} {s : Option (Int × Int × Int)} {l : List Hp} {k : Nat} (hk : k < l.length) : goF g s (l.take (k + 1)) = (goF g s (l.take k)).bind fun s => hopF g s l[k] := by
  unfold goF; rw [List.take_succ_eq_append_getElem hk, List.foldl_append]; rfl
theorem goF_none (g : Gr) (l : List Hp) : goF g none l = none := by
  induction l with
  | nil => rfl
  | cons h l ih => exact ih
theorem goF_stuck {g : Gr} {s : Option (Int × Int × Int)} {l : List Hp} {k : Nat} (h : goF g s (l.take k) = none) : goF g s l = none := by
  have e : l = l.take k ++ l.drop k := (List.take_append_drop k l).symm
  rw [e]
  unfold goF at h ⊢
  rw [List.foldl_append, h]
  exact goF_none g _
theorem goF_append (g : Gr) (s : Option (Int × Int × Int)) (a b : List Hp) : goF g s (a ++ b) = goF g (goF g s a) b := by unfold goF; rw [List.foldl_append]

/-- what Go answers: where, when, at what cost, the error -/
def goAns (g : Gr) (v t : Int) (l : List Hp) : Int × Int × Int × Int :=
  if placeE g v t = 0 then
    if 500 < l.length then (0, 0, 0, 2)
    else
      match goF g (if aliveB t g.lives v = true then some (v, t, 0) else none) l with
      | none => (0, 0, 0, 5)
      | some s => (s.1, s.2.1, s.2.2, 0)
  else (0, 0, 0, placeE g v t)

/-- the hops by which one can leave a vertex at a time -/
def outAt (g : Gr) (v d : Int) : Nat → List Hp
  | 0 => []
  | i + 1 => outAt g v d i ++ if (lands g (g.edges.getD i (0, 0, [])) d).isSome = true ∧ (g.edges.getD i (0, 0, [])).1 = v then [((i : Int), d)] else []
/-- .. and at each of k times from t on -/
def outsTo (g : Gr) (v t : Int) : Nat → List Hp
  | 0 => []
  | k + 1 => outsTo g v t k ++ outAt g v (t + k) g.edges.length
theorem outAt_len (g : Gr) (v d : Int) (i : Nat) : (outAt g v d i).length ≤ i := by
  induction i with
  | zero => simp [outAt]
  | succ i ih =>
    rw [outAt, List.length_append]
    split <;> simp <;> omega
theorem outsTo_len (g : Gr) (v t : Int) (k : Nat) : (outsTo g v t k).length ≤ k * g.edges.length := by
  induction k with
  | zero => simp [outsTo]
  | succ k ih =>
    have := outAt_len g v (t + k) g.edges.length
    rw [outsTo, List.length_append, Nat.succ_mul]; omega
/-- what Out answers of a right place -/
def outsF (g : Gr) (v t : Int) : List Hp := if aliveB t g.lives v = true then outsTo g v t (g.hor - t).toNat else []

end Go.Proofs.Ytanbbkoleekmjai

namespace Go.Proofs.Ytanbbkoleekmjai

/-- from a vertex at a time to a vertex at a time, at a price -/
abbrev JA := Nat × Nat × Nat × Nat × Int
/-- a table: a row a vertex, a number a time -/
abbrev Tb := List (List Int)
def tat (T : Tb) (v t : Nat) : Int := (T.getD v []).getD t 0
def tset (T : Tb) (v t : Nat) (m : Int) : Tb := T.set v ((T.getD v []).set t m)
/-- a table has n rows of h numbers -/
structure Shp (n h : Nat) (T : Tb) : Prop where
  rows : T.length = n
  cols : ∀ v, v < n → (T.getD v []).length = h
theorem getD_set_row (T : Tb) (v v' : Nat) (r : List Int) (h : v < T.length) : (T.set v r).getD v' [] = if v' = v then r else T.getD v' [] := by
  simp only [List.getD_eq_getElem?_getD, List.getElem?_set]
  by_cases e : v = v'
  · subst e; simp [h]
  · have : ¬ v' = v := fun h => e h.symm
    simp [e, this]
theorem shp_set {n h : Nat} {T : Tb} (S : Shp n h T) {v : Nat} (hv : v < n) (t : Nat) (m : Int) : Shp n h (tset T v t m) := by
  refine ⟨by unfold tset; rw [List.length_set]; exact S.rows, fun v' hv' => ?_⟩
  unfold tset
  rw [getD_set_row _ _ _ _ (by rw [S.rows]; exact hv)]
  split
  · rw [List.length_set]; exact S.cols v hv
  · exact S.cols v' hv'
theorem tat_set {n h : Nat} {T : Tb} (S : Shp n h T) {v t : Nat} (hv : v < n) (ht : t < h) (m : Int) (v' t' : Nat) : tat (tset T v t m) v' t' = if v' = v ∧ t' = t then m else tat T v' t' := by
  unfold tat tset
  rw [getD_set_row _ _ _ _ (by rw [S.rows]; exact hv)]
  by_cases e : v' = v
  · subst e
    rw [if_pos rfl, getD_set _ _ _ _ (by rw [S.cols v' hv]; exact ht)]
    by_cases e2 : t' = t <;> simp [e2]
  · rw [if_neg e, if_neg (fun h => e h.1)]
def tsum (T : Tb) : Nat := (T.map msum).sum
theorem tsum_set_row : ∀ (T : Tb) (v : Nat) (r : List Int), v < T.length → msum r < msum (T.getD v []) → tsum (T.set v r) < tsum T
  | [], v, r, h, _ => by simp at h
  | a :: T, 0, r, _, h => by simp [tsum] at h ⊢; omega
  | a :: T, v + 1, r, hv, h => by
    have := tsum_set_row T v r (by simpa using hv) (by simpa using h)
    simp [tsum] at this ⊢; omega
theorem tsum_set {n h : Nat} {T : Tb} (S : Shp n h T) {v t : Nat} (hv : v < n) (ht : t < h) {m : Int} (h0 : 0 ≤ m) (hm : m < tat T v t) : tsum (tset T v t m) < tsum T :=
  tsum_set_row T v _ (by rw [S.rows]; exact hv) (msum_set _ t m h0 (by rw [S.cols v hv]; exact ht) hm)

/-- a way from place to place is fine -/
structure JOk (n h : Nat) (a : JA) : Prop where
  v : a.1 < n
  t : a.2.1 < h
  v' : a.2.2.1 < n
  t' : a.2.2.2.1 < h
  lt : a.2.1 < a.2.2.2.1
  p0 : 0 ≤ a.2.2.2.2
  p1 : a.2.2.2.2 ≤ 1000
def src (T : Tb) (a : JA) : Int := tat T a.1 a.2.1
def dst (T : Tb) (a : JA) : Int := tat T a.2.2.1 a.2.2.2.1
/-- numbers that no way makes less, none above what is told at first -/
structure JAdm (n h : Nat) (first : Nat → Nat → Int) (arcs : List JA) (y : Nat → Nat → Int) : Prop where
  le : ∀ v t, v < n → t < h → y v t ≤ first v t
  cl : ∀ a ∈ arcs, y a.2.2.1 a.2.2.2.1 ≤ y a.1 a.2.1 + a.2.2.2.2
structure JMid (n h : Nat) (first : Nat → Nat → Int) (arcs : List JA) (T : Tb) : Prop where
  shp : Shp n h T
  le : ∀ v t, v < n → t < h → tat T v t ≤ first v t
  most : ∀ y, JAdm n h first arcs y → ∀ v t, v < n → t < h → y v t ≤ tat T v t
structure JBest (n h : Nat) (first : Nat → Nat → Int) (arcs : List JA) (T : Tb) : Prop where
  mid : JMid n h first arcs T
  cl : ∀ a ∈ arcs, dst T a ≤ src T a + a.2.2.2.2
theorem jbest_le {n h : Nat} {first : Nat → Nat → Int} {arcs : List JA} {T T' : Tb} (B : JBest n h first arcs T) (M : JMid n h first arcs T') : ∀ v t, v < n → t < h → tat T v t ≤ tat T' v t :=
  M.most (tat T) ⟨B.mid.le, B.cl⟩
theorem shp_ext {n h : Nat} {T T' : Tb} (S : Shp n h T) (S' : Shp n h T') (e : ∀ v t, v < n → t < h → tat T v t = tat T' v t) : T = T' := by
  apply List.ext_getElem (by rw [S.rows, S'.rows])
  intro v h1 h2
  have hv : v < n := by rw [← S.rows]; exact h1
  have c1 := S.cols v hv
  have c2 := S'.cols v hv
  rw [List.getD_eq_getElem?_getD, List.getElem?_eq_getElem h1, Option.getD_some] at c1
  rw [List.getD_eq_getElem?_getD, List.getElem?_eq_getElem h2, Option.getD_some] at c2
  apply List.ext_getElem (by rw [c1, c2])
  intro t h3 h4
  have := e v t hv (by rw [← c1]; exact h3)
  unfold tat at this
  simp only [List.getD_eq_getElem?_getD, List.getElem?_eq_getElem h1, List.getElem?_eq_getElem h2, Option.getD_some, List.getElem?_eq_getElem h3, List.getElem?_eq_getElem h4] at this
  exact this
theorem jbest_unique {n h : Nat} {first : Nat → Nat → Int} {arcs : List JA} {T T' : Tb} (B : JBest n h first arcs T) (B' : JBest n h first arcs T') : T = T' :=
  shp_ext B.mid.shp B'.mid.shp fun v t hv ht => Int.le_antisymm (jbest_le B B'.mid v t hv ht) (jbest_le B' B.mid v t hv ht)
theorem JMid.lo {n h : Nat} {first : Nat → Nat → Int} {arcs : List JA} {T : Tb} (M : JMid n h first arcs T) (hf : ∀ v t, v < n → t < h → 0 ≤ first v t) (ha : ∀ a ∈ arcs, JOk n h a) (v t : Nat) (hv : v < n) (ht : t < h) : 0 ≤ tat T v t :=
  M.most (fun _ _ => 0) ⟨hf, fun a hm => by have := (ha a hm).p0; show (0 : Int) ≤ 0 + _; omega⟩ v t hv ht

/-- a number told to a place: it stands there if it is less -/
def putT (T : Tb) (v t : Nat) (m : Int) : Tb := if m < tat T v t then tset T v t m else T
theorem shp_put {n h : Nat} {T : Tb} (S : Shp n h T) {v : Nat} (hv : v < n) (t : Nat) (m : Int) : Shp n h (putT T v t m) := by unfold putT; split; exact shp_set S hv t m; exact S
theorem tat_put {n h : Nat} {T : Tb} (S : Shp n h T) {v t : Nat} (hv : v < n) (ht : t < h) (m : Int) (v' t' : Nat) : tat (putT T v t m) v' t' = if v' = v ∧ t' = t then min m (tat T v t) else tat T v' t' := by
  unfold putT
  split
  · rename_i hm
    rw [tat_set S hv ht]
    by_cases e : v' = v ∧ t' = t
    · rw [if_pos e, if_pos e]; omega
    · rw [if_neg e, if_neg e]
  · rename_i hm
    by_cases e : v' = v ∧ t' = t
    · obtain ⟨rfl, rfl⟩ := e; simp; omega
    · rw [if_neg e]

/-- a round: x at its begin, z behind the ways of 'done'; ch: has something turned? -/
structure Tn (n h : Nat) (first : Nat → Nat → Int) (arcs : List JA) (x z : Tb) (ch : Bool) (done : List JA) : Prop where
  mid : JMid n h first arcs z
  same : ch = false → z = x ∧ ∀ a ∈ done, dst x a ≤ src x a + a.2.2.2.2
  less : ch = true → tsum z < tsum x
theorem tn_start {n h : Nat} {first : Nat → Nat → Int} {arcs : List JA} {x : Tb} (M : JMid n h first arcs x) : Tn n h first arcs x x false [] := ⟨M, fun _ => ⟨rfl, fun a ha => by simp at ha⟩, fun h => by simp at h⟩
theorem Tn.sum {n h : Nat} {first : Nat → Nat → Int} {arcs : List JA} {x z : Tb} {ch : Bool} {done : List JA} (T : Tn n h first arcs x z ch done) : tsum z ≤ tsum x := by
  cases ch with
  | true => exact Nat.le_of_lt (T.less rfl)
  | false => rw [(T.same rfl).1]; exact Nat.le_refl _
theorem tn_nil {n h : Nat} {first : Nat → Nat → Int} {arcs : List JA} {x z : Tb} {ch : Bool} {done : List JA} (T : Tn n h first arcs x z ch done) : Tn n h first arcs x z ch (done ++ []) := by rw [List.append_nil]; exact T
theorem tn_inf {n h : Nat} {first : Nat → Nat → Int} {arcs : List JA} {x z : Tb} {ch : Bool} {done : List JA} {a : JA} (T : Tn n h first arcs x z ch done) (ok : JOk n h a) (hf : ∀ v t, v < n → t < h → first v t ≤ 1099511627776) (hi : src z a = 1099511627776) : Tn n h first arcs x z ch (done ++ [a]) := by
  refine ⟨T.mid, fun hc => ⟨(T.same hc).1, fun b hb => ?_⟩, T.less⟩
  rw [List.mem_append, List.mem_singleton] at hb
  rcases hb with hb | rfl
  · exact (T.same hc).2 b hb
  · have e := (T.same hc).1
    rw [← e, hi]
    have h1 := T.mid.le b.2.2.1 b.2.2.2.1 ok.v' ok.t'
    have h2 := hf b.2.2.1 b.2.2.2.1 ok.v' ok.t'
    have h3 := ok.p0
    unfold dst; omega
theorem tn_put {n h : Nat} {first : Nat → Nat → Int} {arcs : List JA} {x z : Tb} {ch : Bool} {done : List JA} {a : JA} (T : Tn n h first arcs x z ch done) (hm : a ∈ arcs) (hok : ∀ a ∈ arcs, JOk n h a) (hf0 : ∀ v t, v < n → t < h → 0 ≤ first v t) :
    Tn n h first arcs x (putT z a.2.2.1 a.2.2.2.1 (src z a + a.2.2.2.2)) (ch || decide (src z a + a.2.2.2.2 < dst z a)) (done ++ [a]) := by
  have ok := hok a hm
  have hs := T.sum
  have h0 : 0 ≤ src z a := T.mid.lo hf0 hok a.1 a.2.1 ok.v ok.t
  have hp := ok.p0
  by_cases hlt : src z a + a.2.2.2.2 < dst z a
  · rw [show decide (src z a + a.2.2.2.2 < dst z a) = true from by simpa using hlt, Bool.or_true]
    have e : putT z a.2.2.1 a.2.2.2.1 (src z a + a.2.2.2.2) = tset z a.2.2.1 a.2.2.2.1 (src z a + a.2.2.2.2) := by unfold putT; exact if_pos hlt
    rw [e]
    refine ⟨⟨shp_set T.mid.shp ok.v' _ _, fun v t hv ht => ?_, fun y hy v t hv ht => ?_⟩, fun h => by simp at h, fun _ => Nat.lt_of_lt_of_le (tsum_set T.mid.shp ok.v' ok.t' (by omega) hlt) hs⟩
    · rw [tat_set T.mid.shp ok.v' ok.t']
      split
      · rename_i hv'
        have := T.mid.le v t hv ht
        rw [hv'.1, hv'.2] at this ⊢
        unfold dst at hlt; omega
      · exact T.mid.le v t hv ht
    · rw [tat_set T.mid.shp ok.v' ok.t']
      split
      · rename_i hv'
        have h1 := hy.cl a hm
        have h2 := T.mid.most y hy a.1 a.2.1 ok.v ok.t
        rw [hv'.1, hv'.2]
        unfold src; omega
      · exact T.mid.most y hy v t hv ht
  · rw [show decide (src z a + a.2.2.2.2 < dst z a) = false from by simpa using hlt, Bool.or_false]
    have e : putT z a.2.2.1 a.2.2.2.1 (src z a + a.2.2.2.2) = z := by unfold putT; exact if_neg hlt
    rw [e]
    refine ⟨T.mid, fun hc => ⟨(T.same hc).1, fun b hb => ?_⟩, T.less⟩
    rw [List.mem_append, List.mem_singleton] at hb
    rcases hb with hb | rfl
    · exact (T.same hc).2 b hb
    · rw [← (T.same hc).1]; omega
theorem tn_end {n h : Nat} {first : Nat → Nat → Int} {arcs : List JA} {x z : Tb} (T : Tn n h first arcs x z false arcs) : JBest n h first arcs z := by
  obtain ⟨e, hc⟩ := T.same rfl
  exact ⟨T.mid, by rw [e]; exact hc⟩

/-- what stands in a table: nothing, or a number that grows with time at most -/
def Tm (n h : Nat) (T : Tb) : Prop := ∀ v t, v < n → t < h → tat T v t = 1099511627776 ∨ (0 ≤ tat T v t ∧ tat T v t ≤ 1000 * (t : Int))
/-- two tables tell of the same places -/
def Pr (n h : Nat) (X Y : Tb) : Prop := ∀ v t, v < n → t < h → (tat X v t = 1099511627776 ↔ tat Y v t = 1099511627776)
theorem tm_put {n h : Nat} {T : Tb} {a : JA} (S : Shp n h T) (hT : Tm n h T) (ok : JOk n h a) (hh : h ≤ 100) (hs : src T a ≠ 1099511627776) : Tm n h (putT T a.2.2.1 a.2.2.2.1 (src T a + a.2.2.2.2)) ∧ tat (putT T a.2.2.1 a.2.2.2.1 (src T a + a.2.2.2.2)) a.2.2.1 a.2.2.2.1 ≠ 1099511627776 := by
  have h1 := ok.lt
  have h2 := ok.p0
  have h3 := ok.p1
  have h4 := ok.t'
  have h5 : 0 ≤ src T a ∧ src T a ≤ 1000 * (a.2.1 : Int) := by rcases hT a.1 a.2.1 ok.v ok.t with e | e; exact absurd e hs; exact e
  refine ⟨fun v t hv ht => ?_, ?_⟩
  · rw [tat_put S ok.v' ok.t']
    split
    · rename_i e
      rw [e.2]
      rcases hT a.2.2.1 a.2.2.2.1 ok.v' ok.t' with k | k
      · right; omega
      · right; omega
    · exact hT v t hv ht
  · rw [tat_put S ok.v' ok.t', if_pos ⟨rfl, rfl⟩]
    omega
theorem pr_put {n h : Nat} {X Y : Tb} {a b : JA} (SX : Shp n h X) (SY : Shp n h Y) (hX : Tm n h X) (hY : Tm n h Y) (hP : Pr n h X Y) (oka : JOk n h a) (okb : JOk n h b) (hh : h ≤ 100) (e : b.1 = a.1 ∧ b.2.1 = a.2.1 ∧ b.2.2.1 = a.2.2.1 ∧ b.2.2.2.1 = a.2.2.2.1) (hs : src X a ≠ 1099511627776) :
    Pr n h (putT X a.2.2.1 a.2.2.2.1 (src X a + a.2.2.2.2)) (putT Y b.2.2.1 b.2.2.2.1 (src Y b + b.2.2.2.2)) := by
  have hsb : src Y b ≠ 1099511627776 := by
    unfold src at hs ⊢
    rw [e.1, e.2.1]
    exact fun h => hs ((hP a.1 a.2.1 oka.v oka.t).2 h)
  intro v t hv ht
  have k1 := (tm_put SX hX oka hh hs).2
  have k2 := (tm_put SY hY okb hh hsb).2
  by_cases q : v = a.2.2.1 ∧ t = a.2.2.2.1
  · obtain ⟨rfl, rfl⟩ := q
    rw [e.2.2.1, e.2.2.2] at k2 ⊢
    exact ⟨fun h => absurd h k1, fun h => absurd h k2⟩
  · rw [tat_put SX oka.v' oka.t', tat_put SY okb.v' okb.t', if_neg q, if_neg (by rw [e.2.2.1, e.2.2.2]; exact q)]
    exact hP v t hv ht

/-- waiting, of the first k vertices at a time -/
def waitA (g : Gr) (t : Nat) : Nat → List JA
  | 0 => []
  | k + 1 => waitA g t k ++ if ((t : Int) + 1 < g.hor) ∧ aliveB ((t : Int) + 1) g.lives (k : Int) = true then [(k, t, k, t + 1, 0)] else []
/-- going along the first i edges at a time; pr: the price of a cost -/
def legA (g : Gr) (pr : Int → Int) (t : Nat) : Nat → List JA
  | 0 => []
  | i + 1 => legA g pr t i ++
    match lands g (g.edges.getD i (0, 0, [])) (t : Int) with
    | none => []
    | some q => [((g.edges.getD i (0, 0, [])).1.toNat, t, (g.edges.getD i (0, 0, [])).2.1.toNat, q.1.toNat, pr q.2)]
/-- all ways of the first k times -/
def allA (g : Gr) (pr : Int → Int) : Nat → List JA
  | 0 => []
  | k + 1 => allA g pr k ++ (waitA g k g.lives.length ++ legA g pr k g.edges.length)
theorem waitA_ok {g : Gr} (R : Right g) {t : Nat} (ht : (t : Int) < g.hor) : ∀ k, k ≤ g.lives.length → ∀ a ∈ waitA g t k, JOk g.lives.length g.hor.toNat a
  | 0, _, a, ha => by simp [waitA] at ha
  | k + 1, hk, a, ha => by
    rw [waitA, List.mem_append] at ha
    rcases ha with ha | ha
    · exact waitA_ok R ht k (by omega) a ha
    · split at ha
      · rename_i h
        simp only [List.mem_singleton] at ha
        subst ha
        exact ⟨by show k < _; omega, by show t < _; omega, by show k < _; omega, by show t + 1 < _; omega, by show t < t + 1; omega, by show (0 : Int) ≤ 0; omega, by show (0 : Int) ≤ 1000; omega⟩
      · simp at ha
theorem legA_ok {g : Gr} (R : Right g) {pr : Int → Int} (hpr : ∀ c, 0 ≤ c → c ≤ 1000 → 0 ≤ pr c ∧ pr c ≤ 1000) {t : Nat} (ht : (t : Int) < g.hor) : ∀ i, i ≤ g.edges.length → ∀ a ∈ legA g pr t i, JOk g.lives.length g.hor.toNat a
  | 0, _, a, ha => by simp [legA] at ha
  | i + 1, hi, a, ha => by
    rw [legA, List.mem_append] at ha
    rcases ha with ha | ha
    · exact legA_ok R hpr ht i (by omega) a ha
    · have hg : g.edges.getD i (0, 0, []) = g.edges[i] := by simp [List.getD_eq_getElem?_getD, List.getElem?_eq_getElem (show i < g.edges.length by omega)]
      rw [hg] at ha
      have hem : g.edges[i] ∈ g.edges := List.getElem_mem _
      split at ha
      · simp at ha
      · rename_i q hq
        simp only [List.mem_singleton] at ha
        subst ha
        obtain ⟨l, hl, _, _, h3, h4, _, h6, _⟩ := lands_spec (tq := q.1) (c := q.2) hq
        have hfit := (fitB_iff _ _).1 (R.legs _ hem l hl)
        have hend := R.ends _ hem
        have hc := hpr q.2 (by omega) (by omega)
        exact ⟨by show g.edges[i].1.toNat < _; omega, by show t < _; omega, by show g.edges[i].2.1.toNat < _; omega, by show q.1.toNat < _; omega, by show t < q.1.toNat; omega, hc.1, hc.2⟩
theorem allA_ok {g : Gr} (R : Right g) {pr : Int → Int} (hpr : ∀ c, 0 ≤ c → c ≤ 1000 → 0 ≤ pr c ∧ pr c ≤ 1000) : ∀ k : Nat, (k : Int) ≤ g.hor → ∀ a ∈ allA g pr k, JOk g.lives.length g.hor.toNat a
  | 0, _, a, ha => by simp [allA] at ha
  | k + 1, hk, a, ha => by
    rw [allA, List.mem_append, List.mem_append] at ha
    rcases ha with ha | ha | ha
    · exact allA_ok R hpr k (by omega) a ha
    · exact waitA_ok R (by omega) _ (Nat.le_refl _) a ha
    · exact legA_ok R hpr (by omega) _ (Nat.le_refl _) a ha
theorem waitA_sub {g : Gr} {t k : Nat} : ∀ {m : Nat}, k ≤ m → ∀ a ∈ waitA g t k, a ∈ waitA g t m
  | 0, h, a, ha => by have : k = 0 := by omega
                      subst this; exact ha
  | m + 1, h, a, ha => by
    by_cases e : k = m + 1
    · subst e; exact ha
    · rw [waitA, List.mem_append]; exact .inl (waitA_sub (by omega) a ha)
theorem legA_sub {g : Gr} {pr : Int → Int} {t i : Nat} : ∀ {m : Nat}, i ≤ m → ∀ a ∈ legA g pr t i, a ∈ legA g pr t m
  | 0, h, a, ha => by have : i = 0 := by omega
                      subst this; exact ha
  | m + 1, h, a, ha => by
    by_cases e : i = m + 1
    · subst e; exact ha
    · rw [legA, List.mem_append]; exact .inl (legA_sub (by omega) a ha)
theorem allA_sub {g : Gr} {pr : Int → Int} {k : Nat} : ∀ {m : Nat}, k ≤ m → ∀ a ∈ allA g pr k, a ∈ allA g pr m
  | 0, h, a, ha => by have : k = 0 := by omega
                      subst this; exact ha
  | m + 1, h, a, ha => by
    by_cases e : k = m + 1
    · subst e; exact ha
    · rw [allA, List.mem_append]; exact .inl (allA_sub (by omega) a ha)

/-- what is told at first -/
def firstT (g : Gr) (v t : Int) (v' t' : Nat) : Int := if aliveB t g.lives v = true ∧ (v' : Int) = v ∧ (t' : Int) = t then 0 else 1099511627776
theorem firstT_lo (g : Gr) (v t : Int) (v' t' : Nat) : 0 ≤ firstT g v t v' t' := by unfold firstT; split <;> omega
theorem firstT_hi (g : Gr) (v t : Int) (v' t' : Nat) : firstT g v t v' t' ≤ 1099511627776 := by unfold firstT; split <;> omega
/-- what Sums tells -/
structure SumIs (g : Gr) (v t : Int) (X Y : Tb) : Prop where
  costs : JBest g.lives.length g.hor.toNat (firstT g v t) (allA g id g.hor.toNat) X
  hops : JBest g.lives.length g.hor.toNat (firstT g v t) (allA g (fun _ => 1) g.hor.toNat) Y
  tmX : Tm g.lives.length g.hor.toNat X
  tmY : Tm g.lives.length g.hor.toNat Y
  pr : Pr g.lives.length g.hor.toNat X Y

end Go.Proofs.Ytanbbkoleekmjai

namespace Go.Proofs.Ytanbbkoleekmjai

theorem alive_hor {g : Gr} (R : Right g) {v t : Int} (h : aliveB t g.lives v = true) : v.toNat < g.lives.length ∧ 0 ≤ t ∧ t < g.hor := by
  unfold aliveB aliveL at h
  by_cases hv : v.toNat < g.lives.length
  · rw [List.getD_eq_getElem?_getD, List.getElem?_map, List.getElem?_eq_getElem hv] at h
    have h' := (hasB_iff _ _ _).1 (show hasB g.lives[v.toNat].1 g.lives[v.toNat].2 t = true from h)
    have := R.life _ (List.getElem_mem hv)
    exact ⟨hv, by omega, by omega⟩
  · rw [List.getD_eq_getElem?_getD, List.getElem?_eq_none (by simpa using hv)] at h
    cases h

/-- a state on the way: one is there -/
structure There (g : Gr) (s : Int × Int × Int) : Prop where
  v0 : 0 ≤ s.1
  v1 : s.1 < g.lives.length
  al : aliveB s.2.1 g.lives s.1 = true
theorem There.time {g : Gr} (R : Right g) {s : Int × Int × Int} (h : There g s) : 0 ≤ s.2.1 ∧ s.2.1 < g.hor := (alive_hor R h.al).2
theorem There.place {g : Gr} (h0 : gChk g = 0) {s : Int × Int × Int} (h : There g s) : placeE g s.1 s.2.1 = 0 := by
  have := h.time (gChk_right h0)
  have := h.v0
  have := h.v1
  unfold placeE
  rw [if_pos h0, if_pos ((inR_iff _ _ _).2 (by omega)), if_pos ((inR_iff _ _ _).2 (by omega))]

theorem hopF_spec {g : Gr} (R : Right g) {s s' : Int × Int × Int} {h : Hp} (e : hopF g s h = some s') :
    There g s' ∧ (0 ≤ h.1 ∧ h.1 < g.edges.length) ∧ s.2.1 ≤ h.2 ∧ h.2 < s'.2.1 ∧ s.2.2 ≤ s'.2.2 ∧ s'.2.2 ≤ s.2.2 + 1000 := by
  unfold hopF at e
  split at e
  · rename_i h1
    have h1 := (inR_iff _ _ _).1 h1
    obtain ⟨E, hE⟩ : ∃ E : Nat, h.1 = (E : Int) := ⟨h.1.toNat, by omega⟩
    have hE' : E < g.edges.length := by omega
    have hg : g.edges.getD h.1.toNat (0, 0, []) = g.edges[E] := by rw [hE, Int.toNat_natCast, List.getD_eq_getElem?_getD, List.getElem?_eq_getElem hE']; rfl
    rw [hg] at e
    split at e
    · rename_i h2
      split at e
      · cases e
      · rename_i q hq
        simp only [Option.some.injEq] at e
        subst e
        obtain ⟨l, hl, k1, k2, k3, k4, k5, k6, k7⟩ := lands_spec (tq := q.1) (c := q.2) hq
        have hf := (fitB_iff _ _).1 (R.legs _ (List.getElem_mem hE') l hl)
        obtain ⟨_, hB, _⟩ := R.ends _ (List.getElem_mem hE')
        exact ⟨⟨hB.1, hB.2, k7⟩, by omega, h2.2, by simp only; omega, by simp only; omega, by simp only; omega⟩
    · cases e
  · cases e

/-- one hop, if one is there at all -/
def nextF (g : Gr) (s : Int × Int × Int) (h : Hp) : Option (Int × Int × Int) := if aliveB s.2.1 g.lives s.1 = true then hopF g s h else none
theorem nextF_there {g : Gr} {s : Int × Int × Int} (h : aliveB s.2.1 g.lives s.1 = true) (x : Hp) : nextF g s x = hopF g s x := by unfold nextF; rw [if_pos h]
theorem nextF_away {g : Gr} {s : Int × Int × Int} (h : aliveB s.2.1 g.lives s.1 = false) (x : Hp) : nextF g s x = none := by unfold nextF; rw [if_neg (by simp [h])]
theorem nextF_out {g : Gr} {s : Int × Int × Int} {h : Hp} (k : ¬ (0 ≤ h.1 ∧ h.1 < g.edges.length)) : nextF g s h = none := by
  unfold nextF hopF
  split
  · rw [if_neg (by rw [inR_iff]; omega)]
  · rfl
theorem nextF_at {g : Gr} {s : Int × Int × Int} {h : Hp} {E : Nat} (e : h.1 = (E : Int)) (hE : E < g.edges.length) :
    nextF g s h = if aliveB s.2.1 g.lives s.1 = true ∧ g.edges[E].1 = s.1 ∧ s.2.1 ≤ h.2 then (lands g g.edges[E] h.2).map fun q => (g.edges[E].2.1, q.1, s.2.2 + q.2) else none := by
  have hg : g.edges.getD h.1.toNat (0, 0, []) = g.edges[E] := by rw [e, Int.toNat_natCast, List.getD_eq_getElem?_getD, List.getElem?_eq_getElem hE]; rfl
  unfold nextF hopF
  by_cases h1 : aliveB s.2.1 g.lives s.1 = true
  · rw [if_pos h1, if_pos ((inR_iff _ _ _).2 (by omega)), hg]
    by_cases h2 : g.edges[E].1 = s.1 ∧ s.2.1 ≤ h.2
    · rw [if_pos h2, if_pos ⟨h1, h2⟩]
      cases lands g g.edges[E] h.2 <;> rfl
    · rw [if_neg h2, if_neg (fun h => h2 h.2)]
  · rw [if_neg h1, if_neg (fun h => h1 h.1)]
theorem nextF_no {g : Gr} {s : Int × Int × Int} {h : Hp} {E : Nat} (e : h.1 = (E : Int)) (hE : E < g.edges.length)
    (k : lgFind h.2 g.edges[E].2.2 = none ∨ g.edges[E].1 ≠ s.1 ∨ ¬ s.2.1 ≤ h.2 ∨ aliveB s.2.1 g.lives s.1 = false ∨ aliveB h.2 g.lives s.1 = false) : nextF g s h = none := by
  rw [nextF_at e hE]
  split
  · rename_i h1
    obtain ⟨h1, h2, h3⟩ := h1
    rcases k with k | k | k | k | k
    · rw [lands_none k]; rfl
    · exact absurd h2 k
    · exact absurd h3 k
    · rw [h1] at k; cases k
    · cases hf : lgFind h.2 g.edges[E].2.2 with
      | none => rw [lands_none hf]; rfl
      | some l => rw [lands_no hf (by rw [h2, k]; rfl)]; rfl
  · rfl
theorem nextF_leg {g : Gr} (R : Right g) {s : Int × Int × Int} {h : Hp} {E : Nat} {l : Lg} (e : h.1 = (E : Int)) (hE : E < g.edges.length)
    (k1 : lgFind h.2 g.edges[E].2.2 = some l) (k2 : g.edges[E].1 = s.1) (k3 : s.2.1 ≤ h.2) (k4 : aliveB s.2.1 g.lives s.1 = true) (k5 : aliveB h.2 g.lives s.1 = true) :
    nextF g s h = if aliveB (h.2 + l.2.2.1) g.lives g.edges[E].2.1 = true then some (g.edges[E].2.1, h.2 + l.2.2.1, s.2.2 + l.2.2.2) else none := by
  rw [nextF_at e hE, if_pos ⟨k4, k2, k3⟩]
  by_cases k6 : aliveB (h.2 + l.2.2.1) g.lives g.edges[E].2.1 = true
  · rw [if_pos k6, lands_yes k1 (by rw [k2, k5, k6, decide_eq_true (alive_hor R k6).2.2]; rfl)]; rfl
  · rw [if_neg k6, lands_no k1 (by rw [Bool.not_eq_true] at k6; rw [k6]; simp)]; rfl

theorem goF_nil (g : Gr) (s : Option (Int × Int × Int)) : goF g s [] = s := rfl
theorem goF_cons (g : Gr) (s : Option (Int × Int × Int)) (h : Hp) (l : List Hp) : goF g s (h :: l) = goF g (s.bind fun s => hopF g s h) l := rfl
theorem goF_there {g : Gr} (R : Right g) {l : List Hp} {s s' : Int × Int × Int} (hs : There g s) (e : goF g (some s) l = some s') : There g s' ∧ s.2.1 ≤ s'.2.1 ∧ s.2.2 ≤ s'.2.2 ∧ s'.2.2 ≤ s.2.2 + 1000 * (l.length : Int) := by
  induction l generalizing s with
  | nil => rw [goF_nil] at e; cases e; exact ⟨hs, by omega, by omega, by simp⟩
  | cons h l ih =>
    rw [goF_cons, Option.bind_some] at e
    cases e1 : hopF g s h with
    | none => rw [e1, goF_none] at e; cases e
    | some s1 =>
      rw [e1] at e
      obtain ⟨h1, h2, h3, h4, h5, h6⟩ := hopF_spec R e1
      obtain ⟨k1, k2, k3, k4⟩ := ih h1 e
      refine ⟨k1, by omega, by omega, ?_⟩
      rw [List.length_cons]; omega
/-- what it costs doesn't matter to where one comes -/
theorem hopF_cost (g : Gr) (v t c : Int) (h : Hp) : hopF g (v, t, c) h = (hopF g (v, t, 0) h).map fun s => (s.1, s.2.1, s.2.2 + c) := by
  unfold hopF
  simp only
  split
  · split
    · split
      · rfl
      · simp [Int.add_comm]
    · rfl
  · rfl
theorem goF_cost (g : Gr) (l : List Hp) : ∀ (v t c : Int), goF g (some (v, t, c)) l = (goF g (some (v, t, 0)) l).map fun s => (s.1, s.2.1, s.2.2 + c) := by
  induction l with
  | nil => intro v t c; simp [goF_nil]
  | cons h l ih =>
    intro v t c
    rw [goF_cons, goF_cons, Option.bind_some, Option.bind_some, hopF_cost]
    cases e : hopF g (v, t, 0) h with
    | none => simp [goF_none]
    | some s =>
      obtain ⟨a, b, d⟩ := s
      rw [Option.map_some]
      simp only
      rw [ih a b (d + c), ih a b d, Option.map_map]
      congr 1
      funext s
      simp [Int.add_assoc]
/-- a journey is its first part, and the rest from where one is then -/
theorem goF_parts {g : Gr} {v t : Int} {l : List Hp} {s : Int × Int × Int} (i : Nat) (e : goF g (some (v, t, 0)) l = some s) :
    ∃ a b c d, goF g (some (v, t, 0)) (l.take i) = some (a, b, c) ∧ goF g (some (a, b, 0)) (l.drop i) = some (s.1, s.2.1, d) ∧ c + d = s.2.2 := by
  have e' := e
  rw [← List.take_append_drop i l, goF_append] at e'
  cases e1 : goF g (some (v, t, 0)) (l.take i) with
  | none => rw [e1, goF_none] at e'; cases e'
  | some q =>
    obtain ⟨a, b, c⟩ := q
    rw [e1, goF_cost] at e'
    cases e2 : goF g (some (a, b, 0)) (l.drop i) with
    | none => rw [e2] at e'; cases e'
    | some r =>
      obtain ⟨x, y, d⟩ := r
      rw [e2, Option.map_some] at e'
      simp only [Option.some.injEq] at e'
      subst e'
      exact ⟨a, b, c, d, rfl, e2, by simp only; omega⟩

theorem goAns_ok {g : Gr} {s s' : Int × Int × Int} {l : List Hp} (h0 : gChk g = 0) (hs : There g s) (hc : s.2.2 = 0) (hl : l.length ≤ 500) (e : goF g (some s) l = some s') : goAns g s.1 s.2.1 l = (s'.1, s'.2.1, s'.2.2, 0) := by
  unfold goAns
  rw [if_pos (hs.place h0), if_neg (by omega), if_pos hs.al, ← hc, e]
/-- what an answer of Go that is right says -/
theorem goAns_right {g : Gr} {v t a b c : Int} {l : List Hp} (h : goAns g v t l = (a, b, c, 0)) : gChk g = 0 ∧ There g (v, t, 0) ∧ l.length ≤ 500 ∧ goF g (some (v, t, 0)) l = some (a, b, c) := by
  unfold goAns at h
  split at h
  · rename_i h1
    obtain ⟨k0, k1, k2⟩ := placeE_zero h1
    split at h
    · cases h
    · rename_i h5
      cases ha : aliveB t g.lives v with
      | false => rw [ha] at h; simp only [Bool.false_eq_true, if_false, goF_none] at h; cases h
      | true =>
        rw [ha] at h
        simp only [if_true] at h
        split at h
        · cases h
        · rename_i s hs
          refine ⟨k0, ⟨k1.1, k1.2, ha⟩, by omega, ?_⟩
          rw [hs]
          simp only [Prod.mk.injEq] at h
          obtain ⟨e1, e2, e3, _⟩ := h
          rw [← e1, ← e2, ← e3]
  · rename_i h1
    simp only [Prod.mk.injEq] at h
    exact absurd h.2.2.2 h1
theorem goAns_err {g : Gr} {v t : Int} {l : List Hp} (h : (goAns g v t l).2.2.2 ≠ 0) : (goAns g v t l).1 = 0 ∧ (goAns g v t l).2.1 = 0 := by
  unfold goAns at h ⊢
  split
  · rename_i h1
    rw [if_pos h1] at h
    split
    · exact ⟨rfl, rfl⟩
    · rename_i h5
      rw [if_neg h5] at h
      split
      · exact ⟨rfl, rfl⟩
      · rename_i s hs
        rw [hs] at h
        exact absurd rfl h
  · exact ⟨rfl, rfl⟩

/-- one leaves by a hop ahead of another one -/
def HLt (a b : Hp) : Prop := a.2 < b.2 ∨ (a.2 = b.2 ∧ a.1 < b.1)
theorem mem_outAt {g : Gr} {v d : Int} {h : Hp} : ∀ {i : Nat}, i ≤ g.edges.length → (h ∈ outAt g v d i ↔ ∃ j : Nat, j < i ∧ h = ((j : Int), d) ∧ (lands g (g.edges.getD j (0, 0, [])) d).isSome = true ∧ (g.edges.getD j (0, 0, [])).1 = v)
  | 0, _ => by simp [outAt]
  | i + 1, hi => by
    rw [outAt, List.mem_append, mem_outAt (by omega)]
    constructor
    · rintro (⟨j, h1, h2⟩ | h1)
      · exact ⟨j, by omega, h2⟩
      · split at h1
        · rename_i h2
          rw [List.mem_singleton] at h1
          exact ⟨i, by omega, h1, h2⟩
        · cases h1
    · rintro ⟨j, h1, h2, h3⟩
      rcases Nat.lt_or_ge j i with h4 | h4
      · exact .inl ⟨j, h4, h2, h3⟩
      · have : j = i := by omega
        subst this
        right; rw [if_pos h3, h2]; simp
theorem mem_outsTo {g : Gr} {v t : Int} {h : Hp} : ∀ {k : Nat}, h ∈ outsTo g v t k ↔ ∃ j : Nat, j < k ∧ h ∈ outAt g v (t + j) g.edges.length
  | 0 => by simp [outsTo]
  | k + 1 => by
    rw [outsTo, List.mem_append, mem_outsTo]
    constructor
    · rintro (⟨j, h1, h2⟩ | h1)
      · exact ⟨j, by omega, h2⟩
      · exact ⟨k, by omega, h1⟩
    · rintro ⟨j, h1, h2⟩
      rcases Nat.lt_or_ge j k with h4 | h4
      · exact .inl ⟨j, h4, h2⟩
      · have : j = k := by omega
        subst this
        exact .inr h2
theorem mem_outs {g : Gr} (R : Right g) {v t : Int} (ha : aliveB t g.lives v = true) {h : Hp} : h ∈ outsF g v t ↔ (hopF g (v, t, 0) h).isSome = true := by
  unfold outsF
  rw [if_pos ha, mem_outsTo]
  constructor
  · rintro ⟨j, h1, h2⟩
    obtain ⟨i, h3, rfl, h4, h5⟩ := (mem_outAt (Nat.le_refl _)).1 h2
    have hg : g.edges.getD i (0, 0, []) = g.edges[i] := by rw [List.getD_eq_getElem?_getD, List.getElem?_eq_getElem h3]; rfl
    rw [hg] at h4 h5
    unfold hopF
    rw [if_pos ((inR_iff _ _ _).2 (by simp only; omega))]
    simp only [Int.toNat_natCast]
    rw [hg, if_pos ⟨h5, by omega⟩]
    cases e : lands g g.edges[i] (t + j) with
    | none => rw [e] at h4; cases h4
    | some q => rfl
  · intro h1
    cases e : hopF g (v, t, 0) h with
    | none => rw [e] at h1; cases h1
    | some s =>
      obtain ⟨k1, k2, k3, k4, _⟩ := hopF_spec R e
      have k5 := k1.time R
      simp only at k3
      refine ⟨(h.2 - t).toNat, by omega, ?_⟩
      have e2 : t + ((h.2 - t).toNat : Int) = h.2 := by omega
      rw [e2, mem_outAt (Nat.le_refl _)]
      refine ⟨h.1.toNat, by omega, Prod.ext (by simp only; omega) rfl, ?_⟩
      unfold hopF at e
      rw [if_pos ((inR_iff _ _ _).2 (by omega))] at e
      split at e
      · rename_i h6
        split at e
        · cases e
        · rename_i q hq
          exact ⟨by rw [hq]; rfl, h6.1⟩
      · cases e
theorem outAt_sorted (g : Gr) (v d : Int) : ∀ i : Nat, i ≤ g.edges.length → (outAt g v d i).Pairwise HLt
  | 0, _ => by simp [outAt]
  | i + 1, hi => by
    rw [outAt, List.pairwise_append]
    refine ⟨outAt_sorted g v d i (by omega), ?_, ?_⟩
    · split <;> simp
    · intro a h1 b h2
      obtain ⟨j, h3, rfl, _⟩ := (mem_outAt (by omega)).1 h1
      split at h2
      · rw [List.mem_singleton] at h2; subst h2
        exact .inr ⟨rfl, by simp only; omega⟩
      · cases h2
theorem outsTo_sorted (g : Gr) (v t : Int) : ∀ k : Nat, (outsTo g v t k).Pairwise HLt
  | 0 => by simp [outsTo]
  | k + 1 => by
    rw [outsTo, List.pairwise_append]
    refine ⟨outsTo_sorted g v t k, outAt_sorted g v _ _ (Nat.le_refl _), ?_⟩
    intro a h1 b h2
    obtain ⟨j, h3, h4⟩ := mem_outsTo.1 h1
    obtain ⟨i, _, rfl, _⟩ := (mem_outAt (Nat.le_refl _)).1 h4
    obtain ⟨i', _, rfl, _⟩ := (mem_outAt (Nat.le_refl _)).1 h2
    exact .inl (by simp only; omega)
theorem outs_sorted (g : Gr) (v t : Int) : (outsF g v t).Pairwise HLt := by
  unfold outsF
  split
  · exact outsTo_sorted g v t _
  · simp

end Go.Proofs.Ytanbbkoleekmjai

namespace Go.Proofs.Ytanbbkoleekmjai

/-- one can be at v at t, from v0 at t0 -/
inductive Rch (g : Gr) (v0 t0 : Int) : Int → Int → Prop
  | base : aliveB t0 g.lives v0 = true → Rch g v0 t0 v0 t0
  | wait {v t : Int} : Rch g v0 t0 v t → aliveB (t + 1) g.lives v = true → Rch g v0 t0 v (t + 1)
  | ride {t : Int} {q : Int × Int} (i : Nat) (hi : i < g.edges.length) : Rch g v0 t0 g.edges[i].1 t → lands g g.edges[i] t = some q → Rch g v0 t0 g.edges[i].2.1 q.1

theorem lands_lt {g : Gr} (R : Right g) {i : Nat} (hi : i < g.edges.length) {t : Int} {q : Int × Int} (h : lands g g.edges[i] t = some q) : t < q.1 ∧ aliveB t g.lives g.edges[i].1 = true ∧ aliveB q.1 g.lives g.edges[i].2.1 = true ∧ q.1 < g.hor ∧ 0 ≤ q.2 ∧ q.2 ≤ 1000 := by
  obtain ⟨l, hl, k1, k2, k3, k4, k5, k6, k7⟩ := lands_spec (tq := q.1) (c := q.2) h
  have hf := (fitB_iff _ _).1 (R.legs _ (List.getElem_mem hi) l hl)
  exact ⟨by omega, k5, k7, k6, by omega, by omega⟩
theorem alive_mid {g : Gr} {v a b c : Int} (h1 : aliveB a g.lives v = true) (h2 : aliveB c g.lives v = true) (k1 : a ≤ b) (k2 : b ≤ c) : aliveB b g.lives v = true := by
  unfold aliveB aliveL at *
  by_cases hv : v.toNat < g.lives.length
  · rw [List.getD_eq_getElem?_getD, List.getElem?_map, List.getElem?_eq_getElem hv] at *
    have h1 := (hasB_iff _ _ _).1 (show hasB g.lives[v.toNat].1 g.lives[v.toNat].2 a = true from h1)
    have h2 := (hasB_iff _ _ _).1 (show hasB g.lives[v.toNat].1 g.lives[v.toNat].2 c = true from h2)
    exact (hasB_iff _ _ _).2 (by omega)
  · rw [List.getD_eq_getElem?_getD, List.getElem?_eq_none (by simpa using hv)] at h1
    cases h1

theorem Rch.src {g : Gr} {v0 t0 v t : Int} (h : Rch g v0 t0 v t) : aliveB t0 g.lives v0 = true := by
  induction h with
  | base h => exact h
  | wait _ _ ih => exact ih
  | ride _ _ _ _ ih => exact ih
theorem Rch.alive {g : Gr} (R : Right g) {v0 t0 v t : Int} (h : Rch g v0 t0 v t) : aliveB t g.lives v = true := by
  cases h with
  | base h => exact h
  | wait _ h => exact h
  | ride i hi _ h => exact (lands_lt R hi h).2.2.1
theorem Rch.le {g : Gr} (R : Right g) {v0 t0 v t : Int} (h : Rch g v0 t0 v t) : t0 ≤ t := by
  induction h with
  | base h => omega
  | wait _ _ ih => omega
  | ride i hi _ h ih => have := (lands_lt R hi h).1; omega
theorem Rch.trans {g : Gr} {v0 t0 v1 t1 v t : Int} (h : Rch g v0 t0 v1 t1) (k : Rch g v1 t1 v t) : Rch g v0 t0 v t := by
  induction k with
  | base _ => exact h
  | wait _ k ih => exact .wait ih k
  | ride i hi _ k ih => exact .ride i hi ih k
theorem Rch.stay {g : Gr} {v0 t0 v t : Int} (h : Rch g v0 t0 v t) (ha : aliveB t g.lives v = true) : ∀ n : Nat, aliveB (t + n) g.lives v = true → Rch g v0 t0 v (t + n)
  | 0, _ => by simpa using h
  | n + 1, hn => by
    have h1 : aliveB (t + n) g.lives v = true := alive_mid ha hn (by omega) (by omega)
    have h2 := (h.stay ha n h1).wait (by rw [show t + (n : Int) + 1 = t + ((n + 1 : Nat) : Int) by omega]; exact hn)
    rw [show t + (n : Int) + 1 = t + ((n + 1 : Nat) : Int) by omega] at h2
    exact h2
theorem Rch.waits {g : Gr} (R : Right g) {v0 t0 v t t' : Int} (h : Rch g v0 t0 v t) (ht : t ≤ t') (ha : aliveB t' g.lives v = true) : Rch g v0 t0 v t' := by
  have e : t' = t + ((t' - t).toNat : Int) := by omega
  rw [e] at ha ⊢
  exact h.stay (h.alive R) _ ha
theorem Rch.place {g : Gr} (R : Right g) {v0 t0 v t : Int} (h0 : 0 ≤ v0) (h : Rch g v0 t0 v t) : 0 ≤ v ∧ v < g.lives.length ∧ 0 ≤ t ∧ t < g.hor := by
  have ha := alive_hor R (h.alive R)
  have : 0 ≤ v := by
    clear ha
    induction h with
    | base h => exact h0
    | wait _ _ ih => exact ih
    | ride i hi _ h ih => exact (R.ends _ (List.getElem_mem hi)).2.1.1
  omega

/-- a ride: edge, departure, from, to, arrival, cost -/
abbrev Ri := Int × Int × Int × Int × Int × Int
/-- the rides of the first i edges at a time -/
def ridesAt (g : Gr) (d : Int) : Nat → List Ri
  | 0 => []
  | i + 1 => ridesAt g d i ++
    match lands g (g.edges.getD i (0, 0, [])) d with
    | none => []
    | some q => [((i : Int), d, (g.edges.getD i (0, 0, [])).1, (g.edges.getD i (0, 0, [])).2.1, q.1, q.2)]
/-- .. and of the first k times -/
def ridesTo (g : Gr) : Nat → List Ri
  | 0 => []
  | k + 1 => ridesTo g k ++ ridesAt g (k : Int) g.edges.length
def ridesF (g : Gr) : List Ri := ridesTo g g.hor.toNat
theorem ridesAt_len (g : Gr) (d : Int) (i : Nat) : (ridesAt g d i).length ≤ i := by
  induction i with
  | zero => simp [ridesAt]
  | succ i ih =>
    rw [ridesAt, List.length_append]
    split <;> simp <;> omega
theorem ridesTo_len (g : Gr) (k : Nat) : (ridesTo g k).length ≤ k * g.edges.length := by
  induction k with
  | zero => simp [ridesTo]
  | succ k ih =>
    have := ridesAt_len g (k : Int) g.edges.length
    rw [ridesTo, List.length_append, Nat.succ_mul]; omega
theorem edge_getD {g : Gr} {i : Nat} (hi : i < g.edges.length) : g.edges.getD i (0, 0, []) = g.edges[i] := by rw [List.getD_eq_getElem?_getD, List.getElem?_eq_getElem hi]; rfl
theorem mem_ridesAt {g : Gr} {d : Int} {r : Ri} : ∀ {i : Nat}, i ≤ g.edges.length → (r ∈ ridesAt g d i ↔ ∃ (j : Nat) (hj : j < g.edges.length) (q : Int × Int), j < i ∧ lands g g.edges[j] d = some q ∧ r = ((j : Int), d, g.edges[j].1, g.edges[j].2.1, q.1, q.2))
  | 0, _ => by simp [ridesAt]
  | i + 1, hi => by
    rw [ridesAt, List.mem_append, mem_ridesAt (by omega), edge_getD (show i < g.edges.length by omega)]
    constructor
    · rintro (⟨j, hj, q, h1, h2⟩ | h1)
      · exact ⟨j, hj, q, by omega, h2⟩
      · split at h1
        · cases h1
        · rename_i q hq
          rw [List.mem_singleton] at h1
          exact ⟨i, by omega, q, by omega, hq, h1⟩
    · rintro ⟨j, hj, q, h1, h2, h3⟩
      rcases Nat.lt_or_ge j i with h4 | h4
      · exact .inl ⟨j, hj, q, h4, h2, h3⟩
      · have : j = i := by omega
        subst this
        right; rw [h2, h3]; simp
theorem mem_ridesTo {g : Gr} {r : Ri} : ∀ {k : Nat}, r ∈ ridesTo g k ↔ ∃ j : Nat, j < k ∧ r ∈ ridesAt g (j : Int) g.edges.length
  | 0 => by simp [ridesTo]
  | k + 1 => by
    rw [ridesTo, List.mem_append, mem_ridesTo]
    constructor
    · rintro (⟨j, h1, h2⟩ | h1)
      · exact ⟨j, by omega, h2⟩
      · exact ⟨k, by omega, h1⟩
    · rintro ⟨j, h1, h2⟩
      rcases Nat.lt_or_ge j k with h4 | h4
      · exact .inl ⟨j, h4, h2⟩
      · have : j = k := by omega
        subst this
        exact .inr h2
/-- what a ride is -/
structure RideOk (g : Gr) (r : Ri) : Prop where
  e0 : 0 ≤ r.1 ∧ r.1 < g.edges.length
  d0 : 0 ≤ r.2.1
  a0 : 0 ≤ r.2.2.1 ∧ r.2.2.1 < g.lives.length
  b0 : 0 ≤ r.2.2.2.1 ∧ r.2.2.2.1 < g.lives.length
  lt : r.2.1 < r.2.2.2.2.1
  hor : r.2.2.2.2.1 < g.hor
  alA : aliveB r.2.1 g.lives r.2.2.1 = true
  alB : aliveB r.2.2.2.2.1 g.lives r.2.2.2.1 = true
  go : ∀ {v0 t0 : Int}, Rch g v0 t0 r.2.2.1 r.2.1 → Rch g v0 t0 r.2.2.2.1 r.2.2.2.2.1
  hop : ∀ {t c : Int}, t ≤ r.2.1 → hopF g (r.2.2.1, t, c) (r.1, r.2.1) = some (r.2.2.2.1, r.2.2.2.2.1, c + r.2.2.2.2.2)
  c0 : 0 ≤ r.2.2.2.2.2 ∧ r.2.2.2.2.2 ≤ 1000
  ln : lands g (g.edges.getD r.1.toNat (0, 0, [])) r.2.1 = some (r.2.2.2.2.1, r.2.2.2.2.2)
  edA : (g.edges.getD r.1.toNat (0, 0, [])).1 = r.2.2.1
  edB : (g.edges.getD r.1.toNat (0, 0, [])).2.1 = r.2.2.2.1
theorem rideOk_of {g : Gr} (R : Right g) {j : Nat} (hj : j < g.edges.length) {d : Nat} {q : Int × Int} (hq : lands g g.edges[j] (d : Int) = some q) : RideOk g ((j : Int), (d : Int), g.edges[j].1, g.edges[j].2.1, q.1, q.2) := by
  obtain ⟨h1, h2, h3, h4, _, _⟩ := lands_lt R hj hq
  obtain ⟨hA, hB, _⟩ := R.ends _ (List.getElem_mem hj)
  refine ⟨⟨by simp only; omega, by simp only; omega⟩, by simp only; omega, hA, hB, h1, h4, h2, h3, fun h => .ride j hj h hq, fun {t c} ht => ?_, (lands_lt R hj hq).2.2.2.2, ?_, ?_, ?_⟩
  · simp only at ht
    unfold hopF
    rw [if_pos ((inR_iff _ _ _).2 (by simp only; omega))]
    simp only [Int.toNat_natCast]
    rw [edge_getD hj, if_pos ⟨rfl, ht⟩, hq]
  · simp only [Int.toNat_natCast]; rw [edge_getD hj]; exact hq
  · simp only [Int.toNat_natCast]; rw [edge_getD hj]
  · simp only [Int.toNat_natCast]; rw [edge_getD hj]
theorem mem_rides {g : Gr} (R : Right g) {r : Ri} (h : r ∈ ridesF g) : RideOk g r := by
  obtain ⟨k, hk, h⟩ := mem_ridesTo.1 h
  obtain ⟨j, hj, q, _, hq, rfl⟩ := (mem_ridesAt (Nat.le_refl _)).1 h
  exact rideOk_of R hj hq
theorem ride_mem {g : Gr} (R : Right g) {j : Nat} (hj : j < g.edges.length) {d : Int} (hd : 0 ≤ d) {q : Int × Int} (hq : lands g g.edges[j] d = some q) : ((j : Int), d, g.edges[j].1, g.edges[j].2.1, q.1, q.2) ∈ ridesF g := by
  obtain ⟨h1, h2, h3, h4, _, _⟩ := lands_lt R hj hq
  refine mem_ridesTo.2 ⟨d.toNat, by omega, (mem_ridesAt (Nat.le_refl _)).2 ⟨j, hj, q, hj, ?_, ?_⟩⟩
  · rw [show ((d.toNat : Nat) : Int) = d by omega]; exact hq
  · rw [show ((d.toNat : Nat) : Int) = d by omega]
theorem ridesTo_sorted (g : Gr) : ∀ k : Nat, (ridesTo g k).Pairwise fun a b => a.2.1 ≤ b.2.1
  | 0 => by simp [ridesTo]
  | k + 1 => by
    have hd : ∀ a ∈ ridesAt g (k : Int) g.edges.length, a.2.1 = (k : Int) := fun a ha => by
      obtain ⟨j, hj, q, _, _, rfl⟩ := (mem_ridesAt (Nat.le_refl _)).1 ha; rfl
    rw [ridesTo, List.pairwise_append]
    refine ⟨ridesTo_sorted g k, ?_, ?_⟩
    · exact List.pairwise_of_forall_mem_list fun a ha b hb => by rw [hd a ha, hd b hb]; omega
    · intro a ha b hb
      obtain ⟨j, h1, h2⟩ := mem_ridesTo.1 ha
      obtain ⟨i, hi, q, _, _, rfl⟩ := (mem_ridesAt (Nat.le_refl _)).1 h2
      rw [hd b hb]; simp only; omega

/-- one look at a ride forward: the times, and by which ride one came -/
def erT (T : List Int) (r : Ri) : List Int := if T.getD r.2.2.1.toNat 0 ≤ r.2.1 ∧ r.2.2.2.2.1 < T.getD r.2.2.2.1.toNat 0 then T.set r.2.2.2.1.toNat r.2.2.2.2.1 else T
def erL (T : List Int) (L : List Ri) (r : Ri) : List Ri := if T.getD r.2.2.1.toNat 0 ≤ r.2.1 ∧ r.2.2.2.2.1 < T.getD r.2.2.2.1.toNat 0 then L.set r.2.2.2.1.toNat r else L
def erGo (s : List Int × List Ri) (l : List Ri) : List Int × List Ri := l.foldl (fun s r => (erT s.1 r, erL s.1 s.2 r)) s
theorem erGo_nil (s : List Int × List Ri) : erGo s [] = s := rfl
theorem erGo_cons (s : List Int × List Ri) (r : Ri) (l : List Ri) : erGo s (r :: l) = erGo (erT s.1 r, erL s.1 s.2 r) l := rfl
theorem erGo_app (s : List Int × List Ri) (a b : List Ri) : erGo s (a ++ b) = erGo (erGo s a) b := by unfold erGo; rw [List.foldl_append]
theorem erGo_take {s : List Int × List Ri} {l : List Ri} {k : Nat} (hk : k < l.length) : erGo s (l.take (k + 1)) = (erT (erGo s (l.take k)).1 l[k], erL (erGo s (l.take k)).1 (erGo s (l.take k)).2 l[k]) := by
  unfold erGo; rw [List.take_succ_eq_append_getElem hk, List.foldl_append]; rfl
theorem erT_len (T : List Int) (r : Ri) : (erT T r).length = T.length := by unfold erT; split <;> simp
theorem erL_len (T : List Int) (L : List Ri) (r : Ri) : (erL T L r).length = L.length := by unfold erL; split <;> simp
theorem erGo_len (l : List Ri) : ∀ s : List Int × List Ri, (erGo s l).1.length = s.1.length ∧ (erGo s l).2.length = s.2.length := by
  induction l with
  | nil => intro s; exact ⟨rfl, rfl⟩
  | cons r l ih => intro s; rw [erGo_cons]; have := ih (erT s.1 r, erL s.1 s.2 r); simp only [erT_len, erL_len] at this; exact this
theorem getD_setI (T : List Int) (i j : Nat) (x : Int) (h : i < T.length) : (T.set i x).getD j 0 = if j = i then x else T.getD j 0 := by
  simp only [List.getD_eq_getElem?_getD, List.getElem?_set]
  by_cases e : i = j
  · subst e; simp [h]
  · have : ¬ j = i := fun h => e h.symm
    simp [e, this]
theorem getD_setR (T : List Ri) (i j : Nat) (x d : Ri) (h : i < T.length) : (T.set i x).getD j d = if j = i then x else T.getD j d := by
  simp only [List.getD_eq_getElem?_getD, List.getElem?_set]
  by_cases e : i = j
  · subst e; simp [h]
  · have : ¬ j = i := fun h => e h.symm
    simp [e, this]
theorem erT_le (T : List Int) (r : Ri) (v : Nat) : (erT T r).getD v 0 ≤ T.getD v 0 := by
  unfold erT
  split
  · rename_i h
    by_cases hl : r.2.2.2.1.toNat < T.length
    · rw [getD_setI _ _ _ _ hl]; split
      · rename_i e; rw [e]; omega
      · omega
    · rw [List.set_eq_of_length_le (by omega)]; omega
  · omega
theorem erGo_le (l : List Ri) (v : Nat) : ∀ s : List Int × List Ri, (erGo s l).1.getD v 0 ≤ s.1.getD v 0 := by
  induction l with
  | nil => intro s; rw [erGo_nil]; omega
  | cons r l ih => intro s; rw [erGo_cons]; have h1 := ih (erT s.1 r, erL s.1 s.2 r); have h2 := erT_le s.1 r v; simp only at h1; omega
/-- rides that leave at t or later bring nobody anywhere by t -/
theorem erGo_late (t : Int) (v : Nat) : ∀ (l : List Ri) (s : List Int × List Ri), (∀ r ∈ l, t ≤ r.2.1 ∧ r.2.1 < r.2.2.2.2.1) → (erGo s l).1.getD v 0 ≤ t → s.1.getD v 0 ≤ t
  | [], s, _, h => h
  | r :: l, s, hl, h => by
    rw [erGo_cons] at h
    have h1 := erGo_late t v l _ (fun x hx => hl x (by simp [hx])) h
    have h2 := hl r (by simp)
    simp only [erT] at h1
    split at h1
    · by_cases hlen : r.2.2.2.1.toNat < s.1.length
      · rw [getD_setI _ _ _ _ hlen] at h1
        split at h1
        · omega
        · exact h1
      · rw [List.set_eq_of_length_le (by omega)] at h1; exact h1
    · exact h1

/-- what is told at first -/
def er0 (g : Gr) (v t : Int) : List Int × List Ri := ((List.replicate g.lives.length (1099511627776 : Int)).set v.toNat t, List.replicate g.lives.length (0, 0, 0, 0, 0, 0))
/-- the earliest times, and the last rides -/
def erF (g : Gr) (v t : Int) : List Int × List Ri :=
  if aliveB t g.lives v = true then erGo (er0 g v t) (ridesF g) else (List.replicate g.lives.length 1099511627776, List.replicate g.lives.length (0, 0, 0, 0, 0, 0))
theorem erF_len (g : Gr) (v t : Int) : (erF g v t).1.length = g.lives.length ∧ (erF g v t).2.length = g.lives.length := by
  unfold erF
  split
  · have := erGo_len (ridesF g) (er0 g v t); simpa [er0] using this
  · simp
theorem rep_getD (n : Nat) (x : Int) (v : Nat) (hv : v < n) : (List.replicate n x).getD v 0 = x := by simp [List.getD_eq_getElem?_getD, hv]

/-- the state behind some rides: what is told is true, and the last rides lead there -/
structure ErOk (g : Gr) (v0 t0 : Int) (s : List Int × List Ri) : Prop where
  len : s.1.length = g.lives.length
  lenL : s.2.length = g.lives.length
  at0 : s.1.getD v0.toNat 0 = t0
  is : ∀ v : Nat, v < g.lives.length → s.1.getD v 0 = 1099511627776 ∨ Rch g v0 t0 (v : Int) (s.1.getD v 0)
  way : ∀ v : Nat, v < g.lives.length → s.1.getD v 0 ≠ 1099511627776 → (v : Int) ≠ v0 → RideOk g (s.2.getD v (0, 0, 0, 0, 0, 0)) ∧ (s.2.getD v (0, 0, 0, 0, 0, 0)).2.2.2.1 = (v : Int) ∧ (s.2.getD v (0, 0, 0, 0, 0, 0)).2.2.2.2.1 = s.1.getD v 0 ∧ s.1.getD (s.2.getD v (0, 0, 0, 0, 0, 0)).2.2.1.toNat 0 ≤ (s.2.getD v (0, 0, 0, 0, 0, 0)).2.1
theorem er0_ok {g : Gr} (R : Right g) {v t : Int} (h0 : 0 ≤ v) (ha : aliveB t g.lives v = true) : ErOk g v t (er0 g v t) := by
  have hv := alive_hor R ha
  have hg : ∀ x : Nat, x < g.lives.length → (er0 g v t).1.getD x 0 = if x = v.toNat then t else 1099511627776 := fun x hx => by
    unfold er0; simp only; rw [getD_setI _ _ _ _ (by simpa using hv.1), rep_getD _ _ _ hx]
  refine ⟨by simp [er0], by simp [er0], by rw [hg _ hv.1, if_pos rfl], fun x hx => ?_, fun x hx h1 h2 => ?_⟩
  · rw [hg _ hx]
    split
    · rename_i e; right; rw [e, show ((v.toNat : Nat) : Int) = v by omega]; exact .base ha
    · exact .inl rfl
  · rw [hg _ hx] at h1
    rw [if_neg (by omega)] at h1
    exact absurd rfl h1
theorem ErOk.step {g : Gr} (R : Right g) {v0 t0 : Int} {s : List Int × List Ri} (h0 : 0 ≤ v0) (h : ErOk g v0 t0 s) {r : Ri} (hr : RideOk g r) : ErOk g v0 t0 (erT s.1 r, erL s.1 s.2 r) := by
  by_cases hc : s.1.getD r.2.2.1.toNat 0 ≤ r.2.1 ∧ r.2.2.2.2.1 < s.1.getD r.2.2.2.1.toNat 0
  · obtain ⟨c1, c2⟩ := hc
    have eT : erT s.1 r = s.1.set r.2.2.2.1.toNat r.2.2.2.2.1 := by unfold erT; rw [if_pos ⟨c1, c2⟩]
    have eL : erL s.1 s.2 r = s.2.set r.2.2.2.1.toNat r := by unfold erL; rw [if_pos ⟨c1, c2⟩]
    rw [eT, eL]
    have hb : r.2.2.2.1.toNat < s.1.length := by rw [h.len]; have := hr.b0; omega
    have hbL : r.2.2.2.1.toNat < s.2.length := by rw [h.lenL]; have := hr.b0; omega
    have ha : r.2.2.1.toNat < g.lives.length := by have := hr.a0; omega
    have hor := hr.hor
    have hh := R.hor
    have hlt := hr.lt
    have hR : Rch g v0 t0 r.2.2.1 r.2.1 := by
      rcases h.is _ ha with e | e
      · omega
      · rw [show ((r.2.2.1.toNat : Nat) : Int) = r.2.2.1 by have := hr.a0; omega] at e
        exact e.waits R c1 hr.alA
    have hR2 := hr.go hR
    have hb0 := hr.b0
    have hge : ∀ x : Nat, x < g.lives.length → t0 ≤ s.1.getD x 0 := fun x hx => by
      rcases h.is x hx with e | e
      · rw [e]; have := (hR.le R); have := (hR.place R h0).2.2; omega
      · exact e.le R
    refine ⟨by rw [List.length_set]; exact h.len, by rw [List.length_set]; exact h.lenL, ?_, fun x hx => ?_, fun x hx k1 k2 => ?_⟩
    · simp only
      rw [getD_setI _ _ _ _ hb]
      split
      · rename_i e
        have h1 := h.at0
        rw [e] at h1
        have h2 := hR2.le R
        omega
      · exact h.at0
    · simp only
      rw [getD_setI _ _ _ _ hb]
      split
      · rename_i e; right; rw [e, show ((r.2.2.2.1.toNat : Nat) : Int) = r.2.2.2.1 by omega]; exact hR2
      · exact h.is x hx
    · simp only at k1 ⊢
      have hgt : ∀ y : Nat, (s.1.set r.2.2.2.1.toNat r.2.2.2.2.1).getD y 0 ≤ s.1.getD y 0 := fun y => by
        rw [getD_setI _ _ _ _ hb]
        split
        · rename_i e; rw [e]; omega
        · omega
      by_cases e : x = r.2.2.2.1.toNat
      · have eD : (s.2.set r.2.2.2.1.toNat r).getD x (0, 0, 0, 0, 0, 0) = r := by rw [getD_setR _ _ _ _ _ hbL, if_pos e]
        have eX : (s.1.set r.2.2.2.1.toNat r.2.2.2.2.1).getD x 0 = r.2.2.2.2.1 := by rw [getD_setI _ _ _ _ hb, if_pos e]
        rw [eD, eX]
        exact ⟨hr, by omega, rfl, Int.le_trans (hgt _) c1⟩
      · have eD : (s.2.set r.2.2.2.1.toNat r).getD x (0, 0, 0, 0, 0, 0) = s.2.getD x (0, 0, 0, 0, 0, 0) := by rw [getD_setR _ _ _ _ _ hbL, if_neg e]
        have eX : (s.1.set r.2.2.2.1.toNat r.2.2.2.2.1).getD x 0 = s.1.getD x 0 := by rw [getD_setI _ _ _ _ hb, if_neg e]
        rw [eX] at k1
        rw [eD, eX]
        obtain ⟨q1, q2, q3, q4⟩ := h.way x hx k1 k2
        exact ⟨q1, q2, q3, Int.le_trans (hgt _) q4⟩
  · have eT : erT s.1 r = s.1 := by unfold erT; rw [if_neg hc]
    have eL : erL s.1 s.2 r = s.2 := by unfold erL; rw [if_neg hc]
    rw [eT, eL]; exact h
theorem ErOk.go {g : Gr} (R : Right g) {v0 t0 : Int} (h0 : 0 ≤ v0) : ∀ (l : List Ri) (s : List Int × List Ri), (∀ r ∈ l, RideOk g r) → ErOk g v0 t0 s → ErOk g v0 t0 (erGo s l)
  | [], s, _, h => h
  | r :: l, s, hl, h => by
    rw [erGo_cons]
    exact ErOk.go R h0 l _ (fun x hx => hl x (by simp [hx])) (h.step R h0 (hl r (by simp)))
/-- what is told is the earliest -/
theorem er_least {g : Gr} (R : Right g) {v0 t0 v t : Int} (h0 : 0 ≤ v0) (h : Rch g v0 t0 v t) : (erGo (er0 g v0 t0) (ridesF g)).1.getD v.toNat 0 ≤ t := by
  induction h with
  | base ha =>
    have := (er0_ok R h0 ha).at0
    have := erGo_le (ridesF g) v0.toNat (er0 g v0 t0)
    omega
  | wait _ _ ih => omega
  | @ride t q i hi h hq ih =>
    have hp := h.place R h0
    obtain ⟨A, B, hAB⟩ := List.append_of_mem (ride_mem R hi hp.2.2.1 hq)
    have hs : (ridesF g).Pairwise fun a b => a.2.1 ≤ b.2.1 := ridesTo_sorted g _
    have hok : ∀ r ∈ ridesF g, RideOk g r := fun r hr => mem_rides R hr
    rw [hAB] at hs hok
    rw [hAB, erGo_app] at ih ⊢
    have hs2 := (List.pairwise_append.1 hs).2.1
    have h1 := erGo_late t _ _ _ (fun r hr => by
      refine ⟨?_, (hok r (by simp only [List.mem_append]; exact .inr hr)).lt⟩
      rcases List.mem_cons.1 hr with rfl | hr
      · exact Int.le_refl _
      · exact (List.pairwise_cons.1 hs2).1 r hr) ih
    rw [erGo_cons]
    have h2 := erGo_le B g.edges[i].2.1.toNat (erT (erGo (er0 g v0 t0) A).1 ((i : Int), t, g.edges[i].1, g.edges[i].2.1, q.1, q.2), erL (erGo (er0 g v0 t0) A).1 (erGo (er0 g v0 t0) A).2 ((i : Int), t, g.edges[i].1, g.edges[i].2.1, q.1, q.2))
    refine Int.le_trans h2 ?_
    simp only [erT]
    have hb : g.edges[i].2.1.toNat < (erGo (er0 g v0 t0) A).1.length := by
      rw [(erGo_len A _).1]
      have := (R.ends _ (List.getElem_mem hi)).2.1
      simp [er0]; omega
    split
    · rw [getD_setI _ _ _ _ hb, if_pos rfl]; omega
    · rename_i hn
      have := fun k => hn ⟨h1, k⟩
      omega
/-- the earliest times, said once -/
theorem erF_ok {g : Gr} (R : Right g) {v t : Int} (h0 : 0 ≤ v) (ha : aliveB t g.lives v = true) : ErOk g v t (erF g v t) ∧ ∀ x y, Rch g v t x y → (erF g v t).1.getD x.toNat 0 ≤ y := by
  have e : erF g v t = erGo (er0 g v t) (ridesF g) := by unfold erF; rw [if_pos ha]
  rw [e]
  exact ⟨ErOk.go R h0 _ _ (fun r hr => mem_rides R hr) (er0_ok R h0 ha), fun x y h => er_least R h0 h⟩
theorem erF_away {g : Gr} {v t : Int} (ha : ¬ aliveB t g.lives v = true) : (erF g v t).1 = List.replicate g.lives.length 1099511627776 := by unfold erF; rw [if_neg ha]

/-- one look at a ride backward -/
def ltT (T : List Int) (r : Ri) : List Int := if r.2.2.2.2.1 ≤ T.getD r.2.2.2.1.toNat 0 then T.set r.2.2.1.toNat (max (T.getD r.2.2.1.toNat 0) r.2.1) else T
def ltGo (T : List Int) (l : List Ri) : List Int := l.foldl ltT T
theorem ltGo_cons (T : List Int) (r : Ri) (l : List Ri) : ltGo T (r :: l) = ltGo (ltT T r) l := rfl
theorem ltGo_app (T : List Int) (a b : List Ri) : ltGo T (a ++ b) = ltGo (ltGo T a) b := by unfold ltGo; rw [List.foldl_append]
theorem ltT_len (T : List Int) (r : Ri) : (ltT T r).length = T.length := by unfold ltT; split <;> simp
theorem ltGo_len (l : List Ri) : ∀ T : List Int, (ltGo T l).length = T.length := by
  induction l with
  | nil => intro T; rfl
  | cons r l ih => intro T; rw [ltGo_cons, ih, ltT_len]
theorem ltT_ge (T : List Int) (r : Ri) (v : Nat) : T.getD v 0 ≤ (ltT T r).getD v 0 := by
  unfold ltT
  split
  · by_cases hl : r.2.2.1.toNat < T.length
    · rw [getD_setI _ _ _ _ hl]; split
      · rename_i e; rw [e]; omega
      · omega
    · rw [List.set_eq_of_length_le (by omega)]; omega
  · omega
theorem ltGo_ge (l : List Ri) (v : Nat) : ∀ T : List Int, T.getD v 0 ≤ (ltGo T l).getD v 0 := by
  induction l with
  | nil => intro T; exact Int.le_refl _
  | cons r l ih => intro T; rw [ltGo_cons]; have h1 := ih (ltT T r); have h2 := ltT_ge T r v; omega
theorem ltGo_late (t : Int) (v : Nat) : ∀ (l : List Ri) (T : List Int), (∀ r ∈ l, r.2.1 < t) → t ≤ (ltGo T l).getD v 0 → t ≤ T.getD v 0
  | [], T, _, h => h
  | r :: l, T, hl, h => by
    rw [ltGo_cons] at h
    have h1 := ltGo_late t v l _ (fun x hx => hl x (by simp [hx])) h
    have h2 := hl r (by simp)
    simp only [ltT] at h1
    split at h1
    · by_cases hlen : r.2.2.1.toNat < T.length
      · rw [getD_setI _ _ _ _ hlen] at h1
        split at h1
        · rename_i e; rw [e]; omega
        · exact h1
      · rw [List.set_eq_of_length_le (by omega)] at h1; exact h1
    · exact h1
def lt0 (g : Gr) (q d : Int) : List Int := (List.replicate g.lives.length (-1 : Int)).set q.toNat d
/-- the latest times -/
def ltF (g : Gr) (q d : Int) : List Int := if aliveB d g.lives q = true then ltGo (lt0 g q d) (ridesF g).reverse else List.replicate g.lives.length (-1)
theorem ltF_len (g : Gr) (q d : Int) : (ltF g q d).length = g.lives.length := by
  unfold ltF
  split
  · rw [ltGo_len]; simp [lt0]
  · simp
structure LtOk (g : Gr) (q d : Int) (T : List Int) : Prop where
  len : T.length = g.lives.length
  is : ∀ v : Nat, v < g.lives.length → T.getD v 0 = -1 ∨ Rch g (v : Int) (T.getD v 0) q d
theorem lt0_get {g : Gr} {q d : Int} (hq : q.toNat < g.lives.length) (x : Nat) (hx : x < g.lives.length) : (lt0 g q d).getD x 0 = if x = q.toNat then d else -1 := by
  unfold lt0; rw [getD_setI _ _ _ _ (by simpa using hq), rep_getD _ _ _ hx]
theorem lt0_ok {g : Gr} (R : Right g) {q d : Int} (h0 : 0 ≤ q) (ha : aliveB d g.lives q = true) : LtOk g q d (lt0 g q d) := by
  have hv := alive_hor R ha
  refine ⟨by simp [lt0], fun x hx => ?_⟩
  rw [lt0_get hv.1 x hx]
  split
  · rename_i e; right; rw [e, show ((q.toNat : Nat) : Int) = q by omega]; exact .base ha
  · exact .inl rfl
theorem LtOk.step {g : Gr} (R : Right g) {q d : Int} {T : List Int} (h : LtOk g q d T) {r : Ri} (hr : RideOk g r) : LtOk g q d (ltT T r) := by
  unfold ltT
  split
  · rename_i c
    have ha0 := hr.a0
    have hb0 := hr.b0
    have hlt := hr.lt
    have hd0 := hr.d0
    have ha : r.2.2.1.toNat < T.length := by rw [h.len]; omega
    refine ⟨by rw [List.length_set]; exact h.len, fun x hx => ?_⟩
    rw [getD_setI _ _ _ _ ha]
    split
    · rename_i e
      have hR : Rch g r.2.2.1 r.2.1 q d := by
        rcases h.is r.2.2.2.1.toNat (by omega) with e2 | e2
        · omega
        · rw [show ((r.2.2.2.1.toNat : Nat) : Int) = r.2.2.2.1 by omega] at e2
          exact ((hr.go (.base hr.alA)).waits R c e2.src).trans e2
      rw [e, show ((r.2.2.1.toNat : Nat) : Int) = r.2.2.1 by omega]
      right
      rcases Int.le_total (T.getD r.2.2.1.toNat 0) r.2.1 with k | k
      · rw [Int.max_eq_right k]; exact hR
      · rw [Int.max_eq_left k]
        rcases h.is r.2.2.1.toNat (by omega) with e2 | e2
        · omega
        · rw [show ((r.2.2.1.toNat : Nat) : Int) = r.2.2.1 by omega] at e2; exact e2
    · exact h.is x hx
  · exact h
theorem LtOk.go {g : Gr} (R : Right g) {q d : Int} : ∀ (l : List Ri) (T : List Int), (∀ r ∈ l, RideOk g r) → LtOk g q d T → LtOk g q d (ltGo T l)
  | [], T, _, h => h
  | r :: l, T, hl, h => by
    rw [ltGo_cons]
    exact LtOk.go R l _ (fun x hx => hl x (by simp [hx])) (h.step R (hl r (by simp)))
theorem lt_closed {g : Gr} (R : Right g) (T0 : List Int) (hT : T0.length = g.lives.length) {r : Ri} (hr : r ∈ ridesF g) (h : r.2.2.2.2.1 ≤ (ltGo T0 (ridesF g).reverse).getD r.2.2.2.1.toNat 0) : r.2.1 ≤ (ltGo T0 (ridesF g).reverse).getD r.2.2.1.toNat 0 := by
  have hrok := mem_rides R hr
  obtain ⟨A, B, hAB⟩ := List.append_of_mem hr
  have hs : (ridesF g).Pairwise fun a b => a.2.1 ≤ b.2.1 := ridesTo_sorted g _
  have hrev : (ridesF g).reverse = B.reverse ++ r :: A.reverse := by rw [hAB]; simp
  rw [hAB] at hs
  rw [hrev, ltGo_app] at h ⊢
  have hA := (List.pairwise_append.1 hs).2.2
  have hlt := hrok.lt
  have h1 := ltGo_late r.2.2.2.2.1 _ _ _ (fun x hx => by
    rcases List.mem_cons.1 hx with rfl | hx
    · exact hlt
    · have := hA x (List.mem_reverse.1 hx) r (by simp); omega) h
  rw [ltGo_cons]
  refine Int.le_trans ?_ (ltGo_ge A.reverse _ _)
  have ha : r.2.2.1.toNat < (ltGo T0 B.reverse).length := by rw [ltGo_len, hT]; have := hrok.a0; omega
  unfold ltT
  rw [if_pos h1, getD_setI _ _ _ _ ha, if_pos rfl]
  omega
/-- what is told is the latest -/
theorem ltF_ok {g : Gr} (R : Right g) {q d : Int} (h0 : 0 ≤ q) (ha : aliveB d g.lives q = true) : LtOk g q d (ltF g q d) ∧ ∀ x y, 0 ≤ x → Rch g x y q d → y ≤ (ltF g q d).getD x.toNat 0 := by
  have hv := alive_hor R ha
  have e : ltF g q d = ltGo (lt0 g q d) (ridesF g).reverse := by unfold ltF; rw [if_pos ha]
  rw [e]
  refine ⟨LtOk.go R _ _ (fun r hr => mem_rides R (List.mem_reverse.1 hr)) (lt0_ok R h0 ha), fun x y hx h => ?_⟩
  have key : ∀ v t, Rch g x y v t → t ≤ (ltGo (lt0 g q d) (ridesF g).reverse).getD v.toNat 0 → y ≤ (ltGo (lt0 g q d) (ridesF g).reverse).getD x.toNat 0 := by
    intro v t h
    induction h with
    | base _ => exact id
    | wait _ _ ih => exact fun h => ih (by omega)
    | @ride t q' i hi h hq ih =>
      intro h2
      have hp := h.place R hx
      exact ih (lt_closed R _ (by simp [lt0]) (ride_mem R hi hp.2.2.1 hq) h2)
  refine key q d h ?_
  have h1 := lt0_get (d := d) hv.1 q.toNat hv.1
  rw [if_pos rfl] at h1
  have := ltGo_ge (ridesF g).reverse q.toNat (lt0 g q d)
  omega
theorem ltF_away {g : Gr} {q d : Int} (ha : ¬ aliveB d g.lives q = true) : ltF g q d = List.replicate g.lives.length (-1) := by unfold ltF; rw [if_neg ha]

theorem mem_waitA {g : Gr} {t : Nat} {a : JA} : ∀ {k : Nat}, a ∈ waitA g t k ↔ ∃ v : Nat, v < k ∧ ((t : Int) + 1 < g.hor) ∧ aliveB ((t : Int) + 1) g.lives (v : Int) = true ∧ a = (v, t, v, t + 1, 0)
  | 0 => by simp [waitA]
  | k + 1 => by
    rw [waitA, List.mem_append, mem_waitA]
    constructor
    · rintro (⟨j, h1, h2⟩ | h1)
      · exact ⟨j, by omega, h2⟩
      · split at h1
        · rename_i h2
          rw [List.mem_singleton] at h1
          exact ⟨k, by omega, h2.1, h2.2, h1⟩
        · cases h1
    · rintro ⟨j, h1, h2, h3, h4⟩
      rcases Nat.lt_or_ge j k with h5 | h5
      · exact .inl ⟨j, h5, h2, h3, h4⟩
      · have : j = k := by omega
        subst this
        right; rw [if_pos ⟨h2, h3⟩, h4]; simp
theorem mem_legA {g : Gr} {pr : Int → Int} {t : Nat} {a : JA} : ∀ {i : Nat}, i ≤ g.edges.length → (a ∈ legA g pr t i ↔ ∃ (j : Nat) (hj : j < g.edges.length) (q : Int × Int), j < i ∧ lands g g.edges[j] (t : Int) = some q ∧ a = (g.edges[j].1.toNat, t, g.edges[j].2.1.toNat, q.1.toNat, pr q.2))
  | 0, _ => by simp [legA]
  | i + 1, hi => by
    rw [legA, List.mem_append, mem_legA (by omega), edge_getD (show i < g.edges.length by omega)]
    constructor
    · rintro (⟨j, hj, q, h1, h2⟩ | h1)
      · exact ⟨j, hj, q, by omega, h2⟩
      · split at h1
        · cases h1
        · rename_i q hq
          rw [List.mem_singleton] at h1
          exact ⟨i, by omega, q, by omega, hq, h1⟩
    · rintro ⟨j, hj, q, h1, h2, h3⟩
      rcases Nat.lt_or_ge j i with h4 | h4
      · exact .inl ⟨j, hj, q, h4, h2, h3⟩
      · have : j = i := by omega
        subst this
        right; rw [h2, h3]; simp
theorem mem_allA {g : Gr} {pr : Int → Int} {a : JA} : ∀ {k : Nat}, a ∈ allA g pr k ↔ ∃ t : Nat, t < k ∧ (a ∈ waitA g t g.lives.length ∨ a ∈ legA g pr t g.edges.length)
  | 0 => by simp [allA]
  | k + 1 => by
    rw [allA, List.mem_append, List.mem_append, mem_allA]
    constructor
    · rintro (⟨j, h1, h2⟩ | h1)
      · exact ⟨j, by omega, h2⟩
      · exact ⟨k, by omega, h1⟩
    · rintro ⟨j, h1, h2⟩
      rcases Nat.lt_or_ge j k with h4 | h4
      · exact .inl ⟨j, h4, h2⟩
      · have : j = k := by omega
        subst this
        exact .inr h2
open Classical in
/-- Sums tells of a place just if one can be there -/
theorem sum_reach {g : Gr} (R : Right g) {pr : Int → Int} (hpr : ∀ c, 0 ≤ c → c ≤ 1000 → 0 ≤ pr c ∧ pr c ≤ 1000) {v t : Int} (h0 : 0 ≤ v) {X : Tb} (B : JBest g.lives.length g.hor.toNat (firstT g v t) (allA g pr g.hor.toNat) X) (hT : Tm g.lives.length g.hor.toNat X)
    (x y : Nat) (hx : x < g.lives.length) (hy : y < g.hor.toNat) : tat X x y < 1099511627776 ↔ Rch g v t (x : Int) (y : Int) := by
  have hh := R.hor
  have hok := allA_ok R hpr g.hor.toNat (by omega)
  have hlt : ∀ a b : Nat, a < g.lives.length → b < g.hor.toNat → (tat X a b < 1099511627776 ↔ tat X a b ≤ 1000 * 100) := fun a b ha hb => by
    rcases hT a b ha hb with e | e <;> omega
  constructor
  · intro h
    have hadm : JAdm g.lives.length g.hor.toNat (firstT g v t) (allA g pr g.hor.toNat) (fun a b => if Rch g v t (a : Int) (b : Int) then 0 else 1099511627776) := by
      refine ⟨fun a b ha hb => ?_, fun a ha => ?_⟩
      · show (if Rch g v t (a : Int) (b : Int) then (0 : Int) else 1099511627776) ≤ _
        split
        · exact firstT_lo _ _ _ _ _
        · rename_i hn
          unfold firstT
          rw [if_neg (fun k => hn (by rw [k.2.1, k.2.2]; exact .base k.1))]
          omega
      · have hp := (hok a ha).p0
        obtain ⟨k, hk, ha | ha⟩ := mem_allA.1 ha
        · obtain ⟨u, h1, h2, h3, rfl⟩ := mem_waitA.1 ha
          simp only at hp ⊢
          by_cases hR : Rch g v t (u : Int) (k : Int)
          · rw [if_pos hR, if_pos (by have := hR.wait h3; rwa [show (k : Int) + 1 = ((k + 1 : Nat) : Int) by omega] at this)]; omega
          · rw [if_neg hR]; split <;> omega
        · obtain ⟨j, hj, q, _, hq, rfl⟩ := (mem_legA (Nat.le_refl _)).1 ha
          simp only at hp ⊢
          obtain ⟨l1, l2, l3, l4, _, _⟩ := lands_lt R hj hq
          obtain ⟨hA, hB, _⟩ := R.ends _ (List.getElem_mem hj)
          rw [show ((g.edges[j].1.toNat : Nat) : Int) = g.edges[j].1 by omega, show ((g.edges[j].2.1.toNat : Nat) : Int) = g.edges[j].2.1 by omega, show ((q.1.toNat : Nat) : Int) = q.1 by omega]
          by_cases hR : Rch g v t g.edges[j].1 (k : Int)
          · rw [if_pos hR, if_pos (.ride j hj hR hq)]; omega
          · rw [if_neg hR]; split <;> omega
    have hm := B.mid.most _ hadm x y hx hy
    refine Classical.byContradiction fun hn => ?_
    rw [if_neg hn] at hm
    omega
  · intro h
    have key : ∀ a b : Int, Rch g v t a b → tat X a.toNat b.toNat < 1099511627776 := by
      intro a b h
      induction h with
      | base ha =>
        have hv := alive_hor R ha
        have := B.mid.le v.toNat t.toNat hv.1 (by omega)
        unfold firstT at this
        rw [if_pos ⟨ha, by omega, by omega⟩] at this
        omega
      | @wait a b h ha ih =>
        have hp := h.place R h0
        have hp2 := (h.wait ha).place R h0
        have hmem : (a.toNat, b.toNat, a.toNat, b.toNat + 1, (0 : Int)) ∈ allA g pr g.hor.toNat := mem_allA.2 ⟨b.toNat, by omega, .inl (mem_waitA.2 ⟨a.toNat, by omega, by omega, by rw [show ((b.toNat : Nat) : Int) = b by omega, show ((a.toNat : Nat) : Int) = a by omega]; exact ha, rfl⟩)⟩
        have hc := B.cl _ hmem
        unfold dst src at hc
        simp only at hc
        rw [show (b + 1).toNat = b.toNat + 1 by omega]
        omega
      | @ride b q j hj h hq ih =>
        have hp := h.place R h0
        have hp2 := (Rch.ride j hj h hq).place R h0
        have hmem : (g.edges[j].1.toNat, b.toNat, g.edges[j].2.1.toNat, q.1.toNat, pr q.2) ∈ allA g pr g.hor.toNat := mem_allA.2 ⟨b.toNat, by omega, .inr ((mem_legA (Nat.le_refl _)).2 ⟨j, hj, q, hj, by rw [show ((b.toNat : Nat) : Int) = b by omega]; exact hq, rfl⟩)⟩
        have hc := B.cl _ hmem
        have hpp := hpr q.2 (lands_lt R hj hq).2.2.2.2.1 (lands_lt R hj hq).2.2.2.2.2
        have h3 := (hlt _ _ (by omega) (by omega)).1 ih
        unfold dst src at hc
        simp only at hc
        omega
    have := key _ _ h
    simpa using this

end Go.Proofs.Ytanbbkoleekmjai

namespace Go.Proofs.Ytanbbkoleekmjai

/-- does a ride leave v at t or later, by one who is there at t? -/
def leavB (g : Gr) (v t : Int) (r : Ri) : Bool := decide (r.2.2.1 = v) && (decide (t ≤ r.2.1) && (aliveB t g.lives v && aliveB r.2.1 g.lives v))
def outR (g : Gr) (v t : Int) (l : List Ri) : List Hp := (l.filter (leavB g v t)).map fun r => (r.1, r.2.1)
theorem outR_nil (g : Gr) (v t : Int) : outR g v t [] = [] := rfl
theorem outR_app (g : Gr) (v t : Int) (a b : List Ri) : outR g v t (a ++ b) = outR g v t a ++ outR g v t b := by simp [outR]
theorem outR_one (g : Gr) (v t : Int) (r : Ri) : outR g v t [r] = if leavB g v t r = true then [(r.1, r.2.1)] else [] := by
  unfold outR; rw [List.filter_cons]; split <;> simp
theorem outR_take {g : Gr} {v t : Int} {l : List Ri} {k : Nat} (hk : k < l.length) : outR g v t (l.take (k + 1)) = outR g v t (l.take k) ++ if leavB g v t l[k] = true then [(l[k].1, l[k].2.1)] else [] := by
  rw [List.take_succ_eq_append_getElem hk, outR_app, outR_one]
theorem outR_len (g : Gr) (v t : Int) (l : List Ri) : (outR g v t l).length ≤ l.length := by unfold outR; rw [List.length_map]; exact List.length_filter_le _ _
theorem outR_at {g : Gr} (R : Right g) {v t d : Int} : ∀ i, i ≤ g.edges.length → outR g v t (ridesAt g d i) = if t ≤ d ∧ aliveB t g.lives v = true then outAt g v d i else []
  | 0, _ => by simp [ridesAt, outAt, outR]
  | i + 1, hi => by
    have hi' : i < g.edges.length := by omega
    rw [ridesAt, outAt, outR_app, outR_at R i (by omega), edge_getD hi']
    cases hq : lands g g.edges[i] d with
    | none => simp [outR_nil]
    | some q =>
      obtain ⟨l1, l2, l3, l4, _⟩ := lands_lt R hi' hq
      simp only [outR_one]
      by_cases hv : g.edges[i].1 = v
      · rw [hv] at l2
        by_cases hc : t ≤ d ∧ aliveB t g.lives v = true
        · have e : leavB g v t ((i : Int), d, g.edges[i].1, g.edges[i].2.1, q.1, q.2) = true := by unfold leavB; simp only [hv, l2, hc.1, hc.2]; simp
          rw [if_pos hc, if_pos hc, if_pos e, if_pos ⟨rfl, hv⟩]
        · have e : ¬ leavB g v t ((i : Int), d, g.edges[i].1, g.edges[i].2.1, q.1, q.2) = true := by
            unfold leavB; simp only [hv, l2]; simp; intro h; exact Classical.byContradiction fun k => hc ⟨h, by simpa using k⟩
          rw [if_neg hc, if_neg hc, if_neg e]; rfl
      · have e : ¬ leavB g v t ((i : Int), d, g.edges[i].1, g.edges[i].2.1, q.1, q.2) = true := by unfold leavB; simp [hv]
        rw [if_neg e, if_neg (fun h => hv h.2 : ¬ ((some q).isSome = true ∧ g.edges[i].1 = v))]; simp
theorem outR_early {g : Gr} (R : Right g) {v t : Int} : ∀ k : Nat, (k : Int) ≤ t → outR g v t (ridesTo g k) = []
  | 0, _ => rfl
  | k + 1, h => by rw [ridesTo, outR_app, outR_early R k (by omega), outR_at R _ (Nat.le_refl _), if_neg (by omega)]; rfl
theorem outR_to {g : Gr} (R : Right g) {v : Int} {t : Nat} : ∀ k : Nat, outR g v (t : Int) (ridesTo g (t + k)) = if aliveB (t : Int) g.lives v = true then outsTo g v (t : Int) k else []
  | 0 => by rw [Nat.add_zero, outR_early R t (by omega)]; simp [outsTo]
  | k + 1 => by
    rw [← Nat.add_assoc, ridesTo, outR_app, outR_to R k, outR_at R _ (Nat.le_refl _), outsTo, show ((t + k : Nat) : Int) = (t : Int) + (k : Int) by omega]
    by_cases ha : aliveB (t : Int) g.lives v = true
    · rw [if_pos ha, if_pos ha, if_pos ⟨by omega, ha⟩]
    · rw [if_neg ha, if_neg ha, if_neg (fun h => ha h.2)]; rfl
theorem outR_all {g : Gr} (R : Right g) {v t : Int} (h0 : 0 ≤ t) (h1 : t < g.hor) : outR g v t (ridesF g) = outsF g v t := by
  have e : t = ((t.toNat : Nat) : Int) := by omega
  have e2 : g.hor.toNat = t.toNat + (g.hor - t).toNat := by omega
  have h := outR_to R (v := v) (t := t.toNat) (g.hor - t).toNat
  rw [← e, ← e2] at h
  exact h

/-- where a hop's edge leads -/
def edB (g : Gr) (h : Hp) : Int := (g.edges.getD h.1.toNat (0, 0, [])).2.1
/-- some hops lead from v, from its time on, to q at its time; each vertex's time is later than that of the one ahead -/
structure WayTo (g : Gr) (T : List Int) (v q : Int) (l : List Hp) : Prop where
  go : ∀ c, ∃ c', goF g (some (v, T.getD v.toNat 0, c)) l = some (q, T.getD q.toNat 0, c')
  up : ∀ h ∈ l, T.getD v.toNat 0 < T.getD (edB g h).toNat 0
  srt : l.Pairwise fun a b => T.getD (edB g a).toNat 0 < T.getD (edB g b).toNat 0
  len : (l.length : Int) + T.getD v.toNat 0 ≤ T.getD q.toNat 0
  rng : ∀ h ∈ l, (0 ≤ h.1 ∧ h.1 < g.edges.length) ∧ 0 ≤ edB g h
theorem wayTo_nil (g : Gr) (T : List Int) (q : Int) : WayTo g T q q [] := ⟨fun c => ⟨c, rfl⟩, fun h hh => by simp at hh, List.Pairwise.nil, by simp, fun h hh => by simp at hh⟩
theorem WayTo.cons {g : Gr} {T : List Int} {v q : Int} {l : List Hp} (W : WayTo g T v q l) {r : Ri} (hr : RideOk g r) (hv : r.2.2.2.1 = v) (ha : r.2.2.2.2.1 = T.getD v.toNat 0) (hd : T.getD r.2.2.1.toNat 0 ≤ r.2.1) : WayTo g T r.2.2.1 q ((r.1, r.2.1) :: l) ∧ T.getD r.2.2.1.toNat 0 < T.getD v.toNat 0 := by
  have hlt := hr.lt
  have hb := hr.b0
  have eB : edB g (r.1, r.2.1) = v := by unfold edB; rw [hr.edB, hv]
  refine ⟨⟨fun c => ?_, fun h hh => ?_, ?_, ?_, fun h hh => ?_⟩, by omega⟩
  · have h1 := hr.hop (c := c) hd
    rw [goF_cons, Option.bind_some, h1, hv, ha]
    exact W.go _
  · rcases List.mem_cons.1 hh with rfl | hh
    · rw [eB]; omega
    · have := W.up h hh; omega
  · rw [List.pairwise_cons]
    refine ⟨fun b hb => ?_, W.srt⟩
    rw [eB]; exact W.up b hb
  · have := W.len
    rw [List.length_cons]; omega
  · rcases List.mem_cons.1 hh with rfl | hh
    · exact ⟨hr.e0, by rw [eB]; omega⟩
    · exact W.rng h hh

end Go.Proofs.Ytanbbkoleekmjai

namespace Go.Proofs.Ytanbbkoleekmjai

/-- one can be at v at t for p, from what is told at first (F), each ride at its price (pr) -/
inductive Pd (g : Gr) (F : Int → Int → Option Int) (pr : Ri → Int) : Int → Int → Int → Prop
  | base {v t p : Int} : F v t = some p → Pd g F pr v t p
  | wait {v t p : Int} : Pd g F pr v t p → aliveB (t + 1) g.lives v = true → Pd g F pr v (t + 1) p
  | ride {p : Int} {r : Ri} : r ∈ ridesF g → Pd g F pr r.2.2.1 r.2.1 p → Pd g F pr r.2.2.2.1 r.2.2.2.2.1 (p + pr r)
/-- what is told at first is told of places that are there, from s0 on -/
def FOk (g : Gr) (F : Int → Int → Option Int) (s0 : Int) : Prop := ∀ v t p, F v t = some p → 0 ≤ v ∧ aliveB t g.lives v = true ∧ s0 ≤ t
theorem Pd.place {g : Gr} (R : Right g) {F : Int → Int → Option Int} {s0 : Int} (hF : FOk g F s0) {pr : Ri → Int} {v t p : Int} (h : Pd g F pr v t p) : 0 ≤ v ∧ v < g.lives.length ∧ aliveB t g.lives v = true ∧ 0 ≤ t ∧ t < g.hor ∧ s0 ≤ t := by
  have key : 0 ≤ v ∧ aliveB t g.lives v = true ∧ s0 ≤ t := by
    induction h with
    | base h => exact hF _ _ _ h
    | wait _ h ih => exact ⟨ih.1, h, by omega⟩
    | ride hr _ ih => have := mem_rides R hr; have h1 := this.lt; exact ⟨this.b0.1, this.alB, by omega⟩
  have := alive_hor R key.2.1
  exact ⟨key.1, by omega, key.2.1, this.2.1, this.2.2, key.2.2⟩

/-- a state's price, and the ride by which one came -/
abbrev Vs := Int × Ri
abbrev Mp := Int → Int → Option Vs
def mset (M : Mp) (v t : Int) (x : Vs) : Mp := fun a b => if a = v ∧ b = t then some x else M a b
theorem mset_same (M : Mp) (v t : Int) (x : Vs) : mset M v t x v t = some x := by unfold mset; rw [if_pos ⟨rfl, rfl⟩]
theorem mset_other (M : Mp) {v t a b : Int} (x : Vs) (h : ¬ (a = v ∧ b = t)) : mset M v t x a b = M a b := by unfold mset; rw [if_neg h]
/-- does a new price stand, where old ones are? -/
def lessB (o : Option Vs) (p : Int) : Bool := match o with | none => true | some x => decide (p < x.1)
def leqB (o : Option Vs) (p : Int) : Bool := match o with | none => true | some x => decide (p ≤ x.1)
/-- going along a ride -/
def takeM (M : Mp) (r : Ri) (p : Int) : Mp :=
  match M r.2.2.1 r.2.1 with
  | none => M
  | some h => if lessB (M r.2.2.2.1 r.2.2.2.2.1) (h.1 + p) = true then mset M r.2.2.2.1 r.2.2.2.2.1 (h.1 + p, r) else M
/-- waiting at a vertex -/
def waitV (g : Gr) (now : Int) (M : Mp) (v : Int) : Mp :=
  match M v (now - 1) with
  | none => M
  | some x => if aliveB now g.lives v = true then (if leqB (M v now) x.1 = true then mset M v now x else M) else M
def waitM (g : Gr) (now : Int) (M : Mp) : Nat → Mp
  | 0 => M
  | k + 1 => waitV g now (waitM g now M k) (k : Int)

/-- the states behind some rounds: now the time, k vertices waited at, i rides taken; all that is taken left at dp or ahead of it -/
structure SpI (g : Gr) (F : Int → Int → Option Int) (pr : Ri → Int) (s0 now dp : Int) (k i : Nat) (M : Mp) : Prop where
  snd : ∀ v t x, M v t = some x → Pd g F pr v t x.1
  fst : ∀ v t p, F v t = some p → ∃ x, M v t = some x ∧ x.1 ≤ p
  wt : ∀ (v t : Int) (x : Vs), (t + 1 < now ∨ (t + 1 = now ∧ v < (k : Int))) → M v t = some x → aliveB (t + 1) g.lives v = true → ∃ y, M v (t + 1) = some y ∧ y.1 ≤ x.1
  rd : ∀ r ∈ (ridesF g).take i, ∀ x, M r.2.2.1 r.2.1 = some x → ∃ y, M r.2.2.2.1 r.2.2.2.2.1 = some y ∧ y.1 ≤ x.1 + pr r
  done : ∀ r ∈ (ridesF g).take i, r.2.1 ≤ dp
  ahead : ∀ r ∈ (ridesF g).drop i, now ≤ r.2.1 ∨ r.2.1 < s0
  way : ∀ v t x, M v t = some x → (∃ t0, F v t0 = some x.1 ∧ t0 ≤ t) ∨ (x.2 ∈ (ridesF g).take i ∧ x.2.2.2.2.1 = v ∧ x.2.2.2.2.2.1 ≤ t ∧ ∃ y, M x.2.2.2.1 x.2.2.1 = some y ∧ y.1 + pr x.2 = x.1)

/-- a map that tells just what is told at first -/
theorem SpI.start {g : Gr} {F : Int → Int → Option Int} {pr : Ri → Int} {s0 : Int} (hF : FOk g F s0) {M : Mp} (hM : ∀ v t, (M v t).map (·.1) = F v t) : SpI g F pr s0 s0 (s0 - 1) 0 0 M := by
  have e : ∀ v t x, M v t = some x → F v t = some x.1 := fun v t x h => by rw [← hM, h]; rfl
  refine ⟨fun v t x h => .base (e v t x h), fun v t p h => ?_, fun v t x h hx _ => ?_, fun r hr => by simp at hr, fun r hr => by simp at hr, fun r _ => by omega, fun v t x h => .inl ⟨t, e v t x h, Int.le_refl _⟩⟩
  · rw [← hM] at h
    cases hx : M v t with
    | none => rw [hx] at h; cases h
    | some x => rw [hx] at h; simp at h; exact ⟨x, rfl, by omega⟩
  · have := (hF _ _ _ (e v t x hx)).2.2
    omega

/-- waiting at one vertex more -/
theorem SpI.wait {g : Gr} {F : Int → Int → Option Int} {pr : Ri → Int} {s0 now : Int} {k i : Nat} {M : Mp} (h : SpI g F pr s0 now (now - 1) k i M) : SpI g F pr s0 now (now - 1) (k + 1) i (waitV g now M (k : Int)) := by
  have keep : (∀ x, M (k : Int) (now - 1) = some x → aliveB now g.lives (k : Int) = true → ∃ y, M (k : Int) now = some y ∧ y.1 ≤ x.1) → SpI g F pr s0 now (now - 1) (k + 1) i M := fun hk =>
    ⟨h.snd, h.fst, fun v t x ht hx ha => by
        by_cases e : t + 1 = now ∧ v = (k : Int)
        · obtain ⟨e1, rfl⟩ := e
          have e2 : t = now - 1 := by omega
          subst e2
          rw [e1] at ha ⊢
          exact hk x hx ha
        · exact h.wt v t x (by omega) hx ha, h.rd, h.done, h.ahead, h.way⟩
  unfold waitV
  cases hx : M (k : Int) (now - 1) with
  | none => exact keep fun x hx' => by rw [hx] at hx'; cases hx'
  | some x =>
    simp only
    split
    · rename_i ha
      split
      · rename_i hl
        have hPx := h.snd _ _ _ hx
        have hPn : Pd g F pr (k : Int) now x.1 := by
          have := hPx.wait (by rw [show now - 1 + 1 = now by omega]; exact ha)
          rwa [show now - 1 + 1 = now by omega] at this
        have hle : ∀ y, M (k : Int) now = some y → x.1 ≤ y.1 := fun y hy => by
          unfold leqB at hl
          rw [hy] at hl
          simpa using hl
        -- a place that was told of is told of, for no more
        have down : ∀ a b y, M a b = some y → ∃ z, mset M (k : Int) now x a b = some z ∧ z.1 ≤ y.1 := fun a b y hy => by
          by_cases e : a = (k : Int) ∧ b = now
          · obtain ⟨rfl, rfl⟩ := e
            exact ⟨x, mset_same _ _ _ _, hle y hy⟩
          · exact ⟨y, by rw [mset_other _ _ e]; exact hy, Int.le_refl _⟩
        refine ⟨fun v t y hy => ?_, fun v t p hp => ?_, fun v t y ht hy ha' => ?_, fun r hr y hy => ?_, h.done, h.ahead, fun v t y hy => ?_⟩
        · by_cases e : v = (k : Int) ∧ t = now
          · obtain ⟨rfl, rfl⟩ := e
            rw [mset_same] at hy; cases hy; exact hPn
          · rw [mset_other _ _ e] at hy; exact h.snd v t y hy
        · obtain ⟨y, hy, hyp⟩ := h.fst v t p hp
          obtain ⟨z, hz, hzy⟩ := down v t y hy
          exact ⟨z, hz, by omega⟩
        · have e : ¬ (v = (k : Int) ∧ t = now) := by omega
          rw [mset_other _ _ e] at hy
          by_cases e2 : t + 1 = now ∧ v = (k : Int)
          · obtain ⟨e1, rfl⟩ := e2
            have e3 : t = now - 1 := by omega
            subst e3
            rw [hx] at hy
            cases hy
            rw [e1]
            exact ⟨x, mset_same _ _ _ _, Int.le_refl _⟩
          · obtain ⟨z, hz, hzy⟩ := h.wt v t y (by omega) hy ha'
            obtain ⟨u, hu, huz⟩ := down v (t + 1) z hz
            exact ⟨u, hu, by omega⟩
        · have hd := h.done r hr
          rw [mset_other _ _ (by omega)] at hy
          obtain ⟨z, hz, hzy⟩ := h.rd r hr y hy
          obtain ⟨u, hu, huz⟩ := down _ _ z hz
          exact ⟨u, hu, by omega⟩
        · have old : ∀ t' y, t' ≤ t → M v t' = some y → (∃ t0, F v t0 = some y.1 ∧ t0 ≤ t) ∨ (y.2 ∈ (ridesF g).take i ∧ y.2.2.2.2.1 = v ∧ y.2.2.2.2.2.1 ≤ t ∧ ∃ z, mset M (k : Int) now x y.2.2.2.1 y.2.2.1 = some z ∧ z.1 + pr y.2 = y.1) := fun t' y ht' hy => by
            rcases h.way v t' y hy with ⟨t0, h1, h2⟩ | ⟨h1, h2, h3, z, h4, h5⟩
            · exact .inl ⟨t0, h1, by omega⟩
            · refine .inr ⟨h1, h2, by omega, z, ?_, h5⟩
              have hd := h.done _ h1
              rw [mset_other _ _ (by omega)]; exact h4
          by_cases e : v = (k : Int) ∧ t = now
          · obtain ⟨rfl, rfl⟩ := e
            rw [mset_same] at hy; cases hy
            exact old _ _ (by omega) hx
          · rw [mset_other _ _ e] at hy
            exact old _ _ (Int.le_refl _) hy
      · rename_i hl
        refine keep fun x' hx' _ => ?_
        rw [hx] at hx'; cases hx'
        unfold leqB at hl
        cases hy : M (k : Int) now with
        | none => rw [hy] at hl; simp at hl
        | some y => rw [hy] at hl; simp at hl; exact ⟨y, rfl, by omega⟩
    · rename_i ha
      exact keep fun _ _ h => absurd h ha
theorem SpI.waits {g : Gr} {F : Int → Int → Option Int} {pr : Ri → Int} {s0 now : Int} {i : Nat} {M : Mp} (h : SpI g F pr s0 now (now - 1) 0 i M) : ∀ k, SpI g F pr s0 now (now - 1) k i (waitM g now M k)
  | 0 => h
  | k + 1 => (h.waits k).wait
/-- from waiting to riding -/
theorem SpI.turn {g : Gr} {F : Int → Int → Option Int} {pr : Ri → Int} {s0 now : Int} {k i : Nat} {M : Mp} (h : SpI g F pr s0 now (now - 1) k i M) : SpI g F pr s0 now now k i M := { h with done := fun r hr => by have := h.done r hr; omega }
/-- one ride more -/
theorem SpI.take {g : Gr} (R : Right g) {F : Int → Int → Option Int} {pr : Ri → Int} {s0 now : Int} (hF : FOk g F s0) {k i : Nat} {M : Mp} (h : SpI g F pr s0 now now k i M) (hi : i < (ridesF g).length) (hd : (ridesF g)[i].2.1 ≤ now) :
    SpI g F pr s0 now now k (i + 1) (takeM M (ridesF g)[i] (pr (ridesF g)[i])) := by
  have hr : (ridesF g)[i] ∈ ridesF g := List.getElem_mem hi
  have hok := mem_rides R hr
  have hahead := h.ahead (ridesF g)[i] (by rw [List.drop_eq_getElem_cons hi]; exact List.mem_cons_self)
  have htk : (ridesF g).take (i + 1) = (ridesF g).take i ++ [(ridesF g)[i]] := List.take_succ_eq_append_getElem hi
  have hdr : ∀ q ∈ (ridesF g).drop (i + 1), q ∈ (ridesF g).drop i := fun q hq => by rw [List.drop_eq_getElem_cons hi]; exact List.mem_cons_of_mem _ hq
  have hsub : ∀ q ∈ (ridesF g).take i, q ∈ (ridesF g).take (i + 1) := fun q hq => by rw [htk]; exact List.mem_append_left _ hq
  obtain ⟨r, hrr⟩ : ∃ r, r = (ridesF g)[i] := ⟨_, rfl⟩
  rw [← hrr] at hr hok hahead htk hd ⊢
  have hlt := hok.lt
  have hdone : ∀ q ∈ (ridesF g).take (i + 1), q.2.1 ≤ now := fun q hq => by
    rw [htk, List.mem_append, List.mem_singleton] at hq
    rcases hq with hq | rfl
    · exact h.done q hq
    · exact hd
  have keep : (∀ x, M r.2.2.1 r.2.1 = some x → ∃ y, M r.2.2.2.1 r.2.2.2.2.1 = some y ∧ y.1 ≤ x.1 + pr r) → SpI g F pr s0 now now k (i + 1) M := fun hk =>
    ⟨h.snd, h.fst, h.wt, fun q hq x hx => by
        rw [htk, List.mem_append, List.mem_singleton] at hq
        rcases hq with hq | rfl
        · exact h.rd q hq x hx
        · exact hk x hx, hdone, fun q hq => h.ahead q (hdr q hq), fun v t x hx => by
        rcases h.way v t x hx with h1 | ⟨h1, h2⟩
        · exact .inl h1
        · exact .inr ⟨hsub _ h1, h2⟩⟩
  unfold takeM
  cases hx : M r.2.2.1 r.2.1 with
  | none => exact keep fun x hx' => by rw [hx] at hx'; cases hx'
  | some x =>
    simp only
    have hP := h.snd _ _ _ hx
    have hpl := hP.place R hF
    have hnow : r.2.1 = now := by omega
    split
    · rename_i hl
      have hle : ∀ y, M r.2.2.2.1 r.2.2.2.2.1 = some y → x.1 + pr r ≤ y.1 := fun y hy => by
        unfold lessB at hl
        rw [hy] at hl
        simp at hl
        omega
      have down : ∀ a b y, M a b = some y → ∃ z, mset M r.2.2.2.1 r.2.2.2.2.1 (x.1 + pr r, r) a b = some z ∧ z.1 ≤ y.1 := fun a b y hy => by
        by_cases e : a = r.2.2.2.1 ∧ b = r.2.2.2.2.1
        · obtain ⟨rfl, rfl⟩ := e
          exact ⟨_, mset_same _ _ _ _, hle y hy⟩
        · exact ⟨y, by rw [mset_other _ _ e]; exact hy, Int.le_refl _⟩
      refine ⟨fun v t y hy => ?_, fun v t p hp => ?_, fun v t y ht hy ha' => ?_, fun q hq y hy => ?_, hdone, fun q hq => h.ahead q (hdr q hq), fun v t y hy => ?_⟩
      · by_cases e : v = r.2.2.2.1 ∧ t = r.2.2.2.2.1
        · obtain ⟨rfl, rfl⟩ := e
          rw [mset_same] at hy; cases hy; exact .ride hr hP
        · rw [mset_other _ _ e] at hy; exact h.snd v t y hy
      · obtain ⟨y, hy, hyp⟩ := h.fst v t p hp
        obtain ⟨z, hz, hzy⟩ := down v t y hy
        exact ⟨z, hz, by omega⟩
      · rw [mset_other _ _ (by omega)] at hy
        obtain ⟨z, hz, hzy⟩ := h.wt v t y ht hy ha'
        obtain ⟨u, hu, huz⟩ := down v (t + 1) z hz
        exact ⟨u, hu, by omega⟩
      · have hqd := hdone q hq
        rw [mset_other _ _ (by omega)] at hy
        rw [htk, List.mem_append, List.mem_singleton] at hq
        rcases hq with hq | rfl
        · obtain ⟨z, hz, hzy⟩ := h.rd q hq y hy
          obtain ⟨u, hu, huz⟩ := down _ _ z hz
          exact ⟨u, hu, by omega⟩
        · rw [hx] at hy; cases hy
          exact ⟨_, mset_same _ _ _ _, Int.le_refl _⟩
      · by_cases e : v = r.2.2.2.1 ∧ t = r.2.2.2.2.1
        · obtain ⟨rfl, rfl⟩ := e
          rw [mset_same] at hy; cases hy
          refine .inr ⟨by rw [htk]; exact List.mem_append_right _ (List.mem_singleton.2 rfl), rfl, Int.le_refl _, x, ?_, rfl⟩
          rw [mset_other _ _ (by simp only; omega)]; exact hx
        · rw [mset_other _ _ e] at hy
          rcases h.way v t y hy with h1 | ⟨h1, h2, h3, z, h4, h5⟩
          · exact .inl h1
          · refine .inr ⟨hsub _ h1, h2, h3, z, ?_, h5⟩
            have hqd := hdone _ (hsub _ h1)
            rw [mset_other _ _ (by omega)]; exact h4
    · rename_i hl
      refine keep fun x' hx' => ?_
      rw [hx] at hx'; cases hx'
      unfold lessB at hl
      cases hy : M r.2.2.2.1 r.2.2.2.2.1 with
      | none => rw [hy] at hl; simp at hl
      | some y => rw [hy] at hl; simp at hl; exact ⟨y, rfl, by omega⟩
/-- the next time -/
theorem SpI.next {g : Gr} (R : Right g) {F : Int → Int → Option Int} {pr : Ri → Int} {s0 now : Int} (hF : FOk g F s0) {i : Nat} {M : Mp} (h : SpI g F pr s0 now now g.lives.length i M) (hd : ∀ hi : i < (ridesF g).length, now < (ridesF g)[i].2.1) :
    SpI g F pr s0 (now + 1) (now + 1 - 1) 0 i M := by
  refine { h with wt := fun v t x ht hx ha => h.wt v t x ?_ hx ha, done := fun r hr => by have := h.done r hr; omega, ahead := fun r hr => ?_ }
  · have := (h.snd v t x hx).place R hF
    omega
  · by_cases hi : i < (ridesF g).length
    · have hs : (ridesF g).Pairwise fun a b => a.2.1 ≤ b.2.1 := ridesTo_sorted g _
      have hs2 := hs.drop (i := i)
      rw [List.drop_eq_getElem_cons hi] at hs2 hr
      have := hd hi
      rcases List.mem_cons.1 hr with rfl | hr
      · omega
      · have := (List.pairwise_cons.1 hs2).1 r hr; omega
    · rw [List.drop_eq_nil_of_le (by omega)] at hr; simp at hr

/-- at the end: what is told is the least -/
structure SpE (g : Gr) (F : Int → Int → Option Int) (pr : Ri → Int) (M : Mp) : Prop where
  snd : ∀ v t x, M v t = some x → Pd g F pr v t x.1
  all : ∀ v t p, Pd g F pr v t p → ∃ x, M v t = some x ∧ x.1 ≤ p
  way : ∀ v t x, M v t = some x → (∃ t0, F v t0 = some x.1 ∧ t0 ≤ t) ∨ (x.2 ∈ ridesF g ∧ x.2.2.2.2.1 = v ∧ x.2.2.2.2.2.1 ≤ t ∧ ∃ y, M x.2.2.2.1 x.2.2.1 = some y ∧ y.1 + pr x.2 = x.1)
theorem SpI.fin {g : Gr} (R : Right g) {F : Int → Int → Option Int} {pr : Ri → Int} {s0 dp : Int} (hF : FOk g F s0) {i : Nat} {M : Mp} (h : SpI g F pr s0 g.hor dp 0 i M) : SpE g F pr M := by
  refine ⟨h.snd, fun v t p hp => ?_, fun v t x hx => ?_⟩
  · induction hp with
    | base hp => exact h.fst _ _ _ hp
    | @wait v t p hp ha ih =>
      obtain ⟨x, hx, hxp⟩ := ih
      have := alive_hor R ha
      obtain ⟨y, hy, hyx⟩ := h.wt v t x (by omega) hx ha
      exact ⟨y, hy, by omega⟩
    | @ride p r hr hp ih =>
      obtain ⟨x, hx, hxp⟩ := ih
      have hmem : r ∈ (ridesF g).take i := by
        have hr' := hr
        rw [← List.take_append_drop i (ridesF g), List.mem_append] at hr'
        rcases hr' with h1 | h1
        · exact h1
        · have := h.ahead r h1
          have h2 := (mem_rides R hr).lt
          have h3 := (mem_rides R hr).hor
          have := (h.snd _ _ _ hx).place R hF
          omega
      obtain ⟨y, hy, hyx⟩ := h.rd r hmem x hx
      exact ⟨y, hy, by omega⟩
  · rcases h.way v t x hx with h1 | ⟨h1, h2⟩
    · exact .inl h1
    · exact .inr ⟨List.mem_of_mem_take h1, h2⟩
/-- how many states there are at most -/
theorem Pd.stay {g : Gr} {F : Int → Int → Option Int} {pr : Ri → Int} {v t p : Int} (h : Pd g F pr v t p) (ha : aliveB t g.lives v = true) : ∀ n : Nat, aliveB (t + n) g.lives v = true → Pd g F pr v (t + n) p
  | 0, _ => by simpa using h
  | n + 1, hn => by
    have h1 : aliveB (t + n) g.lives v = true := alive_mid ha hn (by omega) (by omega)
    have h2 := (h.stay ha n h1).wait (by rw [show t + (n : Int) + 1 = t + ((n + 1 : Nat) : Int) by omega]; exact hn)
    rw [show t + (n : Int) + 1 = t + ((n + 1 : Nat) : Int) by omega] at h2
    exact h2
theorem Pd.waits {g : Gr} (R : Right g) {F : Int → Int → Option Int} {s0 : Int} (hF : FOk g F s0) {pr : Ri → Int} {v t t' p : Int} (h : Pd g F pr v t p) (ht : t ≤ t') (ha : aliveB t' g.lives v = true) : Pd g F pr v t' p := by
  have e : t' = t + ((t' - t).toNat : Int) := by omega
  rw [e] at ha ⊢
  exact h.stay (h.place R hF).2.2.1 _ ha

/-- what is told at first of one place -/
def F1 (v0 t0 : Int) : Int → Int → Option Int := fun v t => if v = v0 ∧ t = t0 then some 0 else none
theorem F1_ok {g : Gr} {v0 t0 : Int} (h0 : 0 ≤ v0) (ha : aliveB t0 g.lives v0 = true) : FOk g (F1 v0 t0) t0 := fun v t p h => by
  unfold F1 at h
  split at h
  · rename_i e; obtain ⟨rfl, rfl⟩ := e; exact ⟨h0, ha, Int.le_refl _⟩
  · cases h
/-- one can be at v at t for p, from v0 at t0 -/
def Pay (g : Gr) (pr : Ri → Int) (v0 t0 v t p : Int) : Prop := aliveB t0 g.lives v0 = true ∧ Pd g (F1 v0 t0) pr v t p
/-- the least prices of each vertex -/
structure LeastIs (g : Gr) (pr : Ri → Int) (v0 t0 : Int) (L : List Int) : Prop where
  len : L.length = g.lives.length
  is : ∀ v : Nat, v < g.lives.length → L.getD v 0 = 1099511627776 ∨ ∃ t, Pay g pr v0 t0 (v : Int) t (L.getD v 0)
  least : ∀ v : Nat, v < g.lives.length → ∀ t p, Pay g pr v0 t0 (v : Int) t p → L.getD v 0 ≤ p
/-- prices are from 0 to 1000 -/
def PrOk (g : Gr) (pr : Ri → Int) : Prop := ∀ r ∈ ridesF g, 0 ≤ pr r ∧ pr r ≤ 1000
theorem Pd.range {g : Gr} (R : Right g) {pr : Ri → Int} (hpr : PrOk g pr) {v0 t0 v t p : Int} (h0 : 0 ≤ v0) (ha : aliveB t0 g.lives v0 = true) (h : Pd g (F1 v0 t0) pr v t p) : 0 ≤ p ∧ p ≤ 1000 * (t - t0) := by
  induction h with
  | @base v t p h =>
    unfold F1 at h
    split at h
    · rename_i e; obtain ⟨rfl, rfl⟩ := e; cases h; omega
    · cases h
  | wait _ _ ih => omega
  | ride hr _ ih => have := hpr _ hr; have := (mem_rides R hr).lt; omega
theorem Pay.range {g : Gr} (R : Right g) {pr : Ri → Int} (hpr : PrOk g pr) {v0 t0 v t p : Int} (h0 : 0 ≤ v0) (h : Pay g pr v0 t0 v t p) : 0 ≤ p ∧ p ≤ 100000 := by
  have h1 := h.2.range R hpr h0 h.1
  have h2 := (h.2.place R (F1_ok h0 h.1)).2.2.2
  have := R.hor
  have := (alive_hor R h.1).2
  omega
theorem list_ext_gd {a b : List Int} (h : a.length = b.length) (k : ∀ v, v < a.length → a.getD v 0 = b.getD v 0) : a = b := by
  apply List.ext_getElem h
  intro v h1 h2
  have := k v h1
  rw [List.getD_eq_getElem?_getD, List.getD_eq_getElem?_getD, List.getElem?_eq_getElem h1, List.getElem?_eq_getElem h2] at this
  exact this
theorem least_unique {g : Gr} (R : Right g) {pr : Ri → Int} (hpr : PrOk g pr) {v0 t0 : Int} (h0 : 0 ≤ v0) {L L' : List Int} (h : LeastIs g pr v0 t0 L) (h' : LeastIs g pr v0 t0 L') : L = L' := by
  refine list_ext_gd (by rw [h.len, h'.len]) fun v hv => ?_
  rw [h.len] at hv
  rcases h.is v hv with e | ⟨t, e⟩ <;> rcases h'.is v hv with e' | ⟨t', e'⟩
  · rw [e, e']
  · have h1 := h.least v hv _ _ e'
    have h2 := (e'.range R hpr h0)
    omega
  · have h1 := h'.least v hv _ _ e
    have h2 := (e.range R hpr h0)
    omega
  · have h1 := h.least v hv _ _ e'
    have h2 := h'.least v hv _ _ e
    omega

end Go.Proofs.Ytanbbkoleekmjai

namespace Go.Proofs.Ytanbbkoleekmjai

/-- a number from -10^9 to 10^9 -/
def nearB (x : Int) : Prop := -1000000000 ≤ x ∧ x ≤ 1000000000

/-- the first k pairs are near -/
def Near (l : List (Int × Int)) (k : Nat) : Prop := ∀ i, i < k → nearB (l.getD i (0, 0)).1 ∧ nearB (l.getD i (0, 0)).2
def nearDec (l : List (Int × Int)) (k : Nat) : Decidable (Near l k) := by unfold Near nearB; infer_instance

/-- the first k pairs rise and don't touch -/
def Form (l : List (Int × Int)) (k : Nat) : Prop := ∀ i, i < k → (l.getD i (0, 0)).1 < (l.getD i (0, 0)).2 ∧ (0 < i → (l.getD (i - 1) (0, 0)).2 < (l.getD i (0, 0)).1)
def goodDec (l : List (Int × Int)) (k : Nat) : Decidable (Near l k ∧ Form l k) := by unfold Near Form nearB; infer_instance

/-- what checkBounds answers -/
def cbs (l : List (Int × Int)) : Int := if 200 < l.length then 2 else @ite Int (Near l l.length) (nearDec l l.length) 0 5
/-- what Check answers -/
def chk (l : List (Int × Int)) : Int := if 200 < l.length then 2 else @ite Int (Near l l.length ∧ Form l l.length) (goodDec l l.length) 0 5

theorem near_succ {l : List (Int × Int)} {k : Nat} (h : Near l k) (h1 : nearB (l.getD k (0, 0)).1) (h2 : nearB (l.getD k (0, 0)).2) : Near l (k + 1) := by
  intro i hi
  by_cases e : i = k
  · subst e; exact ⟨h1, h2⟩
  · exact h i (by omega)
theorem form_succ {l : List (Int × Int)} {k : Nat} (h : Form l k) (h1 : (l.getD k (0, 0)).1 < (l.getD k (0, 0)).2) (h2 : 0 < k → (l.getD (k - 1) (0, 0)).2 < (l.getD k (0, 0)).1) : Form l (k + 1) := by
  intro i hi
  by_cases e : i = k
  · subst e; exact ⟨h1, h2⟩
  · exact h i (by omega)

theorem cbs_large {l : List (Int × Int)} (h : 200 < l.length) : cbs l = 2 := by simp [cbs, h]
theorem cbs_ok {l : List (Int × Int)} (h : l.length ≤ 200) (hn : Near l l.length) : cbs l = 0 := by
  unfold cbs; rw [if_neg (by omega), if_pos hn]
theorem cbs_no {l : List (Int × Int)} {k : Nat} (h : l.length ≤ 200) (hk : k < l.length) (hn : ¬ (nearB (l.getD k (0, 0)).1 ∧ nearB (l.getD k (0, 0)).2)) : cbs l = 5 := by
  unfold cbs; rw [if_neg (by omega), if_neg (fun hh => hn (hh k hk))]
theorem cbs_cases (l : List (Int × Int)) : (cbs l = 2 ∧ 200 < l.length) ∨ (cbs l = 5 ∧ l.length ≤ 200 ∧ ¬ Near l l.length) ∨ (cbs l = 0 ∧ l.length ≤ 200 ∧ Near l l.length) := by
  unfold cbs
  by_cases h : 200 < l.length
  · exact .inl ⟨by rw [if_pos h], h⟩
  · rw [if_neg h]
    by_cases hn : Near l l.length
    · exact .inr (.inr ⟨by rw [if_pos hn], by omega, hn⟩)
    · exact .inr (.inl ⟨by rw [if_neg hn], by omega, hn⟩)
theorem chk_large {l : List (Int × Int)} (h : 200 < l.length) : chk l = 2 := by simp [chk, h]
theorem chk_ok {l : List (Int × Int)} (h : l.length ≤ 200) (hn : Near l l.length) (hf : Form l l.length) : chk l = 0 := by
  unfold chk; rw [if_neg (by omega), if_pos ⟨hn, hf⟩]
theorem chk_far {l : List (Int × Int)} (h : l.length ≤ 200) (hn : ¬ Near l l.length) : chk l = 5 := by
  unfold chk; rw [if_neg (by omega), if_neg (fun hh => hn hh.1)]
theorem chk_no {l : List (Int × Int)} {k : Nat} (h : l.length ≤ 200) (hk : k < l.length) (hn : ¬ ((l.getD k (0, 0)).1 < (l.getD k (0, 0)).2 ∧ (0 < k → (l.getD (k - 1) (0, 0)).2 < (l.getD k (0, 0)).1))) : chk l = 5 := by
  unfold chk; rw [if_neg (by omega), if_neg (fun hh => hn (hh.2 k hk))]
theorem chk_cases (l : List (Int × Int)) : chk l = 2 ∨ chk l = 5 ∨ (chk l = 0 ∧ l.length ≤ 200 ∧ Near l l.length ∧ Form l l.length) := by
  unfold chk
  by_cases h : 200 < l.length
  · exact .inl (by rw [if_pos h])
  · rw [if_neg h]
    by_cases hn : Near l l.length ∧ Form l l.length
    · exact .inr (.inr ⟨by rw [if_pos hn], by omega, hn⟩)
    · exact .inr (.inl (by rw [if_neg hn]))


/-- all ends of the pairs, in order -/
def flat (l : List (Int × Int)) : List Int := l.flatMap fun p => [p.1, p.2]
theorem flat_nil : flat [] = [] := rfl
theorem flat_cons (p : Int × Int) (l : List (Int × Int)) : flat (p :: l) = p.1 :: p.2 :: flat l := by simp [flat]
theorem flat_append (a b : List (Int × Int)) : flat (a ++ b) = flat a ++ flat b := by simp [flat]
theorem flat_length (l : List (Int × Int)) : (flat l).length = 2 * l.length := by
  induction l with
  | nil => rfl
  | cons p l ih => rw [flat_cons]; simp only [List.length_cons, ih]; omega
theorem take_succ_get {α : Type} (l : List α) (k : Nat) (hk : k < l.length) : l.take (k + 1) = l.take k ++ [l[k]] := by
  rw [List.take_add_one, List.getElem?_eq_getElem hk]; rfl
theorem flat_succ (l : List (Int × Int)) (k : Nat) (hk : k < l.length) : flat (l.take (k + 1)) = flat (l.take k) ++ [l[k].1, l[k].2] := by
  rw [take_succ_get l k hk, flat_append]; rfl
theorem flat_take_length (l : List (Int × Int)) (k : Nat) (hk : k ≤ l.length) : (flat (l.take k)).length = 2 * k := by
  rw [flat_length, List.length_take]; omega

theorem flat_getD (l : List (Int × Int)) (j : Nat) (h : j < l.length) : (flat l)[j * 2]? = some (l.getD j (0, 0)).1 ∧ (flat l)[j * 2 + 1]? = some (l.getD j (0, 0)).2 := by
  induction l generalizing j with
  | nil => simp at h
  | cons p l ih =>
    rw [flat_cons]
    cases j with
    | zero => exact ⟨rfl, rfl⟩
    | succ j =>
      have := ih j (by simpa using h)
      rw [show (j + 1) * 2 = j * 2 + 1 + 1 by omega]
      simpa using this

end Go.Proofs.Ytanbbkoleekmjai

namespace Go.Proofs.Ytanbbkoleekmjai

/-- is a number odd? -/
def odd (k : Nat) : Bool := ((k : Int) % 2 == 1)
theorem odd_succ (k : Nat) : odd (k + 1) = !odd k := by
  unfold odd
  rw [Bool.eq_iff_iff]
  simp
  omega
theorem odd_zero : odd 0 = false := rfl
theorem odd_cast_succ (k : Nat) : (((k : Int) + 1) % 2 == 1) = odd (k + 1) := by
  unfold odd
  rw [Bool.eq_iff_iff]
  simp
theorem odd_two (k : Nat) : odd (2 * k) = false := by
  unfold odd
  simp

/-- how many are at or below t? -/
def cnt (l : List Int) (t : Int) : Nat := l.countP fun x => decide (x ≤ t)
theorem cnt_nil (t : Int) : cnt [] t = 0 := rfl
theorem cnt_cons (x : Int) (l : List Int) (t : Int) : cnt (x :: l) t = cnt l t + if x ≤ t then 1 else 0 := by
  unfold cnt
  rw [List.countP_cons]
  simp
theorem cnt_append (a b : List Int) (t : Int) : cnt (a ++ b) t = cnt a t + cnt b t := by
  unfold cnt; rw [List.countP_append]
theorem cnt_none {l : List Int} {t : Int} (h : ∀ x ∈ l, t < x) : cnt l t = 0 := by
  unfold cnt
  rw [List.countP_eq_zero]
  intro x hx
  have := h x hx
  simp; omega
theorem cnt_all {l : List Int} {t : Int} (h : ∀ x ∈ l, x ≤ t) : cnt l t = l.length := by
  unfold cnt
  rw [List.countP_eq_length]
  intro x hx
  simpa using h x hx

/-- what sweeping has made of the first i and j ends -/
structure Swp (want : Bool → Bool → Bool) (A B : List Int) (i j : Nat) (r : List Int) : Prop where
  hi : i ≤ A.length
  hj : j ≤ B.length
  sep : ∀ x, (x ∈ r ∨ x ∈ A.take i ∨ x ∈ B.take j) → ∀ y, (y ∈ A.drop i ∨ y ∈ B.drop j) → x < y
  inc : r.Pairwise (· < ·)
  par : odd r.length = want (odd i) (odd j)
  pts : ∀ t, odd (cnt r t) = want (odd (cnt (A.take i) t)) (odd (cnt (B.take j) t))
  len : r.length ≤ i + j
  near : ∀ x ∈ r, nearB x

theorem swp_start {want : Bool → Bool → Bool} (hw : want false false = false) (A B : List Int) : Swp want A B 0 0 [] :=
  ⟨Nat.zero_le _, Nat.zero_le _, fun x h => by simp at h, List.Pairwise.nil, by simp [odd_zero, hw], fun t => by simp [cnt_nil, odd_zero, hw], Nat.zero_le _, fun x h => by simp at h⟩

/-- one list's part of a step -/
def Stp (A : List Int) (i i' : Nat) (τ : Int) : Prop := (i' = i + 1 ∧ A[i]? = some τ) ∨ (i' = i ∧ ∀ y ∈ A.drop i, τ < y)

theorem stp_le {A : List Int} {i i' : Nat} {τ : Int} (h : Stp A i i' τ) (hi : i ≤ A.length) : i' ≤ A.length := by
  rcases h with ⟨rfl, h⟩ | ⟨rfl, _⟩
  · have := (List.getElem?_eq_some_iff.1 h).1; omega
  · exact hi
theorem stp_mem {A : List Int} {i i' : Nat} {τ x : Int} (h : Stp A i i' τ) (hx : x ∈ A.take i') : x ∈ A.take i ∨ x = τ := by
  rcases h with ⟨rfl, h⟩ | ⟨rfl, _⟩
  · obtain ⟨hl, he⟩ := List.getElem?_eq_some_iff.1 h
    rw [take_succ_get A i hl] at hx
    simp only [List.mem_append, List.mem_singleton] at hx
    rcases hx with hx | hx
    · exact .inl hx
    · exact .inr (hx.trans he)
  · exact .inl hx
theorem stp_rest {A : List Int} {i i' : Nat} {τ y : Int} (h : Stp A i i' τ) (hy : y ∈ A.drop i') : y ∈ A.drop i := by
  rcases h with ⟨rfl, h⟩ | ⟨rfl, _⟩
  · rw [← List.drop_drop] at hy
    exact List.mem_of_mem_drop hy
  · exact hy
theorem stp_lt {A : List Int} {i i' : Nat} {τ y : Int} (sA : A.Pairwise (· < ·)) (h : Stp A i i' τ) (hy : y ∈ A.drop i') : τ < y := by
  rcases h with ⟨rfl, h⟩ | ⟨rfl, hh⟩
  · obtain ⟨hl, he⟩ := List.getElem?_eq_some_iff.1 h
    have sd := sA.sublist (List.drop_sublist i A)
    rw [List.drop_eq_getElem_cons hl, List.pairwise_cons] at sd
    rw [← he]
    exact sd.1 y hy
  · exact hh y hy
theorem stp_cnt_lt {A : List Int} {i i' : Nat} {τ t : Int} (h : Stp A i i' τ) (ht : t < τ) : cnt (A.take i') t = cnt (A.take i) t := by
  rcases h with ⟨rfl, h⟩ | ⟨rfl, _⟩
  · obtain ⟨hl, he⟩ := List.getElem?_eq_some_iff.1 h
    rw [take_succ_get A i hl, cnt_append, he, cnt_none (l := [τ]) (by simpa using ht)]
    rfl
  · rfl

theorem swp_step {want : Bool → Bool → Bool} {A B : List Int} {i j i' j' : Nat} {r r' : List Int} {τ : Int} (S : Swp want A B i j r) (sA : A.Pairwise (· < ·)) (sB : B.Pairwise (· < ·)) (hn : nearB τ)
    (hi : Stp A i i' τ) (hj : Stp B j j' τ) (hτ : τ ∈ A.drop i ∨ τ ∈ B.drop j) (hp : i + j < i' + j')
    (hr : (want (odd i') (odd j') ≠ odd r.length ∧ r' = r ++ [τ]) ∨ (want (odd i') (odd j') = odd r.length ∧ r' = r)) : Swp want A B i' j' r' := by
  have old : ∀ x, (x ∈ r ∨ x ∈ A.take i ∨ x ∈ B.take j) → x < τ := fun x hx => S.sep x hx τ hτ
  have hr' : ∀ x ∈ r', x ∈ r ∨ x = τ := by
    intro x hx
    rcases hr with ⟨_, rfl⟩ | ⟨_, rfl⟩
    · simpa using hx
    · exact .inl hx
  have par : odd r'.length = want (odd i') (odd j') := by
    rcases hr with ⟨h, rfl⟩ | ⟨h, rfl⟩
    · simp only [List.length_append, List.length_singleton, odd_succ]
      revert h
      cases odd r.length <;> cases want (odd i') (odd j') <;> simp
    · exact h.symm
  have hi' := stp_le hi S.hi
  have hj' := stp_le hj S.hj
  refine ⟨hi', hj', ?_, ?_, par, ?_, ?_, ?_⟩
  · intro x hx y hy
    have hxx : (x ∈ r ∨ x ∈ A.take i ∨ x ∈ B.take j) ∨ x = τ := by
      rcases hx with hx | hx | hx
      · rcases hr' x hx with h | h
        · exact .inl (.inl h)
        · exact .inr h
      · rcases stp_mem hi hx with h | h
        · exact .inl (.inr (.inl h))
        · exact .inr h
      · rcases stp_mem hj hx with h | h
        · exact .inl (.inr (.inr h))
        · exact .inr h
    have hτy : τ < y := by
      rcases hy with hy | hy
      · exact stp_lt sA hi hy
      · exact stp_lt sB hj hy
    rcases hxx with hxx | rfl
    · have := old x hxx; omega
    · exact hτy
  · rcases hr with ⟨_, rfl⟩ | ⟨_, rfl⟩
    · rw [List.pairwise_append]
      exact ⟨S.inc, List.pairwise_singleton _ _, fun a ha b hb => by simp at hb; subst hb; exact old a (.inl ha)⟩
    · exact S.inc
  · intro t
    by_cases ht : t < τ
    · rw [stp_cnt_lt hi ht, stp_cnt_lt hj ht, ← S.pts t]
      rcases hr with ⟨_, rfl⟩ | ⟨_, rfl⟩
      · rw [cnt_append, cnt_none (l := [τ]) (by simpa using ht)]; rfl
      · rfl
    · have e1 : cnt (A.take i') t = i' := by
        rw [cnt_all, List.length_take]
        · omega
        · intro x hx
          rcases stp_mem hi hx with h | h
          · have := old x (.inr (.inl h)); omega
          · omega
      have e2 : cnt (B.take j') t = j' := by
        rw [cnt_all, List.length_take]
        · omega
        · intro x hx
          rcases stp_mem hj hx with h | h
          · have := old x (.inr (.inr h)); omega
          · omega
      have e3 : cnt r' t = r'.length := by
        refine cnt_all fun x hx => ?_
        rcases hr' x hx with h | h
        · have := old x (.inl h); omega
        · omega
      rw [e1, e2, e3]
      exact par
  · have := S.len
    rcases hr with ⟨_, rfl⟩ | ⟨_, rfl⟩
    · simp only [List.length_append, List.length_singleton]; omega
    · omega
  · intro x hx
    rcases hr' x hx with h | rfl
    · exact S.near x h
    · exact hn

theorem swp_put {want : Bool → Bool → Bool} {A B : List Int} {i j i' j' : Nat} {r : List Int} {τ : Int} {x y z : Bool} (S : Swp want A B i j r) (sA : A.Pairwise (· < ·)) (sB : B.Pairwise (· < ·)) (hn : nearB τ)
    (hi : Stp A i i' τ) (hj : Stp B j j' τ) (hτ : τ ∈ A.drop i ∨ τ ∈ B.drop j) (hp : i + j < i' + j') (hx : x = odd i') (hy : y = odd j') (hz : z = odd r.length) (h : (!want x y == z) = true) : Swp want A B i' j' (r ++ [τ]) := by
  subst hx hy hz
  exact swp_step S sA sB hn hi hj hτ hp (.inl ⟨by simpa using h, rfl⟩)
theorem swp_skip {want : Bool → Bool → Bool} {A B : List Int} {i j i' j' : Nat} {r : List Int} {τ : Int} {x y z : Bool} (S : Swp want A B i j r) (sA : A.Pairwise (· < ·)) (sB : B.Pairwise (· < ·)) (hn : nearB τ)
    (hi : Stp A i i' τ) (hj : Stp B j j' τ) (hτ : τ ∈ A.drop i ∨ τ ∈ B.drop j) (hp : i + j < i' + j') (hx : x = odd i') (hy : y = odd j') (hz : z = odd r.length) (h : (!want x y == z) = false) : Swp want A B i' j' r := by
  subst hx hy hz
  exact swp_step S sA sB hn hi hj hτ hp (.inr ⟨by simpa using h, rfl⟩)
theorem stp_yes {A : List Int} {i : Nat} {τ : Int} (h : i < A.length) (e : A[i] = τ) : Stp A i (i + 1) τ := .inl ⟨rfl, by rw [List.getElem?_eq_getElem h, e]⟩
theorem stp_past {A : List Int} {i : Nat} {τ : Int} (h : A.length ≤ i) : Stp A i i τ := .inr ⟨rfl, fun y hy => by rw [List.drop_eq_nil_of_le h] at hy; cases hy⟩
theorem stp_no {A : List Int} {i : Nat} {τ : Int} (sA : A.Pairwise (· < ·)) (h : i < A.length) (e : τ < A[i]) : Stp A i i τ := by
  refine .inr ⟨rfl, fun y hy => ?_⟩
  have sd := sA.sublist (List.drop_sublist i A)
  rw [List.drop_eq_getElem_cons h] at hy sd
  rw [List.pairwise_cons] at sd
  simp only [List.mem_cons] at hy
  rcases hy with rfl | hy
  · exact e
  · have := sd.1 y hy; omega
theorem mem_drop_get {A : List Int} {i : Nat} (h : i < A.length) : A[i] ∈ A.drop i := by
  rw [List.drop_eq_getElem_cons h]; exact List.mem_cons_self

/-- does a set have a time? -/
def has (l : List (Int × Int)) (t : Int) : Bool := l.any fun p => decide (p.1 ≤ t) && decide (t < p.2)
theorem has_nil (t : Int) : has [] t = false := rfl
theorem has_cons (p : Int × Int) (l : List (Int × Int)) (t : Int) : has (p :: l) t = ((decide (p.1 ≤ t) && decide (t < p.2)) || has l t) := rfl

theorem has_append (a b : List (Int × Int)) (t : Int) : has (a ++ b) t = (has a t || has b t) := by simp [has]
theorem has_take_no {l : List (Int × Int)} {k : Nat} {t : Int} (hk : k < l.length) (h : has (l.take k) t = false) (hn : ¬ (l[k].1 ≤ t ∧ t < l[k].2)) : has (l.take (k + 1)) t = false := by
  rw [take_succ_get l k hk, has_append, h, has_cons, has_nil]
  simp only [Bool.false_or, Bool.or_false, Bool.and_eq_false_iff, decide_eq_false_iff_not]
  omega
theorem has_take_yes {l : List (Int × Int)} {k : Nat} {t : Int} (hk : k < l.length) (h1 : l[k].1 ≤ t) (h2 : t < l[k].2) : has l t = true := by
  unfold has
  rw [List.any_eq_true]
  exact ⟨l[k], List.getElem_mem hk, by simp [h1, h2]⟩

/-- how many times a list of intervals tells -/
def size (l : List (Int × Int)) : Int := (l.map fun p => p.2 - p.1).sum
theorem size_nil : size [] = 0 := rfl
theorem size_cons (p : Int × Int) (l : List (Int × Int)) : size (p :: l) = (p.2 - p.1) + size l := by simp [size]
theorem size_append (a b : List (Int × Int)) : size (a ++ b) = size a + size b := by
  induction a with
  | nil => simp [size_nil]
  | cons p a ih => rw [List.cons_append, size_cons, size_cons, ih]; omega
theorem size_take_succ {l : List (Int × Int)} {k : Nat} (hk : k < l.length) : size (l.take (k + 1)) = size (l.take k) + (l[k].2 - l[k].1) := by
  rw [take_succ_get l k hk, size_append, size_cons, size_nil]; omega
theorem size_take_bd {l : List (Int × Int)} (hn : Near l l.length) (k : Nat) (hk : k ≤ l.length) : -2000000000 * (k : Int) ≤ size (l.take k) ∧ size (l.take k) ≤ 2000000000 * (k : Int) := by
  induction k with
  | zero => simp [size_nil]
  | succ k ih =>
    have h1 := ih (by omega)
    have h2 := hn k (by omega)
    have hlt : k < l.length := by omega
    rw [List.getD_eq_getElem?_getD, List.getElem?_eq_getElem hlt] at h2
    simp only [Option.getD_some, nearB] at h2
    rw [size_take_succ hlt]
    omega

/-- a set: its ends rise -/
def Canon (l : List (Int × Int)) : Prop := (flat l).Pairwise (· < ·)

theorem canon_has {l : List (Int × Int)} (h : Canon l) (t : Int) : has l t = odd (cnt (flat l) t) := by
  induction l with
  | nil => rfl
  | cons p l ih =>
    unfold Canon at h
    rw [flat_cons, List.pairwise_cons, List.pairwise_cons] at h
    obtain ⟨h1, h2, h3⟩ := h
    have hp := h1 p.2 (by simp)
    have ih' := ih h3
    rw [flat_cons, cnt_cons, cnt_cons, has_cons, ih']
    by_cases a : p.1 ≤ t
    · by_cases b : p.2 ≤ t
      · rw [if_pos a, if_pos b, odd_succ, odd_succ]
        have : decide (t < p.2) = false := by simp; omega
        simp [this]
      · have c0 : cnt (flat l) t = 0 := cnt_none fun x hx => by have := h2 x hx; omega
        rw [if_pos a, if_neg b, c0]
        have : decide (t < p.2) = true := by simp; omega
        simp [a, this, odd]
    · have c0 : cnt (flat l) t = 0 := cnt_none fun x hx => by have := h2 x hx; omega
      rw [if_neg a, if_neg (by omega), c0]
      simp [a, odd_zero]

theorem inc_unique {R S : List Int} (hR : R.Pairwise (· < ·)) (hS : S.Pairwise (· < ·)) (h : ∀ t, odd (cnt R t) = odd (cnt S t)) : R = S := by
  induction R generalizing S with
  | nil =>
    cases S with
    | nil => rfl
    | cons y S =>
      rw [List.pairwise_cons] at hS
      have := h y
      rw [cnt_cons, cnt_none (l := S) hS.1, if_pos (Int.le_refl _)] at this
      simp [cnt_nil, odd] at this
  | cons x R ih =>
    rw [List.pairwise_cons] at hR
    cases S with
    | nil =>
      have := h x
      rw [cnt_cons, cnt_none (l := R) hR.1, if_pos (Int.le_refl _)] at this
      simp [cnt_nil, odd] at this
    | cons y S =>
      rw [List.pairwise_cons] at hS
      have hxy : x = y := by
        by_cases a : x < y
        · have := h x
          rw [cnt_cons, cnt_cons, cnt_none (l := R) hR.1, if_pos (Int.le_refl _), cnt_none (l := S) (fun z hz => by have := hS.1 z hz; omega), if_neg (by omega)] at this
          simp [odd] at this
        · by_cases b : y < x
          · have := h y
            rw [cnt_cons, cnt_cons, cnt_none (l := S) hS.1, if_pos (Int.le_refl _), cnt_none (l := R) (fun z hz => by have := hR.1 z hz; omega), if_neg (by omega)] at this
            simp [odd] at this
          · omega
      subst hxy
      rw [ih hR.2 hS.2]
      intro t
      have := h t
      rw [cnt_cons, cnt_cons] at this
      by_cases a : x ≤ t
      · rw [if_pos a, odd_succ, odd_succ] at this
        simpa using this
      · rw [if_neg a] at this
        exact this

theorem flat_inj {a b : List (Int × Int)} (h : flat a = flat b) : a = b := by
  induction a generalizing b with
  | nil =>
    cases b with
    | nil => rfl
    | cons q b => rw [flat_cons] at h; cases h
  | cons p a ih =>
    cases b with
    | nil => rw [flat_cons] at h; cases h
    | cons q b =>
      rw [flat_cons, flat_cons] at h
      injection h with h1 h2
      injection h2 with h2 h3
      rw [ih h3, Prod.ext h1 h2]

theorem canon_unique {a b : List (Int × Int)} (ha : Canon a) (hb : Canon b) (h : ∀ t, has a t = has b t) : a = b :=
  flat_inj (inc_unique ha hb fun t => by rw [← canon_has ha, ← canon_has hb]; exact h t)

/-- pairs of numbers that follow each other -/
def pairs : List Int → List (Int × Int)
  | x :: y :: l => (x, y) :: pairs l
  | _ => []
theorem flat_pairs (r : List Int) (h : odd r.length = false) : flat (pairs r) = r := by
  match r, h with
  | [], _ => rfl
  | [x], h => simp [odd] at h
  | x :: y :: l, h =>
    have := flat_pairs l (by simp only [List.length_cons, odd_succ] at h; simpa using h)
    rw [pairs, flat_cons, this]
theorem pairs_flat (l : List (Int × Int)) : pairs (flat l) = l := by
  induction l with
  | nil => rfl
  | cons p l ih => rw [flat_cons, pairs, ih]

/-- what both sets come to -/
structure SetIs (want : Bool → Bool → Bool) (a b r : List (Int × Int)) : Prop where
  canon : Canon r
  pts : ∀ t, has r t = want (has a t) (has b t)
  len : r.length ≤ a.length + b.length
  near : ∀ x ∈ flat r, nearB x

theorem setIs_of_swp {want : Bool → Bool → Bool} (hw : want false false = false) {a b : List (Int × Int)} {r : List Int} (ha : Canon a) (hb : Canon b) (S : Swp want (flat a) (flat b) (flat a).length (flat b).length r) :
    odd r.length = false ∧ SetIs want a b (pairs r) := by
  have he : odd r.length = false := by
    have := S.par
    rw [flat_length, flat_length, odd_two, odd_two, hw] at this
    exact this
  have hf := flat_pairs r he
  have hc : Canon (pairs r) := by unfold Canon; rw [hf]; exact S.inc
  refine ⟨he, hc, fun t => ?_, ?_, by rw [hf]; exact S.near⟩
  · have := S.pts t
    rw [List.take_length, List.take_length] at this
    rw [canon_has hc, hf, canon_has ha, canon_has hb]
    exact this
  · have h1 := S.len
    have h2 := flat_length (pairs r)
    rw [hf] at h2
    rw [flat_length, flat_length] at h1
    omega

theorem setIs_unique {want : Bool → Bool → Bool} {a b r s : List (Int × Int)} (h : SetIs want a b r) (hs : Canon s) (hp : ∀ t, has s t = want (has a t) (has b t)) : r = s :=
  canon_unique h.canon hs fun t => by rw [h.pts, hp]

theorem form_tail {p : Int × Int} {l : List (Int × Int)} (h : Form (p :: l) (l.length + 1)) : Form l l.length := by
  intro i hi
  have := h (i + 1) (by omega)
  refine ⟨by simpa using this.1, fun h0 => ?_⟩
  have h2 := this.2 (by omega)
  rw [show i + 1 - 1 = (i - 1) + 1 by omega] at h2
  simpa using h2

theorem canon_of_form {l : List (Int × Int)} (h : Form l l.length) : Canon l := by
  unfold Canon
  induction l with
  | nil => exact List.Pairwise.nil
  | cons p l ih =>
    have ih' := ih (form_tail h)
    have h0 := (h 0 (by simp)).1
    simp at h0
    have h1 : ∀ x ∈ flat l, p.2 < x := by
      cases l with
      | nil => simp [flat]
      | cons q l =>
        have hq := (h 1 (by simp)).2 (by omega)
        simp at hq
        rw [flat_cons] at ih' ⊢
        intro x hx
        rw [List.pairwise_cons] at ih'
        simp only [List.mem_cons] at hx
        rcases hx with rfl | hx
        · exact hq
        · have := ih'.1 x (by simpa using hx); omega
    rw [flat_cons, List.pairwise_cons, List.pairwise_cons]
    refine ⟨fun x hx => ?_, h1, ih'⟩
    simp only [List.mem_cons] at hx
    rcases hx with rfl | hx
    · exact h0
    · have := h1 x hx; omega

theorem form_of_canon {l : List (Int × Int)} (h : Canon l) : Form l l.length := by
  unfold Canon at h
  rw [List.pairwise_iff_getElem] at h
  intro i hi
  have hl := flat_length l
  obtain ⟨f0, f1⟩ := flat_getD l i hi
  obtain ⟨g0, f0⟩ := List.getElem?_eq_some_iff.1 f0
  obtain ⟨g1, f1⟩ := List.getElem?_eq_some_iff.1 f1
  refine ⟨?_, fun h0 => ?_⟩
  · rw [← f0, ← f1]; exact h _ _ g0 g1 (by omega)
  · obtain ⟨_, e1⟩ := flat_getD l (i - 1) (by omega)
    obtain ⟨k1, e1⟩ := List.getElem?_eq_some_iff.1 e1
    rw [← f0, ← e1]
    exact h _ _ k1 g0 (by omega)

theorem near_flat {l : List (Int × Int)} (h : Near l l.length) : ∀ x ∈ flat l, nearB x := by
  induction l with
  | nil => simp [flat]
  | cons p l ih =>
    have ih' := ih (fun i hi => by simpa using h (i + 1) (by simpa using hi))
    have h0 := h 0 (by simp)
    simp at h0
    rw [flat_cons]
    intro x hx
    simp only [List.mem_cons] at hx
    rcases hx with rfl | rfl | hx
    · exact h0.1
    · exact h0.2
    · exact ih' x hx

theorem near_of_flat {l : List (Int × Int)} (h : ∀ x ∈ flat l, nearB x) : Near l l.length := by
  intro i hi
  obtain ⟨f0, f1⟩ := flat_getD l i hi
  exact ⟨h _ (List.mem_of_getElem? f0), h _ (List.mem_of_getElem? f1)⟩

theorem chk_of_canon {l : List (Int × Int)} (hc : Canon l) (hn : ∀ x ∈ flat l, nearB x) (hl : l.length ≤ 200) : chk l = 0 :=
  chk_ok hl (near_of_flat hn) (form_of_canon hc)

end Go.Proofs.Ytanbbkoleekmjai

namespace Go.Proofs.Ytanbbkoleekmjai
open Go.RowKit

theorem ret_slice {ao : Option Addr} {n m n' m' : Nat} (h : n = n') (h' : m = m') : Ending.returned (.slice ao n m) = .returned (.slice ao n' m') := by rw [h, h']

/-- the pairs of l lie at ao, two cells each -/
def IvAt (w : World) (ao : Option Addr) (l : List (Int × Int)) : Prop :=
  l = [] ∨ ∃ b off, ao = some ⟨b, off, none⟩ ∧ b < w.heap.size ∧ ∀ j, j < l.length → w.cell? ⟨b, off + j * 2, none⟩ = some (.int .i64 (l.getD j (0, 0)).1) ∧ w.cell? ⟨b, off + j * 2 + 1, none⟩ = some (.int .i64 (l.getD j (0, 0)).2)

/-- the numbers of l lie at ao -/
def ZsAt (w : World) (ao : Option Addr) (l : List Int) : Prop :=
  l = [] ∨ ∃ b off, ao = some ⟨b, off, none⟩ ∧ b < w.heap.size ∧ ∀ j, j < l.length → w.cell? ⟨b, off + j, none⟩ = some (.int .i64 (l.getD j 0))

theorem IvAt.below {w w' : World} {ao : Option Addr} {l : List (Int × Int)} (h : IvAt w ao l) (hb : Below w.heap.size w w') : IvAt w' ao l := by
  rcases h with h | ⟨b, off, rfl, hlt, hc⟩
  · exact .inl h
  · refine .inr ⟨b, off, rfl, Nat.lt_of_lt_of_le hlt hb.size, fun j hj => ?_⟩
    rw [hb.cell (p := ⟨b, off + j * 2, none⟩) hlt, hb.cell (p := ⟨b, off + j * 2 + 1, none⟩) hlt]
    exact hc j hj

theorem ZsAt.below {w w' : World} {ao : Option Addr} {l : List Int} (h : ZsAt w ao l) (hb : Below w.heap.size w w') : ZsAt w' ao l := by
  rcases h with h | ⟨b, off, rfl, hlt, hc⟩
  · exact .inl h
  · refine .inr ⟨b, off, rfl, Nat.lt_of_lt_of_le hlt hb.size, fun j hj => ?_⟩
    rw [hb.cell (p := ⟨b, off + j, none⟩) hlt]
    exact hc j hj


theorem Try.infoInt : (Try.prog.info? 3).map (fun i => (i.zero, i.size, i.bytes)) = some (some (.int .i64 0), 1, 8) := by kernel_rfl
theorem Try.infoIvl : (Try.prog.info? 60).map (fun i => (i.zero, i.size, i.bytes)) = some (some (.agg #[.int .i64 0, .int .i64 0]), 2, 16) := by kernel_rfl

/-- what a row of numbers that the call owns holds -/
theorem zsAt_of_owns {w : World} {base e : Nat} {v : Value} {n : Nat} {l : List Int} (h : w.ownsRow base e 1 v n (l.map (Value.int .i64))) : ∃ ao cap, v = .slice ao l.length cap ∧ ZsAt w ao l := by
  obtain ⟨h1, h2⟩ := h
  simp only [List.length_map, Nat.mul_one] at h1
  subst h1
  rcases h2 with ⟨rfl, h0⟩ | ⟨g, cap, cur, rfl, hb, hh, h3, h4, h5, h6⟩
  · exact ⟨none, 0, by rw [h0], .inl (List.eq_nil_of_length_eq_zero h0)⟩
  · refine ⟨_, cap, rfl, .inr ⟨g, 0, rfl, (Array.getElem?_eq_some_iff.1 hh).1, fun j hj => ?_⟩⟩
    have := World.ownsRow.cellAt (w := w) (base := base) (e := e) (size := 1) (xs := l.map (Value.int .i64)) ⟨by simp, .inr ⟨g, cap, cur, rfl, hb, hh, h3, h4, h5, h6⟩⟩ j (by omega)
    rw [Nat.zero_add, this, List.getElem?_map, List.getD_eq_getElem?_getD, List.getElem?_eq_getElem hj]
    rfl

/-- the cells of pairs -/
def encs (l : List (Int × Int)) : List Value := (flat l).map (Value.int .i64)

/-- what a row of pairs that the call owns holds -/
theorem ivAt_of_owns {w : World} {base e : Nat} {v : Value} {n : Nat} {l : List (Int × Int)} (h : w.ownsRow base e 2 v n (encs l)) : ∃ ao cap, v = .slice ao l.length cap ∧ IvAt w ao l := by
  obtain ⟨h1, h2⟩ := h
  simp only [encs, List.length_map, flat_length] at h1
  have hn : n = l.length := by omega
  subst hn
  rcases h2 with ⟨rfl, h0⟩ | ⟨g, cap, cur, rfl, hb, hh, h3, h4, h5, h6⟩
  · exact ⟨none, 0, by rw [h0], .inl (List.eq_nil_of_length_eq_zero h0)⟩
  · have hown : w.ownsRow base e 2 (.slice (some ⟨g, 0, none⟩) l.length cap) l.length (encs l) := ⟨by simp [encs, flat_length]; omega, .inr ⟨g, cap, cur, rfl, hb, hh, h3, h4, h5, h6⟩⟩
    refine ⟨_, cap, rfl, .inr ⟨g, 0, rfl, (Array.getElem?_eq_some_iff.1 hh).1, fun j hj => ?_⟩⟩
    obtain ⟨f0, f1⟩ := flat_getD l j hj
    rw [Nat.zero_add, hown.cellAt (j * 2) (by omega), hown.cellAt (j * 2 + 1) (by omega)]
    simp only [encs, List.getElem?_map, f0, f1]
    exact ⟨rfl, rfl⟩

/-- an owned row stays while nothing below the heap's size turns -/
theorem ownsRow_below {w w' : World} {base e size : Nat} {v : Value} {n : Nat} {xs : List Value} (h : w.ownsRow base e size v n xs) (hb : Below w.heap.size w w') : w'.ownsRow base e size v n xs :=
  h.kept (row := none) ⟨hb.os, hb.tape, hb.output, hb.size, fun k hk _ => hb.block k hk⟩ (by cases v.ownBlock <;> simp)

/-- two cells in a new block -/
theorem cells_two_new (w : World) (B : Nat) (t : TypeId) (x y : Value) (hB : B = w.heap.size) : ∀ j u, [x, y][j]? = some u → (w.alloc (.cells #[x, y] t)).cell? ((⟨B, 0, none⟩ : Addr).add j) = some u := by
  subst hB
  intro j u hj
  match j, hj with
  | 0, hj => simp at hj; subst hj; simp [Addr.add]
  | 1, hj => simp at hj; subst hj; simp [Addr.add]

/-- what a call that tells a set and an error hands back: the error n with nothing, or a set -/
def Told (w w' : World) (e : Ending) (n : Int) (r : List (Int × Int)) : Prop :=
  ∃ ao cap, e = .returned (.tuple #[.slice ao r.length cap, .int .i64 n]) ∧ IvAt w' ao r ∧ Below w.heap.size w w'

/-- the same, in memory of the call's own -/
def Told2 (w w' : World) (e : Ending) (n : Int) (r : List (Int × Int)) : Prop :=
  ∃ v, e = .returned (.tuple #[v, .int .i64 n]) ∧ w'.ownsRow w.heap.size 60 2 v r.length (encs r) ∧ Below w.heap.size w w'
theorem told_of_own {w w' : World} {e : Ending} {n : Int} {r : List (Int × Int)} (h : Told2 w w' e n r) : Told w w' e n r := by
  obtain ⟨v, he, ho, hb⟩ := h
  obtain ⟨ao, cap, rfl, hz⟩ := ivAt_of_owns ho
  exact ⟨ao, cap, he, hz, hb⟩
theorem nil2 (w W : World) : W.ownsRow w.heap.size 60 2 (.slice none 0 0) ([] : List (Int × Int)).length (encs []) := World.ownsRow_nil _ _ _ _
theorem owns_base2 {w : World} {base base' e size : Nat} {v : Value} {n : Nat} {xs : List Value} (h : w.ownsRow base e size v n xs) (hb : base' ≤ base) : w.ownsRow base' e size v n xs :=
  ⟨h.1, h.2.imp id (fun ⟨g, c, cur, h1, h2, h3⟩ => ⟨g, c, cur, h1, Nat.le_trans hb h2, h3⟩)⟩
theorem hide2 {p : Prop} (h : p) : Hid p := h

end Go.Proofs.Ytanbbkoleekmjai

namespace Go.Proofs.Ytanbbkoleekmjai
open Go.RowKit

theorem hideT {p : Prop} (h : p) : Hid p := h
theorem gby_of_below {w w' : World} (h : Below w.heap.size w w') (row : Option Nat) : w.grownBy w' row := ⟨h.os, h.tape, h.output, h.size, fun k hk _ => h.block k hk⟩
theorem gby_trans {a b c : World} {row : Option Nat} (h : a.grownBy b row) (k : b.grownBy c row) : a.grownBy c row :=
  ⟨k.os.trans h.os, k.tape.trans h.tape, k.output.trans h.output, Nat.le_trans h.size k.size, fun i hi hne => (k.block i (Nat.lt_of_lt_of_le hi h.size) hne).trans (h.block i hi hne)⟩
theorem gby_refl (w : World) (row : Option Nat) : w.grownBy w row := ⟨rfl, rfl, rfl, Nat.le_refl _, fun _ _ _ => rfl⟩
theorem gby_drewN {w w' : World} {row : Option Nat} (h : w.grownBy w' row) (n : Nat) : w.grownBy (w'.drewN n) row := ⟨h.os, h.tape, h.output, h.size, h.block⟩
theorem gby_setOne (w : World) (b j : Nat) (u : Value) : w.grownBy (w.setCell ⟨b, j, none⟩ u) (some b) :=
  ⟨rfl, rfl, rfl, by simp [World.setCell], fun k _ hk => Below.heap_setCell _ _ _ _ (fun e => hk (by simp [e]))⟩
/-- what an append to a row of the call's own leaves -/
theorem below_own {wq w3 : World} {B : Nat} {v : Value} (hB : B ≤ wq.heap.size) (o : Obj) (hgr : ((wq.alloc o).drew).grownBy w3 v.ownBlock) (hv : ∀ j, v.ownBlock = some j → B ≤ j) : Below B wq w3 :=
  (((Below.refl B wq).alloc hB o).drew).grown hgr (by simp; omega) hv
theorem gby_own {w1 wq w3 : World} {ge : Nat} {v : Value} (h : w1.grownBy wq (some ge)) (o : Obj) (hgr : ((wq.alloc o).drew).grownBy w3 v.ownBlock) (hv : ∀ j, v.ownBlock = some j → w1.heap.size ≤ j) : w1.grownBy w3 (some ge) := by
  have hb := below_own (B := w1.heap.size) h.size o hgr hv
  exact ⟨hb.os.trans h.os, hb.tape.trans h.tape, hb.output.trans h.output, Nat.le_trans h.size hb.size, fun k hk hne => (hb.block k hk).trans (h.block k hk hne)⟩
theorem gby_setHigh {w1 wq : World} {ge gb j : Nat} (h : w1.grownBy wq (some ge)) (hg : w1.heap.size ≤ gb) (u : Value) : w1.grownBy (wq.setCell ⟨gb, j, none⟩ u) (some ge) := by
  have hb := (Below.refl w1.heap.size wq).setCell (p := ⟨gb, j, none⟩) hg u
  exact ⟨hb.os.trans h.os, hb.tape.trans h.tape, hb.output.trans h.output, Nat.le_trans h.size hb.size, fun k hk hne => (hb.block k hk).trans (h.block k hk hne)⟩

end Go.Proofs.Ytanbbkoleekmjai

namespace Go.Proofs.Ytanbbkoleekmjai
open Go.RowKit Go.Maps

theorem Try.laidOutC : laidOutB Try.prog = true := by kernel_rfl
theorem Try.rowSt : (72 : TypeId) < Try.prog.types.size := of_decide_eq_true (by kernel_rfl)
theorem Try.wideSt : (match Try.prog.underlying 72 with | some (.array _ _) | some (.struct _) => true | _ => false) = true := by rw [Try.underlying72]
theorem Try.keyAtSt : Try.prog.keyTypeAt 2 72 = true := by kernel_rfl
set_option maxRecDepth 100000 in
theorem Try.lawSt : Keyed Try.prog 72 := Keyed.of_law (deep_law_laid Try.laidOutC (m := 2) (by omega) Try.rowSt Try.keyAtSt Try.wideSt)
theorem Try.keySt : Try.prog.keyType 72 = true := by kernel_rfl

theorem Try.cellsSt : Try.prog.cellsOf 72 = 2 := by kernel_rfl
theorem Try.cellsI : Try.prog.cellsOf 3 = 1 := by kernel_rfl
/-- numbers that a key may have -/
def Wi (n : Int) : Prop := -9223372036854775808 ≤ n ∧ n ≤ 9223372036854775807
theorem wi_wf {n : Int} (h : Wi n) : (Lit.int .i64 n).wf = true := WalkArith.wf_i64 h
def keyV (v t : Int) : Value := .agg #[.int .i64 v, .int .i64 t]
def kOf (v t : Int) : Lit := .string (keyBytes [.int .i64 v, .int .i64 t])
theorem key_of {v t : Int} (hv : Wi v) (ht : Wi t) : keyOf Try.prog 72 (keyV v t) = some (kOf v t) := by
  have w1 := wi_wf hv
  have w2 := wi_wf ht
  obtain ⟨m, hm⟩ : ∃ m, Try.prog.types.size = m + 1 := ⟨Try.prog.types.size - 1, by have : (0 : Nat) < Try.prog.types.size := Nat.lt_of_le_of_lt (Nat.zero_le _) Try.rowSt; omega⟩
  unfold keyOf
  simp only [Try.underlying72]
  rw [if_pos (by rw [Try.keySt]; kernel_rfl), hm]
  unfold Program.keyLits
  simp only [Try.underlying72, Value.cells, keyV]
  rw [if_pos ⟨by rw [Try.cellsSt]; rfl, by kernel_rfl⟩]
  simp [Program.keyLits, Try.underlying3, Try.cellsI, w1, w2, kOf]
theorem keyV_inj {v t a b : Int} (h : keyV v t = keyV a b) : v = a ∧ t = b := by
  unfold keyV at h
  simp at h
  exact h
theorem kOf_ne {v t a b : Int} (hv : Wi v) (ht : Wi t) (ha : Wi a) (hb : Wi b) (h : ¬ (a = v ∧ b = t)) : kOf a b ≠ kOf v t := fun e => by
  have h1 := key_of hv ht
  rw [← e] at h1
  have := keyV_inj (Try.lawSt.inj (key_of ha hb) h1)
  exact h this

/-- a visit as a value -/
def encV (x : Vs) : Value := .agg #[.int .i64 x.1, .int .i64 x.2.1, .int .i64 x.2.2.1, .int .i64 x.2.2.2.1, .int .i64 x.2.2.2.2.1, .int .i64 x.2.2.2.2.2.1, .int .i64 x.2.2.2.2.2.2]
/-- .. as a datum -/
def datV (x : Vs) : DataW Unit := .agg [.lit (.int .i64 x.1), .lit (.int .i64 x.2.1), .lit (.int .i64 x.2.2.1), .lit (.int .i64 x.2.2.2.1), .lit (.int .i64 x.2.2.2.2.1), .lit (.int .i64 x.2.2.2.2.2.1), .lit (.int .i64 x.2.2.2.2.2.2)]
def ofL : List Value → Option Vs
  | [.int .i64 a, .int .i64 b, .int .i64 c, .int .i64 d, .int .i64 e, .int .i64 f, .int .i64 g] => some (a, b, c, d, e, f, g)
  | _ => none
def ofV : Value → Option Vs
  | .agg cs => ofL cs.toList
  | _ => none
def rdV (v : Value) : Option (DataW Unit × List MemPlace) := (ofV v).map fun x => (datV x, [])
theorem ofL_inv {l : List Value} {x : Vs} (h : ofL l = some x) : l = [.int .i64 x.1, .int .i64 x.2.1, .int .i64 x.2.2.1, .int .i64 x.2.2.2.1, .int .i64 x.2.2.2.2.1, .int .i64 x.2.2.2.2.2.1, .int .i64 x.2.2.2.2.2.2] := by
  unfold ofL at h
  split at h
  · cases h; rfl
  · cases h
theorem ofV_inv {v : Value} {x : Vs} (h : ofV v = some x) : v = encV x := by
  unfold ofV at h
  split at h
  · rename_i cs
    have := ofL_inv h
    unfold encV
    rw [← this]
  · cases h
theorem rdV_enc (x : Vs) : rdV (encV x) = some (datV x, []) := rfl
theorem datV_inj {x y : Vs} (h : datV x = datV y) : x = y := by
  obtain ⟨a, b, c, d, e, f, g⟩ := x
  obtain ⟨a', b', c', d', e', f', g'⟩ := y
  simp [datV] at h
  simp [h]
theorem rdV_inv {v : Value} {x : Vs} {ps : List MemPlace} (h : rdV v = some (datV x, ps)) : v = encV x := by
  unfold rdV at h
  cases e : ofV v with
  | none => rw [e] at h; cases h
  | some y =>
    rw [e] at h
    simp at h
    rw [ofV_inv e, datV_inj h.1]

/-- block b of w is a map of at most n states that tells M -/
def MapAt (w : World) (b n : Nat) (M : Mp) : Prop := ∃ D : DataW Unit, w.ownsMap Try.prog 72 rdV b n D ∧ ∀ v t, Wi v → Wi t → ∀ z, D.atKey (kOf v t) z = match M v t with | none => z | some x => datV x
theorem MapAt.mono {w : World} {b n n' : Nat} {M : Mp} (h : MapAt w b n M) (hn : n ≤ n') : MapAt w b n' M := by
  obtain ⟨D, h1, h2⟩ := h
  exact ⟨D, h1.mono hn, h2⟩
theorem MapAt.lt {w : World} {b n : Nat} {M : Mp} (h : MapAt w b n M) : b < w.heap.size := by
  obtain ⟨D, h1, h2⟩ := h
  exact h1.lt
theorem MapAt.kept {w w' : World} {b n : Nat} {M : Mp} {row : Option Nat} (h : MapAt w b n M) (hg : w.grownBy w' row) (hne : some b ≠ row) : MapAt w' b n M := by
  obtain ⟨D, h1, h2⟩ := h
  exact ⟨D, h1.kept hg hne, h2⟩
theorem MapAt.below {w w' : World} {b n : Nat} {M : Mp} (h : MapAt w b n M) (hb : Below w.heap.size w w') : MapAt w' b n M := h.kept (gby_of_below hb none) (by simp)
theorem MapAt.alloc {w : World} {b n : Nat} {M : Mp} (h : MapAt w b n M) (o : Obj) : MapAt (w.alloc o) b n M := h.below ((Below.refl _ _).alloc (Nat.le_refl _) o)
theorem mapAt_made (w : World) : MapAt (w.alloc (.map #[] 0)) w.heap.size 0 (fun _ _ => none) := ⟨.map [], World.ownsMap_made _ _ _ _, fun _ _ _ _ _ => rfl⟩
theorem MapAt.look {w : World} {b n : Nat} {M : Mp} (h : MapAt w b n M) {v t : Int} (hv : Wi v) (ht : Wi t) : (Instr.lookup 66 (.map (some b)) (keyV v t) true).run Try.prog w = .ok (.tuple #[encV ((M v t).getD (0, 0, 0, 0, 0, 0, 0)), .bool (M v t).isSome]) w := by
  obtain ⟨D, h1, h2⟩ := h
  obtain ⟨x, ps, hr, hx⟩ := h1.look_ok Try.lawSt Try.underlying66 (z := encV (0, 0, 0, 0, 0, 0, 0)) (Try.zeroValue70 w) (rdV_enc _) (key_of hv ht)
  rw [hr]
  have hk := h2 v t hv ht
  cases hm : M v t with
  | none =>
    rw [hm] at hk
    have hk : ∀ z, D.atKey (kOf v t) z = z := hk
    rw [hk] at hx
    rw [rdV_inv hx, Maps.has_false_of_atKey hk]
    rfl
  | some y =>
    rw [hm] at hk
    have hk : ∀ z, D.atKey (kOf v t) z = datV y := hk
    rw [hk] at hx
    rw [rdV_inv hx, Maps.has_true_of_atKey hk]
    rfl
theorem MapAt.look1 {w : World} {b n : Nat} {M : Mp} (h : MapAt w b n M) {v t : Int} (hv : Wi v) (ht : Wi t) : (Instr.lookup 66 (.map (some b)) (keyV v t) false).run Try.prog w = .ok (encV ((M v t).getD (0, 0, 0, 0, 0, 0, 0))) w := by
  obtain ⟨D, h1, h2⟩ := h
  obtain ⟨x, ps, hr, hx⟩ := h1.lookup Try.lawSt Try.underlying66 (z := encV (0, 0, 0, 0, 0, 0, 0)) (Try.zeroValue70 w) (rdV_enc _) (key_of hv ht)
  rw [hr]
  have hk := h2 v t hv ht
  cases hm : M v t with
  | none =>
    rw [hm] at hk
    have hk : ∀ z, D.atKey (kOf v t) z = z := hk
    rw [hk] at hx
    rw [rdV_inv hx]
    rfl
  | some y =>
    rw [hm] at hk
    have hk : ∀ z, D.atKey (kOf v t) z = datV y := hk
    rw [hk] at hx
    rw [rdV_inv hx]
    rfl
theorem MapAt.store {w : World} {b n : Nat} {M : Mp} (h : MapAt w b n M) (hn : n < maxLen) {v t : Int} (hv : Wi v) (ht : Wi t) (x : Vs) : ∃ w', (Instr.mapUpdate 66 (.map (some b)) (keyV v t) (encV x)).run Try.prog w = .ok () w' ∧ MapAt w' b (n + 1) (mset M v t x) ∧ w.grownBy w' (some b) := by
  obtain ⟨D, h1, h2⟩ := h
  obtain ⟨w', hr, h3, h4⟩ := h1.update Try.lawSt Try.underlying66 hn (key_of hv ht) (rdV_enc x)
  refine ⟨w', hr, ⟨_, h3, fun a c ha hc z => ?_⟩, h4⟩
  by_cases e : a = v ∧ c = t
  · obtain ⟨rfl, rfl⟩ := e
    rw [mset_same]
    exact Maps.atKey_put_same h1.isMap (Try.lawSt.key (key_of hv ht)) _ _
  · rw [mset_other _ _ e, Maps.atKey_put_other (kOf_ne hv ht ha hc e)]
    exact h2 a c ha hc z

end Go.Proofs.Ytanbbkoleekmjai
