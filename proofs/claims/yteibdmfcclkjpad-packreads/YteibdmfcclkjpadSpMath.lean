/-
  What is told along arcs until nothing gets less (Ford, Bellman): the plain mathematics, without any program.
-/
namespace Go.Proofs.Yteibdmfcclkjpad

/-- an arc: from, to, cost -/
abbrev Ac := Int × Int × Int
/-- what is told of a vertex -/
def vat (x : List Int) (v : Int) : Int := x.getD v.toNat 0

/-- numbers that no arc makes less, none above what is told at first -/
structure Adm (first : List Int) (arcs : List Ac) (p : Ac → Int) (y : Nat → Int) : Prop where
  le : ∀ v, v < first.length → y v ≤ first.getD v 0
  cl : ∀ a ∈ arcs, y a.2.1.toNat ≤ y a.1.toNat + p a
/-- what is told on the way -/
structure Mid (first : List Int) (arcs : List Ac) (p : Ac → Int) (x : List Int) : Prop where
  len : x.length = first.length
  le : ∀ v, v < first.length → x.getD v 0 ≤ first.getD v 0
  most : ∀ y, Adm first arcs p y → ∀ v, v < first.length → y v ≤ x.getD v 0
/-- what is told in the end -/
structure Best (first : List Int) (arcs : List Ac) (p : Ac → Int) (x : List Int) : Prop where
  mid : Mid first arcs p x
  cl : ∀ a ∈ arcs, vat x a.2.1 ≤ vat x a.1 + p a

theorem mid_start (first : List Int) (arcs : List Ac) (p : Ac → Int) : Mid first arcs p first := ⟨rfl, fun _ _ => Int.le_refl _, fun _ h v hv => h.le v hv⟩
theorem getD_set (x : List Int) (k v : Nat) (m : Int) (hk : k < x.length) : (x.set k m).getD v 0 = if v = k then m else x.getD v 0 := by
  simp only [List.getD_eq_getElem?_getD, List.getElem?_set]
  by_cases h : k = v
  · subst h; simp [hk]
  · have : ¬ v = k := fun e => h e.symm
    simp [h, this]
theorem mid_set {first : List Int} {arcs : List Ac} {p : Ac → Int} {x : List Int} {k : Nat} {m : Int} (h : Mid first arcs p x) (hk : k < first.length) (hm : m ≤ x.getD k 0) (ha : ∀ y, Adm first arcs p y → y k ≤ m) : Mid first arcs p (x.set k m) := by
  have hk' : k < x.length := by rw [h.len]; exact hk
  refine ⟨by rw [List.length_set]; exact h.len, fun v hv => ?_, fun y hy v hv => ?_⟩
  · rw [getD_set _ _ _ _ hk']
    by_cases e : v = k
    · rw [if_pos e]; subst e; exact Int.le_trans hm (h.le v hv)
    · rw [if_neg e]; exact h.le v hv
  · rw [getD_set _ _ _ _ hk']
    by_cases e : v = k
    · rw [if_pos e]; subst e; exact ha y hy
    · rw [if_neg e]; exact h.most y hy v hv
/-- an arc's ends are vertices -/
def EndsIn (n : Nat) (arcs : List Ac) : Prop := ∀ a ∈ arcs, 0 ≤ a.1 ∧ a.1 < n ∧ 0 ≤ a.2.1 ∧ a.2.1 < n
/-- what an arc tells is no less than what may be told -/
theorem mid_arc {first : List Int} {arcs : List Ac} {p : Ac → Int} {x : List Int} {a : Ac} (h : Mid first arcs p x) (ha : a ∈ arcs) (hE : EndsIn first.length arcs) : ∀ y, Adm first arcs p y → y a.2.1.toNat ≤ vat x a.1 + p a := by
  intro y hy
  have h1 := hy.cl a ha
  have h2 := h.most y hy a.1.toNat (by have := hE a ha; omega)
  unfold vat; omega
theorem best_le {first : List Int} {arcs : List Ac} {p : Ac → Int} {x x' : List Int} (h : Best first arcs p x) (h' : Mid first arcs p x') : ∀ v, v < first.length → x.getD v 0 ≤ x'.getD v 0 :=
  h'.most (fun v => x.getD v 0) ⟨h.mid.le, h.cl⟩
theorem best_unique {first : List Int} {arcs : List Ac} {p : Ac → Int} {x x' : List Int} (h : Best first arcs p x) (h' : Best first arcs p x') : x = x' := by
  apply List.ext_getElem (by rw [h.mid.len, h'.mid.len])
  intro i h1 h2
  have a := best_le h h'.mid i (by rw [← h.mid.len]; exact h1)
  have b := best_le h' h.mid i (by rw [← h.mid.len]; exact h1)
  simp only [List.getD_eq_getElem?_getD, List.getElem?_eq_getElem h1, List.getElem?_eq_getElem h2, Option.getD_some] at a b
  omega
/-- other arcs that tell the same -/
theorem best_arcs {first : List Int} {arcs arcs' : List Ac} {p p' : Ac → Int} {x : List Int} (h : Best first arcs p x) (hs : ∀ y : Nat → Int, (∀ a ∈ arcs, y a.2.1.toNat ≤ y a.1.toNat + p a) ↔ ∀ a ∈ arcs', y a.2.1.toNat ≤ y a.1.toNat + p' a) : Best first arcs' p' x :=
  ⟨⟨h.mid.len, h.mid.le, fun y hy => h.mid.most y ⟨hy.le, (hs y).2 hy.cl⟩⟩, (hs fun v => x.getD v 0).1 h.cl⟩
theorem mid_arcs {first : List Int} {arcs arcs' : List Ac} {p p' : Ac → Int} {x : List Int} (h : Mid first arcs p x) (hs : ∀ y : Nat → Int, (∀ a ∈ arcs, y a.2.1.toNat ≤ y a.1.toNat + p a) ↔ ∀ a ∈ arcs', y a.2.1.toNat ≤ y a.1.toNat + p' a) : Mid first arcs' p' x :=
  ⟨h.len, h.le, fun y hy => h.most y ⟨hy.le, (hs y).2 hy.cl⟩⟩

/-- numbers of a first row and prices that are fine -/
structure Fine (first : List Int) (arcs : List Ac) (p : Ac → Int) : Prop where
  lo : ∀ v, v < first.length → 0 ≤ first.getD v 0
  hi : ∀ v, v < first.length → first.getD v 0 ≤ 1099511627776
  pl : ∀ a ∈ arcs, 0 ≤ p a ∧ p a ≤ 1000
  en : EndsIn first.length arcs
theorem Mid.lo {first : List Int} {arcs : List Ac} {p : Ac → Int} {x : List Int} (h : Mid first arcs p x) (f : Fine first arcs p) (v : Nat) (hv : v < first.length) : 0 ≤ x.getD v 0 :=
  h.most (fun _ => 0) ⟨f.lo, fun a ha => by have := f.pl a ha; show (0 : Int) ≤ 0 + p a; omega⟩ v hv
theorem Mid.hi {first : List Int} {arcs : List Ac} {p : Ac → Int} {x : List Int} (h : Mid first arcs p x) (f : Fine first arcs p) (v : Nat) (hv : v < first.length) : x.getD v 0 ≤ 1099511627776 := Int.le_trans (h.le v hv) (f.hi v hv)
theorem Mid.bounds {first : List Int} {arcs : List Ac} {p : Ac → Int} {x : List Int} (h : Mid first arcs p x) (f : Fine first arcs p) : ∀ z ∈ x, 0 ≤ z ∧ z ≤ 1099511627776 := by
  intro z hz
  obtain ⟨i, hi, rfl⟩ := List.getElem_of_mem hz
  have a := h.lo f i (by rw [← h.len]; exact hi)
  have b := h.hi f i (by rw [← h.len]; exact hi)
  simp only [List.getD_eq_getElem?_getD, List.getElem?_eq_getElem hi, Option.getD_some] at a b
  exact ⟨a, b⟩

/-- how much there is in all -/
def msum : List Int → Nat
  | [] => 0
  | z :: l => z.toNat + msum l
theorem msum_set : ∀ (x : List Int) (k : Nat) (m : Int), 0 ≤ m → k < x.length → m < x.getD k 0 → msum (x.set k m) < msum x
  | [], _, _, _, h, _ => by simp at h
  | z :: l, 0, m, h0, _, h => by simp at h; simp [msum]; omega
  | z :: l, k + 1, m, h0, hk, h => by
    have := msum_set l k m h0 (by simpa using hk) (by simpa using h)
    simp [msum]; omega
theorem msum_le : ∀ (x y : List Int), x.length = y.length → (∀ v, v < x.length → x.getD v 0 ≤ y.getD v 0) → msum x ≤ msum y
  | [], [], _, _ => Nat.le_refl _
  | a :: x, [], h, _ => by simp at h
  | [], b :: y, h, _ => by simp at h
  | a :: x, b :: y, h, hl => by
    have h1 := msum_le x y (by simpa using h) (fun v hv => by have := hl (v + 1) (by simpa using hv); simpa using this)
    have h2 := hl 0 (by simp)
    simp at h2
    simp [msum]; omega
theorem msum_lt : ∀ (x y : List Int), x.length = y.length → (∀ z ∈ x, 0 ≤ z) → (∀ v, v < x.length → x.getD v 0 ≤ y.getD v 0) → x ≠ y → msum x < msum y
  | [], [], _, _, _, h => absurd rfl h
  | a :: x, [], h, _, _, _ => by simp at h
  | [], b :: y, h, _, _, _ => by simp at h
  | a :: x, b :: y, h, h0, hl, hn => by
    have h2 := hl 0 (by simp)
    simp at h2
    have ha : 0 ≤ a := h0 a (by simp)
    have hl' : ∀ v, v < x.length → x.getD v 0 ≤ y.getD v 0 := fun v hv => by have := hl (v + 1) (by simpa using hv); simpa using this
    by_cases e : x = y
    · subst e
      have : a ≠ b := fun h => hn (by rw [h])
      simp [msum]; omega
    · have h1 := msum_lt x y (by simpa using h) (fun z hz => h0 z (by simp [hz])) hl' e
      simp [msum]; omega
theorem msum_bound : ∀ (x : List Int), (∀ z ∈ x, z ≤ 1099511627776) → msum x ≤ x.length * 1099511627776
  | [], _ => by simp [msum]
  | a :: x, h => by
    have h1 := msum_bound x (fun z hz => h z (by simp [hz]))
    have h2 := h a (by simp)
    simp only [msum, List.length_cons]; omega

/-- one arc of the program's way: what is told at once is told on -/
def Seen (arcs : List Ac) (p : Ac → Int) (x : List Int) (i : Nat) : Prop := ∀ j, (h : j < arcs.length) → j < i → vat x arcs[j].2.1 ≤ vat x arcs[j].1 + p arcs[j]
/-- a round of the program: x at its begin, z behind i arcs; ch: has something turned? -/
structure Turn (first : List Int) (arcs : List Ac) (p : Ac → Int) (x z : List Int) (ch : Bool) (i : Nat) : Prop where
  mid : Mid first arcs p z
  same : ch = false → z = x ∧ Seen arcs p x i
  less : ch = true → msum z < msum x
theorem turn_start {first : List Int} {arcs : List Ac} {p : Ac → Int} {x : List Int} (h : Mid first arcs p x) : Turn first arcs p x x false 0 := ⟨h, fun _ => ⟨rfl, fun _ _ h => by omega⟩, fun h => by simp at h⟩
theorem turn_stay {first : List Int} {arcs : List Ac} {p : Ac → Int} {x z : List Int} {ch : Bool} {i : Nat} (T : Turn first arcs p x z ch i) (hi : i < arcs.length) (hn : ¬ vat z arcs[i].1 + p arcs[i] < vat z arcs[i].2.1) : Turn first arcs p x z ch (i + 1) := by
  refine ⟨T.mid, fun h => ⟨(T.same h).1, fun j hj hji => ?_⟩, T.less⟩
  by_cases e : j = i
  · subst e; rw [← (T.same h).1]; omega
  · exact (T.same h).2 j hj (by omega)
theorem turn_less {first : List Int} {arcs : List Ac} {p : Ac → Int} {x z : List Int} {ch : Bool} {i : Nat} (f : Fine first arcs p) (T : Turn first arcs p x z ch i) (hi : i < arcs.length) (hn : vat z arcs[i].1 + p arcs[i] < vat z arcs[i].2.1) : Turn first arcs p x (z.set arcs[i].2.1.toNat (vat z arcs[i].1 + p arcs[i])) true (i + 1) := by
  have hm : arcs[i] ∈ arcs := List.getElem_mem hi
  have he := f.en _ hm
  have hp := f.pl _ hm
  have hB : arcs[i].2.1.toNat < first.length := by omega
  have h0 : 0 ≤ vat z arcs[i].1 := T.mid.lo f _ (by omega)
  have hs := msum_set z arcs[i].2.1.toNat (vat z arcs[i].1 + p arcs[i]) (by omega) (by rw [T.mid.len]; exact hB) hn
  refine ⟨mid_set T.mid hB (by unfold vat at hn ⊢; omega) (mid_arc T.mid hm f.en), fun h => by simp at h, fun _ => ?_⟩
  cases hc : ch
  · rw [(T.same hc).1] at hs ⊢; exact hs
  · exact Nat.lt_trans hs (T.less hc)
theorem turn_end {first : List Int} {arcs : List Ac} {p : Ac → Int} {x z : List Int} (T : Turn first arcs p x z false arcs.length) : Best first arcs p z := by
  obtain ⟨rfl, hs⟩ := T.same rfl
  refine ⟨T.mid, fun a ha => ?_⟩
  obtain ⟨i, hi, rfl⟩ := List.getElem_of_mem ha
  exact hs i hi hi

/-- one arc of the reference's round: x at its begin, z so far -/
def rel1 (p : Ac → Int) (back : Bool) (x z : List Int) (a : Ac) : List Int :=
  let z1 := z.set a.2.1.toNat (min (vat z a.2.1) (vat x a.1 + p a))
  if back = true then z1.set a.1.toNat (min (vat z1 a.1) (vat x a.2.1 + p a)) else z1
/-- a round of the reference -/
def rnd (arcs : List Ac) (p : Ac → Int) (back : Bool) (x : List Int) : List Int := arcs.foldl (rel1 p back x) x
/-- some rounds -/
def rnds (arcs : List Ac) (p : Ac → Int) (back : Bool) : Nat → List Int → List Int
  | 0, x => x
  | k + 1, x => rnd arcs p back (rnds arcs p back k x)
/-- the arcs both ways round -/
def bothW (arcs : List Ac) : List Ac := arcs.flatMap fun a => [a, (a.2.1, a.1, a.2.2)]
def ways (back : Bool) (arcs : List Ac) : List Ac := if back = true then bothW arcs else arcs
theorem mem_both {arcs : List Ac} {b : Ac} : b ∈ bothW arcs ↔ ∃ a ∈ arcs, b = a ∨ b = (a.2.1, a.1, a.2.2) := by simp [bothW]
/-- a price that is the same either way round -/
def Even (p : Ac → Int) : Prop := ∀ a : Ac, p (a.2.1, a.1, a.2.2) = p a
theorem both_take (arcs : List Ac) (k : Nat) (hk : k < arcs.length) : bothW (arcs.take (k + 1)) = bothW (arcs.take k) ++ [arcs[k], (arcs[k].2.1, arcs[k].1, arcs[k].2.2)] := by
  unfold bothW
  rw [List.take_succ_eq_append_getElem hk, List.flatMap_append, List.flatMap_singleton]
theorem both_length : ∀ arcs : List Ac, (bothW arcs).length = arcs.length * 2
  | [] => rfl
  | a :: l => by
    have := both_length l
    unfold bothW at this ⊢
    rw [List.flatMap_cons, List.length_append, this]; simp; omega

theorem rel1_length (p : Ac → Int) (back : Bool) (x z : List Int) (a : Ac) : (rel1 p back x z a).length = z.length := by
  unfold rel1; cases back <;> simp
theorem foldl_rel1_length (p : Ac → Int) (back : Bool) (x : List Int) : ∀ (l : List Ac) (z : List Int), (l.foldl (rel1 p back x) z).length = z.length
  | [], _ => rfl
  | a :: l, z => by rw [List.foldl_cons, foldl_rel1_length p back x l, rel1_length]
theorem rnd_length (arcs : List Ac) (p : Ac → Int) (back : Bool) (x : List Int) : (rnd arcs p back x).length = x.length := foldl_rel1_length _ _ _ _ _
theorem rnds_length (arcs : List Ac) (p : Ac → Int) (back : Bool) : ∀ (k : Nat) (x : List Int), (rnds arcs p back k x).length = x.length
  | 0, _ => rfl
  | k + 1, x => by rw [rnds, rnd_length, rnds_length arcs p back k]
theorem fold_take (arcs : List Ac) (p : Ac → Int) (back : Bool) (x : List Int) (i : Nat) (hi : i < arcs.length) : (arcs.take (i + 1)).foldl (rel1 p back x) x = rel1 p back x ((arcs.take i).foldl (rel1 p back x) x) arcs[i] := by
  rw [List.take_succ_eq_append_getElem hi, List.foldl_append]; rfl

/-- what holds while a round of the reference goes on -/
structure Rn (first : List Int) (arcs : List Ac) (p : Ac → Int) (back : Bool) (x z : List Int) (i : Nat) : Prop where
  mid : Mid first (ways back arcs) p z
  le : ∀ v, v < first.length → z.getD v 0 ≤ x.getD v 0
  told : ∀ j, (h : j < arcs.length) → j < i → vat z arcs[j].2.1 ≤ vat x arcs[j].1 + p arcs[j] ∧ (back = true → vat z arcs[j].1 ≤ vat x arcs[j].2.1 + p arcs[j])
theorem mem_ways {back : Bool} {arcs : List Ac} {a : Ac} (h : a ∈ arcs) : a ∈ ways back arcs ∧ (back = true → (a.2.1, a.1, a.2.2) ∈ ways back arcs) := by
  unfold ways
  cases back
  · exact ⟨h, fun h => by simp at h⟩
  · exact ⟨mem_both.2 ⟨a, h, .inl rfl⟩, fun _ => mem_both.2 ⟨a, h, .inr rfl⟩⟩
theorem rn_start {first : List Int} {arcs : List Ac} {p : Ac → Int} {back : Bool} {x : List Int} (h : Mid first (ways back arcs) p x) : Rn first arcs p back x x 0 := ⟨h, fun _ _ => Int.le_refl _, fun _ _ h => by omega⟩
theorem vat_set {x : List Int} {k : Nat} {m v : Int} (hk : k < x.length) : vat (x.set k m) v = if v.toNat = k then m else vat x v := by unfold vat; exact getD_set _ _ _ _ hk
theorem rn_next {first : List Int} {arcs : List Ac} {p : Ac → Int} {back : Bool} {x z : List Int} {i : Nat} (f : Fine first (ways back arcs) p) (he : back = true → Even p) (hx : Mid first (ways back arcs) p x) (R : Rn first arcs p back x z i) (hi : i < arcs.length) : Rn first arcs p back x (rel1 p back x z arcs[i]) (i + 1) := by
  have hm : arcs[i] ∈ arcs := List.getElem_mem hi
  obtain ⟨hw, hw2⟩ := mem_ways (back := back) hm
  have en := f.en _ hw
  have k1 : arcs[i].2.1.toNat < first.length := by omega
  have k2 : arcs[i].1.toNat < first.length := by omega
  have M1 : Mid first (ways back arcs) p (z.set arcs[i].2.1.toNat (min (vat z arcs[i].2.1) (vat x arcs[i].1 + p arcs[i]))) := by
    refine mid_set R.mid k1 (by unfold vat; omega) (fun y hy => ?_)
    have h1 := mid_arc hx hw f.en y hy
    have h2 := R.mid.most y hy _ k1
    unfold vat at h1 ⊢; omega
  have L1 : ∀ v, v < first.length → (z.set arcs[i].2.1.toNat (min (vat z arcs[i].2.1) (vat x arcs[i].1 + p arcs[i]))).getD v 0 ≤ z.getD v 0 := by
    intro v hv
    rw [getD_set _ _ _ _ (by rw [R.mid.len]; exact k1)]
    by_cases e : v = arcs[i].2.1.toNat
    · rw [if_pos e, e]; unfold vat; omega
    · rw [if_neg e]; exact Int.le_refl _
  have V1 : vat (z.set arcs[i].2.1.toNat (min (vat z arcs[i].2.1) (vat x arcs[i].1 + p arcs[i]))) arcs[i].2.1 ≤ vat x arcs[i].1 + p arcs[i] := by
    rw [vat_set (by rw [R.mid.len]; exact k1), if_pos rfl]; omega
  unfold rel1
  generalize z.set arcs[i].2.1.toNat (min (vat z arcs[i].2.1) (vat x arcs[i].1 + p arcs[i])) = z1 at M1 L1 V1 ⊢
  have T1 : ∀ j, (h : j < arcs.length) → j < i + 1 → vat z1 arcs[j].2.1 ≤ vat x arcs[j].1 + p arcs[j] := by
    intro j hj hji
    by_cases e : j = i
    · subst e; exact V1
    · have hj2 := mem_ways (back := back) (List.getElem_mem hj)
      have := (R.told j hj (by omega)).1
      have h3 := L1 arcs[j].2.1.toNat (by have := f.en _ hj2.1; omega)
      unfold vat at this ⊢; omega
  cases back
  · simp only [Bool.false_eq_true, if_false]
    exact ⟨M1, fun v hv => Int.le_trans (L1 v hv) (R.le v hv), fun j hj hji => ⟨T1 j hj hji, fun h => by simp at h⟩⟩
  · simp only [if_true]
    have hev := he rfl
    have L2 : ∀ v, v < first.length → (z1.set arcs[i].1.toNat (min (vat z1 arcs[i].1) (vat x arcs[i].2.1 + p arcs[i]))).getD v 0 ≤ z1.getD v 0 := by
      intro v hv
      rw [getD_set _ _ _ _ (by rw [M1.len]; exact k2)]
      by_cases e : v = arcs[i].1.toNat
      · rw [if_pos e, e]; unfold vat; omega
      · rw [if_neg e]; exact Int.le_refl _
    refine ⟨mid_set M1 k2 (by unfold vat; omega) (fun y hy => ?_), fun v hv => Int.le_trans (L2 v hv) (Int.le_trans (L1 v hv) (R.le v hv)), fun j hj hji => ⟨?_, fun _ => ?_⟩⟩
    · have h1 := mid_arc hx (hw2 rfl) f.en y hy
      have h2 := M1.most y hy _ k2
      simp only [hev arcs[i]] at h1
      unfold vat at h1 ⊢; omega
    · have h1 := T1 j hj hji
      have hj2 := mem_ways (back := true) (List.getElem_mem hj)
      have h3 := L2 arcs[j].2.1.toNat (by have := f.en _ hj2.1; omega)
      unfold vat at h1 h3 ⊢; omega
    · by_cases e : j = i
      · subst e; rw [vat_set (by rw [M1.len]; exact k2), if_pos rfl]; omega
      · have hj2 := mem_ways (back := true) (List.getElem_mem hj)
        have h1 := (R.told j hj (by omega)).2 rfl
        have h4 := L1 arcs[j].1.toNat (by have := f.en _ hj2.1; omega)
        have h3 := L2 arcs[j].1.toNat (by have := f.en _ hj2.1; omega)
        unfold vat at h1 h3 h4 ⊢; omega
theorem rn_fold {first : List Int} {arcs : List Ac} {p : Ac → Int} {back : Bool} {x : List Int} (f : Fine first (ways back arcs) p) (he : back = true → Even p) (hx : Mid first (ways back arcs) p x) : ∀ i, i ≤ arcs.length → Rn first arcs p back x ((arcs.take i).foldl (rel1 p back x) x) i
  | 0, _ => by rw [List.take_zero]; exact rn_start hx
  | i + 1, h => by rw [fold_take _ _ _ _ _ (by omega)]; exact rn_next f he hx (rn_fold f he hx i (by omega)) (by omega)
theorem rn_round {first : List Int} {arcs : List Ac} {p : Ac → Int} {back : Bool} {x : List Int} (f : Fine first (ways back arcs) p) (he : back = true → Even p) (hx : Mid first (ways back arcs) p x) : Rn first arcs p back x (rnd arcs p back x) arcs.length := by
  have := rn_fold f he hx arcs.length (Nat.le_refl _)
  rw [List.take_length] at this; exact this
/-- where a round tells what was told nothing gets less -/
theorem rnd_end {first : List Int} {arcs : List Ac} {p : Ac → Int} {back : Bool} {x : List Int} (f : Fine first (ways back arcs) p) (he : back = true → Even p) (hx : Mid first (ways back arcs) p x) (h : rnd arcs p back x = x) : Best first (ways back arcs) p x := by
  have R := rn_round f he hx
  rw [h] at R
  refine ⟨hx, fun b hb => ?_⟩
  have go : ∀ a ∈ arcs, vat x a.2.1 ≤ vat x a.1 + p a ∧ (back = true → vat x a.1 ≤ vat x a.2.1 + p a) := by
    intro a ha
    obtain ⟨i, hi, rfl⟩ := List.getElem_of_mem ha
    exact R.told i hi hi
  unfold ways at hb
  cases back
  · simp only [Bool.false_eq_true, if_false] at hb; exact (go b hb).1
  · simp only [if_true] at hb
    obtain ⟨a, ha, rfl | rfl⟩ := mem_both.1 hb
    · exact (go _ ha).1
    · have := (go a ha).2 rfl
      rw [he rfl a]; exact this
theorem rnd_less {first : List Int} {arcs : List Ac} {p : Ac → Int} {back : Bool} {x : List Int} (f : Fine first (ways back arcs) p) (he : back = true → Even p) (hx : Mid first (ways back arcs) p x) (h : ¬ rnd arcs p back x = x) : msum (rnd arcs p back x) < msum x := by
  have R := rn_round f he hx
  exact msum_lt _ _ (by rw [R.mid.len, hx.len]) (fun z hz => (R.mid.bounds f z hz).1) (fun v hv => R.le v (by rw [← R.mid.len]; exact hv)) h

end Go.Proofs.Yteibdmfcclkjpad
