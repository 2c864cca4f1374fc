/-
  Graphs in time as plain data, and what Check answers: the plain mathematics, without any program.
-/
namespace Go.Proofs.Yteibdmfcclkjpac

/-- a leg: From, To, Time, Cost -/
abbrev Lg := Int × Int × Int × Int
/-- an edge: A, B, its legs -/
abbrev Ed := Int × Int × List Lg
/-- a graph -/
structure Gr where
  hor : Int
  lives : List (Int × Int)
  edges : List Ed

/-- is n from lo to hi? -/
def inR (n lo hi : Int) : Bool := decide (lo ≤ n) && decide (n ≤ hi)
/-- are the times from a to b some, and times of the graph? -/
def spanB (a b h : Int) : Bool := decide (0 ≤ a) && (decide (a < b) && decide (b ≤ h))
/-- is the leg one? -/
def fitB (l : Lg) (h : Int) : Bool := spanB l.1 l.2.1 h && (inR l.2.2.1 1 50 && inR l.2.2.2 0 1000)

/-- legs, behind a leg that ends at p -/
def lgChk (h p : Int) : List Lg → Int
  | [] => 0
  | l :: ls => if fitB l h = false then 1 else if l.1 < p then 5 else lgChk h l.2.1 ls
/-- an edge -/
def edChk (h n : Int) (e : Ed) : Int := if (inR e.1 0 (n - 1) && inR e.2.1 0 (n - 1)) = false then 4 else if 6 < e.2.2.length then 2 else lgChk h 0 e.2.2
def edsChk (h n : Int) : List Ed → Int
  | [] => 0
  | e :: es => if edChk h n e = 0 then edsChk h n es else edChk h n e
def lvChk (h : Int) : List (Int × Int) → Int
  | [] => 0
  | p :: ps => if spanB p.1 p.2 h = true then lvChk h ps else 1
/-- what Check answers -/
def gChk (g : Gr) : Int :=
  if inR g.hor 1 100 = false then 1 else if 12 < g.lives.length ∨ 30 < g.edges.length then 2 else if lvChk g.hor g.lives ≠ 0 then 1 else edsChk g.hor g.lives.length g.edges

theorem inR_iff (n lo hi : Int) : inR n lo hi = true ↔ lo ≤ n ∧ n ≤ hi := by unfold inR; simp
theorem inR_no {n lo hi : Int} (h : ¬ (lo ≤ n ∧ n ≤ hi)) : inR n lo hi = false := by rw [← Bool.not_eq_true, inR_iff]; exact h
theorem spanB_iff (a b h : Int) : spanB a b h = true ↔ 0 ≤ a ∧ a < b ∧ b ≤ h := by unfold spanB; simp
theorem spanB_no {a b h : Int} (k : ¬ (0 ≤ a ∧ a < b ∧ b ≤ h)) : spanB a b h = false := by rw [← Bool.not_eq_true, spanB_iff]; exact k
theorem fitB_iff (l : Lg) (h : Int) : fitB l h = true ↔ (0 ≤ l.1 ∧ l.1 < l.2.1 ∧ l.2.1 ≤ h) ∧ (1 ≤ l.2.2.1 ∧ l.2.2.1 ≤ 50) ∧ (0 ≤ l.2.2.2 ∧ l.2.2.2 ≤ 1000) := by
  unfold fitB; rw [Bool.and_eq_true, Bool.and_eq_true, spanB_iff, inR_iff, inR_iff]

theorem lgChk_cases (h : Int) : ∀ (l : List Lg) (p : Int), lgChk h p l = 0 ∨ lgChk h p l = 1 ∨ lgChk h p l = 5
  | [], p => .inl rfl
  | l :: ls, p => by
    unfold lgChk
    split
    · exact .inr (.inl rfl)
    · split
      · exact .inr (.inr rfl)
      · exact lgChk_cases h ls _
theorem edChk_cases (h n : Int) (e : Ed) : edChk h n e = 0 ∨ edChk h n e = 1 ∨ edChk h n e = 2 ∨ edChk h n e = 4 ∨ edChk h n e = 5 := by
  unfold edChk
  split
  · simp
  · split
    · simp
    · rcases lgChk_cases h e.2.2 0 with k | k | k <;> simp [k]
theorem edsChk_cases (h n : Int) : ∀ l : List Ed, edsChk h n l = 0 ∨ edsChk h n l = 1 ∨ edsChk h n l = 2 ∨ edsChk h n l = 4 ∨ edsChk h n l = 5
  | [] => .inl rfl
  | e :: es => by
    unfold edsChk
    split
    · exact edsChk_cases h n es
    · exact edChk_cases h n e
theorem lvChk_cases (h : Int) : ∀ l : List (Int × Int), lvChk h l = 0 ∨ lvChk h l = 1
  | [] => .inl rfl
  | p :: ps => by
    unfold lvChk
    split
    · exact lvChk_cases h ps
    · exact .inr rfl
theorem gChk_cases (g : Gr) : gChk g = 0 ∨ gChk g = 1 ∨ gChk g = 2 ∨ gChk g = 4 ∨ gChk g = 5 := by
  unfold gChk
  split
  · simp
  · split
    · simp
    · split
      · simp
      · exact edsChk_cases _ _ _

theorem drop_get {α : Type} (l : List α) (k : Nat) (h : k < l.length) : l.drop k = l[k] :: l.drop (k + 1) := (List.drop_eq_getElem_cons h)

/-- the To of the leg ahead of leg k; 0 ahead of the first -/
def prevTo (l : List Lg) : Nat → Int
  | 0 => 0
  | k + 1 => (l.getD k (0, 0, 0, 0)).2.1

theorem lg_bad {h : Int} {l : List Lg} {k : Nat} (hk : k < l.length) (hI : lgChk h 0 l = lgChk h (prevTo l k) (l.drop k)) (hf : fitB l[k] h = false) : lgChk h 0 l = 1 := by
  rw [hI, drop_get l k hk, lgChk, if_pos hf]
theorem lg_form {h : Int} {l : List Lg} {k : Nat} (hk : k < l.length) (hI : lgChk h 0 l = lgChk h (prevTo l k) (l.drop k)) (hf : fitB l[k] h = true) (hp : l[k].1 < prevTo l k) : lgChk h 0 l = 5 := by
  rw [hI, drop_get l k hk, lgChk, if_neg (by simp [hf]), if_pos hp]
theorem lg_next {h : Int} {l : List Lg} {k : Nat} (hk : k < l.length) (hI : lgChk h 0 l = lgChk h (prevTo l k) (l.drop k)) (hf : fitB l[k] h = true) (hp : ¬ l[k].1 < prevTo l k) : lgChk h 0 l = lgChk h (prevTo l (k + 1)) (l.drop (k + 1)) := by
  rw [hI, drop_get l k hk, lgChk, if_neg (by simp [hf]), if_neg hp]
  simp [prevTo, List.getD_eq_getElem?_getD, List.getElem?_eq_getElem hk]
theorem lg_end {h : Int} {l : List Lg} (hI : lgChk h 0 l = lgChk h (prevTo l l.length) (l.drop l.length)) : lgChk h 0 l = 0 := by
  rw [hI, List.drop_length]; rfl
theorem prevTo_succ {l : List Lg} {k : Nat} (hk : k < l.length) : prevTo l (k + 1) = l[k].2.1 := by
  simp [prevTo, List.getD_eq_getElem?_getD, List.getElem?_eq_getElem hk]

theorem eds_stop {h n : Int} {l : List Ed} {k : Nat} (hk : k < l.length) (hI : edsChk h n l = edsChk h n (l.drop k)) (he : edChk h n l[k] ≠ 0) : edsChk h n l = edChk h n l[k] := by
  rw [hI, drop_get l k hk, edsChk, if_neg he]
theorem eds_next {h n : Int} {l : List Ed} {k : Nat} (hk : k < l.length) (hI : edsChk h n l = edsChk h n (l.drop k)) (he : edChk h n l[k] = 0) : edsChk h n l = edsChk h n (l.drop (k + 1)) := by
  rw [hI, drop_get l k hk, edsChk, if_pos he]
theorem eds_end {h n : Int} {l : List Ed} (hI : edsChk h n l = edsChk h n (l.drop l.length)) : edsChk h n l = 0 := by
  rw [hI, List.drop_length]; rfl
theorem lv_stop {h : Int} {l : List (Int × Int)} {k : Nat} (hk : k < l.length) (hI : lvChk h l = lvChk h (l.drop k)) (he : spanB l[k].1 l[k].2 h = false) : lvChk h l = 1 := by
  rw [hI, drop_get l k hk, lvChk, if_neg (by simp [he])]
theorem lv_next {h : Int} {l : List (Int × Int)} {k : Nat} (hk : k < l.length) (hI : lvChk h l = lvChk h (l.drop k)) (he : spanB l[k].1 l[k].2 h = true) : lvChk h l = lvChk h (l.drop (k + 1)) := by
  rw [hI, drop_get l k hk, lvChk, if_pos he]
theorem lv_end {h : Int} {l : List (Int × Int)} (hI : lvChk h l = lvChk h (l.drop l.length)) : lvChk h l = 0 := by
  rw [hI, List.drop_length]; rfl

theorem gChk_hor {g : Gr} (h : inR g.hor 1 100 = false) : gChk g = 1 := by unfold gChk; rw [if_pos h]
theorem gChk_large {g : Gr} (h : inR g.hor 1 100 = true) (k : 12 < g.lives.length ∨ 30 < g.edges.length) : gChk g = 2 := by unfold gChk; rw [if_neg (by simp [h]), if_pos k]
theorem gChk_life {g : Gr} (h : inR g.hor 1 100 = true) (k : ¬ (12 < g.lives.length ∨ 30 < g.edges.length)) (l : lvChk g.hor g.lives = 1) : gChk g = 1 := by unfold gChk; rw [if_neg (by simp [h]), if_neg k, if_pos (by omega)]
theorem gChk_rest {g : Gr} (h : inR g.hor 1 100 = true) (k : ¬ (12 < g.lives.length ∨ 30 < g.edges.length)) (l : lvChk g.hor g.lives = 0) : gChk g = edsChk g.hor g.lives.length g.edges := by unfold gChk; rw [if_neg (by simp [h]), if_neg k, if_neg (by omega)]

/-- what a right graph is -/
structure Right (g : Gr) : Prop where
  hor : 1 ≤ g.hor ∧ g.hor ≤ 100
  lvs : g.lives.length ≤ 12
  eds : g.edges.length ≤ 30
  life : ∀ p ∈ g.lives, 0 ≤ p.1 ∧ p.1 < p.2 ∧ p.2 ≤ g.hor
  ends : ∀ e ∈ g.edges, (0 ≤ e.1 ∧ e.1 < g.lives.length) ∧ (0 ≤ e.2.1 ∧ e.2.1 < g.lives.length) ∧ e.2.2.length ≤ 6
  legs : ∀ e ∈ g.edges, ∀ l ∈ e.2.2, fitB l g.hor = true

theorem lv_all {h : Int} : ∀ {l : List (Int × Int)}, lvChk h l = 0 → ∀ p ∈ l, spanB p.1 p.2 h = true
  | [], _, p, hp => by simp at hp
  | q :: l, hl, p, hp => by
    unfold lvChk at hl
    by_cases hq : spanB q.1 q.2 h = true
    · rw [if_pos hq] at hl
      rcases List.mem_cons.1 hp with rfl | hp
      · exact hq
      · exact lv_all hl p hp
    · rw [if_neg hq] at hl; omega
theorem lg_all {h : Int} : ∀ {l : List Lg} {p : Int}, lgChk h p l = 0 → ∀ x ∈ l, fitB x h = true
  | [], _, _, x, hx => by simp at hx
  | q :: l, p, hl, x, hx => by
    unfold lgChk at hl
    by_cases hq : fitB q h = false
    · rw [if_pos hq] at hl; omega
    · rw [if_neg hq] at hl
      by_cases hp : q.1 < p
      · rw [if_pos hp] at hl; omega
      · rw [if_neg hp] at hl
        rcases List.mem_cons.1 hx with rfl | hx
        · simpa using hq
        · exact lg_all hl x hx
theorem eds_all {h n : Int} : ∀ {l : List Ed}, edsChk h n l = 0 → ∀ e ∈ l, edChk h n e = 0
  | [], _, e, he => by simp at he
  | q :: l, hl, e, he => by
    unfold edsChk at hl
    by_cases hq : edChk h n q = 0
    · rw [if_pos hq] at hl
      rcases List.mem_cons.1 he with rfl | he
      · exact hq
      · exact eds_all hl e he
    · rw [if_neg hq] at hl; exact absurd hl hq
theorem gChk_right {g : Gr} (h : gChk g = 0) : Right g := by
  unfold gChk at h
  by_cases h1 : inR g.hor 1 100 = false
  · rw [if_pos h1] at h; omega
  rw [if_neg h1] at h
  by_cases h2 : 12 < g.lives.length ∨ 30 < g.edges.length
  · rw [if_pos h2] at h; omega
  rw [if_neg h2] at h
  by_cases h3 : lvChk g.hor g.lives ≠ 0
  · rw [if_pos h3] at h; omega
  rw [if_neg h3] at h
  have e0 := eds_all h
  have hed : ∀ e ∈ g.edges, (0 ≤ e.1 ∧ e.1 < g.lives.length) ∧ (0 ≤ e.2.1 ∧ e.2.1 < g.lives.length) ∧ e.2.2.length ≤ 6 ∧ lgChk g.hor 0 e.2.2 = 0 := by
    intro e he
    have := e0 e he
    unfold edChk at this
    by_cases k1 : (inR e.1 0 (g.lives.length - 1) && inR e.2.1 0 (g.lives.length - 1)) = false
    · rw [if_pos k1] at this; omega
    rw [if_neg k1] at this
    by_cases k2 : 6 < e.2.2.length
    · rw [if_pos k2] at this; omega
    rw [if_neg k2] at this
    rw [Bool.not_eq_false, Bool.and_eq_true, inR_iff, inR_iff] at k1
    exact ⟨⟨k1.1.1, by omega⟩, ⟨k1.2.1, by omega⟩, by omega, this⟩
  refine ⟨(inR_iff _ _ _).1 (by simpa using h1), by omega, by omega, fun p hp => (spanB_iff _ _ _).1 (lv_all (by omega) p hp), fun e he => ?_, fun e he l hl => lg_all (hed e he).2.2.2 l hl⟩
  have := hed e he
  exact ⟨this.1, this.2.1, this.2.2.1⟩

end Go.Proofs.Yteibdmfcclkjpac
