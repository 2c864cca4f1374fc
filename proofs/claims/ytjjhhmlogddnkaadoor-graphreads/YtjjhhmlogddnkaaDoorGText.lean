/-
  Graphs as texts: what Print and Parse answer, and that each undoes the other: the plain mathematics, without any program.
-/
import Derived.Lib.ItoaMem
import Derived.Lib.SplitLaws
import Derived.Test.YtjjhhmlogddnkaaDoorPk1
namespace Go.Proofs.YtjjhhmlogddnkaaDoor
open Go.Lib

/-- the pieces of a text between bytes c -/
def sp (c : UInt8) : List UInt8 → List (List UInt8)
  | [] => [[]]
  | x :: l => if x = c then [] :: sp c l else ((x :: (sp c l).headD []) :: (sp c l).tail)
/-- put together again -/
def jn (c : UInt8) : List (List UInt8) → List UInt8
  | [] => []
  | [l] => l
  | l :: m :: r => l ++ c :: jn c (m :: r)

theorem sp_ne (c : UInt8) (l : List UInt8) : sp c l ≠ [] := by
  cases l with
  | nil => simp [sp]
  | cons x l => unfold sp; split <;> simp
theorem sp_cons (c : UInt8) (l : List UInt8) : ∃ h t, sp c l = h :: t := by
  cases h : sp c l with
  | nil => exact absurd h (sp_ne c l)
  | cons a b => exact ⟨a, b, rfl⟩
theorem sp_hit (c : UInt8) (l : List UInt8) : sp c (c :: l) = [] :: sp c l := by rw [sp, if_pos rfl]
theorem sp_miss {c x : UInt8} (h : x ≠ c) {l : List UInt8} {a : List UInt8} {t : List (List UInt8)} (e : sp c l = a :: t) : sp c (x :: l) = (x :: a) :: t := by rw [sp, if_neg h, e]; rfl
theorem sp_none {c : UInt8} : ∀ {l : List UInt8}, c ∉ l → sp c l = [l]
  | [], _ => rfl
  | x :: l, h => by
    have hx : x ≠ c := fun e => h (by simp [e])
    rw [sp_miss hx (sp_none (fun k => h (List.mem_cons_of_mem _ k)))]
theorem sp_ahead {c : UInt8} : ∀ {a : List UInt8} (l : List UInt8), c ∉ a → sp c (a ++ c :: l) = a :: sp c l
  | [], l, _ => sp_hit c l
  | x :: a, l, h => by
    have hx : x ≠ c := fun e => h (by simp [e])
    rw [List.cons_append, sp_miss hx (sp_ahead l (fun k => h (List.mem_cons_of_mem _ k)))]
theorem jn_cons (c : UInt8) (a : List UInt8) {t : List (List UInt8)} (h : t ≠ []) : jn c (a :: t) = a ++ c :: jn c t := by
  cases t with
  | nil => exact absurd rfl h
  | cons b t => rfl
theorem jn_head (c x : UInt8) (a : List UInt8) (t : List (List UInt8)) : jn c ((x :: a) :: t) = x :: jn c (a :: t) := by
  cases t with
  | nil => rfl
  | cons b t => rfl
theorem jn_sp (c : UInt8) : ∀ l : List UInt8, jn c (sp c l) = l
  | [] => rfl
  | x :: l => by
    by_cases h : x = c
    · subst h; rw [sp_hit, jn_cons _ _ (sp_ne _ _), jn_sp x l]; rfl
    · obtain ⟨a, t, e⟩ := sp_cons c l
      rw [sp_miss h e, jn_head, ← e, jn_sp c l]
theorem sp_snoc_hit (c : UInt8) : ∀ l : List UInt8, sp c (l ++ [c]) = sp c l ++ [[]]
  | [] => by rw [List.nil_append, sp_hit]; rfl
  | x :: l => by
    by_cases h : x = c
    · subst h; rw [List.cons_append, sp_hit, sp_hit, sp_snoc_hit x l]; rfl
    · obtain ⟨a, t, e⟩ := sp_cons c l
      have := sp_snoc_hit c l
      rw [e] at this
      rw [List.cons_append, sp_miss h this, sp_miss h e]; rfl
theorem sp_snoc_miss {c x : UInt8} (hx : x ≠ c) : ∀ (l : List UInt8) (i : List (List UInt8)) (a : List UInt8), sp c l = i ++ [a] → sp c (l ++ [x]) = i ++ [a ++ [x]]
  | [], i, a, h => by
    have : sp c [] = [[]] := rfl
    rw [this] at h
    cases i with
    | nil => simp at h; subst h; rw [List.nil_append, sp_miss hx (show sp c [] = [] :: [] from rfl)]; rfl
    | cons b i => cases i <;> simp at h
  | y :: l, i, a, h => by
    by_cases hy : y = c
    · subst hy
      rw [sp_hit] at h
      rw [List.cons_append, sp_hit]
      cases i with
      | nil => simp at h; exact absurd h.2 (sp_ne _ _)
      | cons b i =>
        simp at h
        rw [sp_snoc_miss hx l i a h.2, h.1]; rfl
    · obtain ⟨b, t, e⟩ := sp_cons c l
      rw [sp_miss hy e] at h
      cases i with
      | nil =>
        simp at h
        obtain ⟨rfl, rfl⟩ := h
        rw [List.cons_append, sp_miss hy (sp_snoc_miss hx l [] b (by rw [e]; rfl))]; rfl
      | cons d i =>
        simp at h
        obtain ⟨rfl, rfl⟩ := h
        rw [List.cons_append, sp_miss hy (sp_snoc_miss hx l (b :: i) a (by rw [e]; rfl))]; rfl
theorem sp_length_le (c : UInt8) : ∀ l : List UInt8, (sp c l).length ≤ l.length + 1
  | [] => by simp [sp]
  | x :: l => by
    have := sp_length_le c l
    obtain ⟨a, t, e⟩ := sp_cons c l
    rw [e] at this
    by_cases h : x = c
    · subst h; rw [sp_hit, e]; simpa using this
    · rw [sp_miss h e]; simp at this ⊢; omega
theorem sp_mem_le (c : UInt8) : ∀ (l : List UInt8), ∀ a ∈ sp c l, a.length ≤ l.length
  | [], a, h => by simp [sp] at h; simp [h]
  | x :: l, a, h => by
    have ih := sp_mem_le c l
    obtain ⟨b, t, e⟩ := sp_cons c l
    by_cases hx : x = c
    · subst hx
      rw [sp_hit] at h
      rcases List.mem_cons.1 h with rfl | h
      · simp
      · have := ih a h; simp; omega
    · rw [sp_miss hx e] at h
      rw [e] at ih
      rcases List.mem_cons.1 h with rfl | h
      · have := ih b (by simp); simp; omega
      · have := ih a (List.mem_cons_of_mem _ h); simp; omega

/-- is the byte a digit? -/
def dgB (b : UInt8) : Bool := decide (48 ≤ b.toNat) && decide (b.toNat ≤ 57)
/-- the number that digits tell -/
def nv (n : Nat) (l : List UInt8) : Nat := l.foldl (fun n b => 10 * n + (b.toNat - 48)) n
/-- is the word a number? -/
def nmB (l : List UInt8) : Bool := decide (1 ≤ l.length) && (decide (l.length ≤ 4) && (!(decide (l.head? = some 48) && decide (1 < l.length)) && l.all dgB))
def nm (l : List UInt8) : Option Int := if nmB l = true then some (nv 0 l : Nat) else none

theorem nmB_iff (l : List UInt8) : nmB l = true ↔ 1 ≤ l.length ∧ l.length ≤ 4 ∧ ¬ (l.head? = some 48 ∧ 1 < l.length) ∧ ∀ b ∈ l, dgB b = true := by
  unfold nmB
  rw [Bool.and_eq_true, Bool.and_eq_true, Bool.and_eq_true, List.all_eq_true, decide_eq_true_eq, decide_eq_true_eq, Bool.not_eq_true', ← Bool.not_eq_true, Bool.and_eq_true, decide_eq_true_eq, decide_eq_true_eq]
theorem dgB_iff (b : UInt8) : dgB b = true ↔ 48 ≤ b.toNat ∧ b.toNat ≤ 57 := by unfold dgB; simp
theorem dgB_of (d : Nat) (h : d < 10) : dgB (UInt8.ofNat (48 + d)) = true ∧ (UInt8.ofNat (48 + d)).toNat = 48 + d := by
  have : (UInt8.ofNat (48 + d)).toNat = 48 + d := by simp; omega
  exact ⟨(dgB_iff _).2 (by omega), this⟩
theorem ofNat_dg (b : UInt8) (h : dgB b = true) : UInt8.ofNat (48 + (b.toNat - 48)) = b := by
  have := (dgB_iff b).1 h
  apply UInt8.toNat_inj.1
  simp; omega
theorem nv_snoc (n : Nat) (l : List UInt8) (b : UInt8) : nv n (l ++ [b]) = 10 * nv n l + (b.toNat - 48) := by unfold nv; rw [List.foldl_append]; rfl

theorem snocInd {α : Type} {p : List α → Prop} (h0 : p []) (h1 : ∀ l x, p l → p (l ++ [x])) : ∀ (n : Nat) (l : List α), l.length = n → p l
  | 0, l, h => by rw [List.eq_nil_of_length_eq_zero h]; exact h0
  | n + 1, l, h => by
    rcases List.eq_nil_or_concat l with rfl | ⟨a, x, rfl⟩
    · exact h0
    · rw [List.concat_eq_append] at h ⊢
      exact h1 a x (snocInd h0 h1 n a (by simpa using h))

theorem nv_lt (l : List UInt8) (h : ∀ b ∈ l, dgB b = true) : nv 0 l < 10 ^ l.length := by
  revert h
  refine snocInd (p := fun l => (∀ b ∈ l, dgB b = true) → nv 0 l < 10 ^ l.length) (fun _ => by simp [nv]) (fun l b ih h => ?_) l.length l rfl
  have h1 := ih fun x hx => h x (by simp [hx])
  have h2 := (dgB_iff b).1 (h b (by simp))
  rw [nv_snoc, List.length_append, List.length_singleton, Nat.pow_succ]
  omega
theorem nv_bd (l : List UInt8) (h : ∀ b ∈ l, dgB b = true) (h4 : l.length ≤ 4) : nv 0 l ≤ 9999 := by
  have := nv_lt l h
  have : 10 ^ l.length ≤ 10 ^ 4 := Nat.pow_le_pow_right (by decide) h4
  omega
/-- digits without a nought ahead are the numeral of their number -/
theorem dec_nv (l : List UInt8) (h : ∀ b ∈ l, dgB b = true) (hne : l ≠ []) (h0 : ¬ (l.head? = some 48 ∧ 1 < l.length)) : decDigits (nv 0 l) = l := by
  revert h hne h0
  refine (snocInd (p := fun l => (∀ b ∈ l, dgB b = true) → l ≠ [] → ¬ (l.head? = some 48 ∧ 1 < l.length) → decDigits (nv 0 l) = l ∧ (l.head? ≠ some 48 → 1 ≤ nv 0 l)) (fun _ h => absurd rfl h) (fun l b ih h _ h0 => ?_) l.length l rfl · · · |>.1)
  have hb := h b (by simp)
  have h2 := (dgB_iff b).1 hb
  rw [nv_snoc]
  by_cases hl : l = []
  · subst hl
    have e : 10 * nv 0 [] + (b.toNat - 48) = b.toNat - 48 := by simp [nv]
    rw [e]
    refine ⟨by rw [decDigits_one (by omega), ofNat_dg b hb]; rfl, fun hh => ?_⟩
    have : b ≠ 48 := fun k => hh (by simp [k])
    have : b.toNat ≠ 48 := fun k => this (UInt8.toNat_inj.1 k)
    omega
  · have hlen : 1 ≤ l.length := by cases l with
      | nil => exact absurd rfl hl
      | cons _ _ => simp
    have hhd : (l ++ [b]).head? = l.head? := by cases l with
      | nil => exact absurd rfl hl
      | cons _ _ => rfl
    have hn : l.head? ≠ some 48 := fun k => h0 ⟨by rw [hhd]; exact k, by simp; omega⟩
    obtain ⟨i1, i2⟩ := ih (fun x hx => h x (by simp [hx])) hl (fun k => hn k.1)
    have i2 := i2 hn
    refine ⟨?_, fun _ => by omega⟩
    rw [decDigits, dif_neg (by omega), show (10 * nv 0 l + (b.toNat - 48)) / 10 = nv 0 l by omega, show (10 * nv 0 l + (b.toNat - 48)) % 10 = b.toNat - 48 by omega, i1, ofNat_dg b hb]

theorem dec_all (u : Nat) : ∀ b ∈ decDigits u, dgB b = true := by
  induction u using Nat.strongRecOn with
  | _ u ih =>
    intro b hb
    rw [decDigits] at hb
    by_cases h : u < 10
    · rw [dif_pos h] at hb
      rw [List.mem_singleton.1 hb]; exact (dgB_of u h).1
    · rw [dif_neg h] at hb
      rcases List.mem_append.1 hb with hb | hb
      · exact ih (u / 10) (by omega) b hb
      · rw [List.mem_singleton.1 hb]; exact (dgB_of (u % 10) (by omega)).1
theorem nv_dec (u : Nat) : nv 0 (decDigits u) = u := by
  induction u using Nat.strongRecOn with
  | _ u ih =>
    rw [decDigits]
    by_cases h : u < 10
    · rw [dif_pos h]
      have := (dgB_of u h).2
      simp only [nv, List.foldl_cons, List.foldl_nil, this]; omega
    · rw [dif_neg h, nv_snoc, ih (u / 10) (by omega), (dgB_of (u % 10) (by omega)).2]; omega
theorem dec_head (u : Nat) : 1 ≤ (decDigits u).length ∧ (1 ≤ u → (decDigits u).head? ≠ some 48) := by
  induction u using Nat.strongRecOn with
  | _ u ih =>
    rw [decDigits]
    by_cases h : u < 10
    · rw [dif_pos h]
      refine ⟨by simp, fun h1 k => ?_⟩
      have := (dgB_of u h).2
      simp only [List.head?_cons, Option.some.injEq] at k
      rw [k] at this
      have e : (48 : UInt8).toNat = 48 := rfl
      omega
    · rw [dif_neg h]
      obtain ⟨i1, i2⟩ := ih (u / 10) (by omega)
      refine ⟨by simp, fun _ k => ?_⟩
      have i2 := i2 (by omega)
      cases hd : decDigits (u / 10) with
      | nil => rw [hd] at i1; simp at i1
      | cons x t => rw [hd] at k i2; exact i2 k

theorem itoa_nat {n : Int} (h : 0 ≤ n) : itoa n = decDigits n.toNat := by unfold itoa; rw [if_neg (by omega)]
theorem nm_itoa {n : Int} (h : 0 ≤ n) (h9 : n ≤ 9999) : nm (itoa n) = some n := by
  rw [itoa_nat h]
  unfold nm
  have hl : (decDigits n.toNat).length ≤ 4 := by
    rw [decDigits_length]
    rcases Nat.lt_or_ge n.toNat 10 with k | k
    · rw [nDigits_small k]; omega
    rcases Nat.lt_or_ge n.toNat 100 with k1 | k1
    · rw [nDigits_unique 1 _ (by omega) (by omega)]; omega
    rcases Nat.lt_or_ge n.toNat 1000 with k2 | k2
    · rw [nDigits_unique 2 _ (by omega) (by omega)]; omega
    · rw [nDigits_unique 3 _ (by omega) (by omega)]; omega
  have h1 := dec_head n.toNat
  rw [if_pos, nv_dec]
  · congr 1; omega
  · rw [nmB_iff]
    refine ⟨h1.1, hl, fun ⟨k, k'⟩ => ?_, dec_all _⟩
    rcases Nat.eq_zero_or_pos n.toNat with e | e
    · rw [e, decDigits_one (by omega)] at k'; simp at k'
    · exact h1.2 e k
theorem nm_some {l : List UInt8} {n : Int} (h : nm l = some n) : itoa n = l ∧ 0 ≤ n ∧ n ≤ 9999 := by
  unfold nm at h
  by_cases hb : nmB l = true
  · rw [if_pos hb] at h
    obtain ⟨h1, h2, h3, h4⟩ := (nmB_iff l).1 hb
    simp only [Option.some.injEq] at h
    subst h
    have := nv_bd l h4 h2
    refine ⟨?_, by omega, by omega⟩
    rw [itoa_nonneg, dec_nv l h4 (fun e => by rw [e] at h1; simp at h1) h3]
  · rw [if_neg hb] at h; simp at h
theorem itoa_sign {n : Int} (h : 0 ≤ n) : ∀ b ∈ itoa n, dgB b = true := by rw [itoa_nat h]; exact dec_all _
theorem itoa_not {n : Int} (h : 0 ≤ n) {c : UInt8} (hc : dgB c = false) : c ∉ itoa n := fun k => by have := itoa_sign h c k; rw [hc] at this; simp at this

/-- numbers of words -/
def nms : List (List UInt8) → Option (List Int)
  | [] => some []
  | w :: ws => match nm w with
    | none => none
    | some n => match nms ws with
      | none => none
      | some l => some (n :: l)

def wTime : List UInt8 := [116, 105, 109, 101]
def wVertex : List UInt8 := [118, 101, 114, 116, 101, 120]
def wEdge : List UInt8 := [101, 100, 103, 101]
def wLeg : List UInt8 := [108, 101, 103]

/-- the graph with a leg more at its last edge -/
def putLeg (es : List Ed) (l : Lg) : List Ed := match es.getLast? with
  | none => es
  | some e => es.dropLast ++ [(e.1, e.2.1, e.2.2 ++ [l])]

/-- what a line's kind and numbers make of a graph -/
def put (g : Gr) (k : List UInt8) (ns : List Int) : Option Gr :=
  match ns with
  | [a] => if k = wTime then some { g with hor := a } else none
  | [a, b] => if k = wVertex ∧ g.edges = [] then some { g with lives := g.lives ++ [(a, b)] } else if k = wEdge then some { g with edges := g.edges ++ [(a, b, [])] } else none
  | [a, b, c, d] => if k = wLeg ∧ g.edges ≠ [] then some { g with edges := putLeg g.edges (a, b, c, d) } else none
  | _ => none
/-- is the word time? -/
def isT (k : List UInt8) : Bool := decide (k = wTime)
/-- what a line's words make of a graph -/
def lineW (g : Gr) (first : Bool) (k : List UInt8) (t : List (List UInt8)) : Option Gr :=
  match nms t with
  | none => none
  | some ns => if first = isT k then put g k ns else none
/-- what a line makes of a graph -/
def lineOf (g : Gr) (l : List UInt8) (first : Bool) : Option Gr := lineW g first ((sp 32 l).headD []) (sp 32 l).tail
theorem lineOf_eq {g : Gr} {l : List UInt8} {first : Bool} {k : List UInt8} {t : List (List UInt8)} (e : sp 32 l = k :: t) : lineOf g l first = lineW g first k t := by unfold lineOf; rw [e]; rfl
theorem lineW_none {g : Gr} {first : Bool} {k : List UInt8} {t : List (List UInt8)} (h : nms t = none) : lineW g first k t = none := by unfold lineW; rw [h]
theorem lineW_first {g : Gr} {first : Bool} {k : List UInt8} {t : List (List UInt8)} (h : first ≠ isT k) : lineW g first k t = none := by
  unfold lineW
  cases nms t with
  | none => rfl
  | some ns => simp only [if_neg h]
theorem lineW_put {g : Gr} {first : Bool} {k : List UInt8} {t : List (List UInt8)} {ns : List Int} (h : nms t = some ns) (h1 : first = isT k) : lineW g first k t = put g k ns := by unfold lineW; rw [h]; simp only [if_pos h1]
theorem lineW_some {g g' : Gr} {first : Bool} {k : List UInt8} {t : List (List UInt8)} (h : lineW g first k t = some g') : ∃ ns, nms t = some ns ∧ first = isT k ∧ put g k ns = some g' := by
  cases h1 : nms t with
  | none => rw [lineW_none h1] at h; simp at h
  | some ns =>
    by_cases h2 : first = isT k
    · exact ⟨ns, rfl, h2, by rw [← h, lineW_put h1 h2]⟩
    · rw [lineW_first h2] at h; simp at h
/-- what the lines make of a graph: or the number of the first wrong one -/
def rdP (g : Gr) (at' : Nat) (first : Bool) : List (List UInt8) → Gr ⊕ Nat
  | [] => .inr at'
  | [l] => if first = false ∧ l = [] then .inl g else .inr at'
  | l :: m :: r => match lineOf g l first with
    | none => .inr at'
    | some g' => rdP g' (at' + 1) false (m :: r)
def g0 : Gr := ⟨0, [], []⟩
/-- what Parse answers -/
def parse (s : List UInt8) : Gr × Int × Int :=
  if 8192 < s.length then (g0, 0, 2) else match rdP g0 1 true (sp 10 s) with
    | .inr n => (g0, n, 3)
    | .inl g => if gChk g = 0 then (g, 0, 0) else (g0, 0, gChk g)

/-- a line -/
def line (w : List UInt8) (ns : List Int) : List UInt8 := w ++ ns.flatMap (fun n => 32 :: itoa n) ++ [10]
def lvText (p : Int × Int) : List UInt8 := line wVertex [p.1, p.2]
def lgText (l : Lg) : List UInt8 := line wLeg [l.1, l.2.1, l.2.2.1, l.2.2.2]
def edText (e : Ed) : List UInt8 := line wEdge [e.1, e.2.1] ++ e.2.2.flatMap lgText
/-- what Print answers of a right graph -/
def gText (g : Gr) : List UInt8 := line wTime [g.hor] ++ g.lives.flatMap lvText ++ g.edges.flatMap edText

theorem nms_back : ∀ {ws : List (List UInt8)} {ns : List Int}, nms ws = some ns → ws = ns.map itoa ∧ ∀ n ∈ ns, 0 ≤ n ∧ n ≤ 9999
  | [], ns, h => by simp [nms] at h; subst h; simp
  | w :: ws, ns, h => by
    unfold nms at h
    cases h1 : nm w with
    | none => rw [h1] at h; simp at h
    | some n =>
      rw [h1] at h
      cases h2 : nms ws with
      | none => rw [h2] at h; simp at h
      | some l =>
        rw [h2] at h
        simp only [Option.some.injEq] at h
        subst h
        obtain ⟨e1, e2⟩ := nms_back h2
        obtain ⟨f1, f2, f3⟩ := nm_some h1
        refine ⟨by rw [List.map_cons, f1, ← e1], fun x hx => ?_⟩
        rcases List.mem_cons.1 hx with rfl | hx
        · exact ⟨f2, f3⟩
        · exact e2 x hx
theorem nms_itoa : ∀ {ns : List Int}, (∀ n ∈ ns, 0 ≤ n ∧ n ≤ 9999) → nms (ns.map itoa) = some ns
  | [], _ => rfl
  | n :: ns, h => by
    have h1 := h n (by simp)
    rw [List.map_cons, nms, nm_itoa h1.1 h1.2, nms_itoa fun x hx => h x (by simp [hx])]
theorem jn_map (w : List UInt8) : ∀ ns : List Int, jn 32 (w :: ns.map itoa) = w ++ ns.flatMap (fun n => 32 :: itoa n)
  | [] => by simp [jn]
  | n :: ns => by
    rw [List.map_cons, jn_cons _ _ (by simp), jn_map (itoa n) ns]
    simp
theorem sp_line {w : List UInt8} (hw : (32 : UInt8) ∉ w) : ∀ {ns : List Int}, (∀ n ∈ ns, 0 ≤ n) → sp 32 (w ++ ns.flatMap (fun n => 32 :: itoa n)) = w :: ns.map itoa
  | [], _ => by rw [List.flatMap_nil, List.append_nil, sp_none hw]; rfl
  | n :: ns, h => by
    rw [List.flatMap_cons, List.cons_append, sp_ahead _ hw, sp_line (itoa_not (h n (by simp)) (by decide)) fun x hx => h x (by simp [hx])]
    rfl

theorem putLeg_snoc (es : List Ed) (e : Ed) (l : Lg) : putLeg (es ++ [e]) l = es ++ [(e.1, e.2.1, e.2.2 ++ [l])] := by unfold putLeg; simp
theorem put_text {g g' : Gr} {k : List UInt8} {ns : List Int} (h : put g k ns = some g') (ht : k ≠ wTime) : gText g' = gText g ++ line k ns := by
  unfold put at h
  split at h
  · rw [if_neg ht] at h; simp at h
  · split at h
    · rename_i a b hk
      simp only [Option.some.injEq] at h
      subst h
      obtain ⟨rfl, he⟩ := hk
      simp [gText, he, lvText]
    · split at h
      · rename_i hk
        simp only [Option.some.injEq] at h
        subst h
        subst hk
        simp [gText, edText]
      · simp at h
  · split at h
    · rename_i a b c d hk
      simp only [Option.some.injEq] at h
      subst h
      obtain ⟨rfl, he⟩ := hk
      rcases List.eq_nil_or_concat g.edges with e | ⟨es, e, h0⟩
      · exact absurd e he
      · rw [List.concat_eq_append] at h0
        simp only [gText, h0, putLeg_snoc, List.flatMap_append, List.flatMap_cons, List.flatMap_nil, List.append_nil, edText, lgText, List.append_assoc]
    · simp at h
  · simp at h
theorem lineOf_text {g g' : Gr} {l : List UInt8} (h : lineOf g l false = some g') : gText g' = gText g ++ (l ++ [10]) := by
  obtain ⟨k, t, e⟩ := sp_cons 32 l
  rw [lineOf_eq e] at h
  obtain ⟨ns, h1, h2, h3⟩ := lineW_some h
  have hk : k ≠ wTime := by unfold isT at h2; simpa using h2
  rw [put_text h3 hk]
  have e2 := jn_sp 32 l
  rw [e, (nms_back h1).1, jn_map] at e2
  rw [line, e2]
theorem lineOf_first {g' : Gr} {l : List UInt8} (h : lineOf g0 l true = some g') : gText g' = l ++ [10] := by
  obtain ⟨k, t, e⟩ := sp_cons 32 l
  rw [lineOf_eq e] at h
  obtain ⟨ns, h1, h2, h⟩ := lineW_some h
  have hk : k = wTime := by unfold isT at h2; simpa using h2
  have e2 := jn_sp 32 l
  rw [e, (nms_back h1).1, jn_map] at e2
  subst hk
  unfold put at h
  split at h
  · simp only [if_true, Option.some.injEq] at h
    subst h
    simp [gText, g0, line, ← e2]
  · rw [if_neg (by simp [wTime, wVertex]), if_neg (by decide)] at h; simp at h
  · rw [if_neg (by simp [wTime, wLeg])] at h; simp at h
  · simp at h
theorem rdP_text : ∀ (ps : List (List UInt8)) (g g' : Gr) (n : Nat), rdP g n false ps = .inl g' → gText g' = gText g ++ jn 10 ps
  | [], g, g', n, h => by simp [rdP] at h
  | [l], g, g', n, h => by
    unfold rdP at h
    split at h
    · rename_i hl
      simp only [Sum.inl.injEq] at h
      subst h
      simp [hl.2, jn]
    · simp at h
  | l :: m :: r, g, g', n, h => by
    unfold rdP at h
    cases h1 : lineOf g l false with
    | none => rw [h1] at h; simp at h
    | some g1 =>
      rw [h1] at h
      rw [rdP_text (m :: r) g1 g' _ h, lineOf_text h1, jn_cons 10 l (t := m :: r) (by simp)]
      simp
theorem parse_text {s : List UInt8} {g : Gr} {a : Int} (h : parse s = (g, a, 0)) : gText g = s ∧ gChk g = 0 ∧ a = 0 := by
  unfold parse at h
  split at h
  · simp at h
  · split at h
    · simp at h
    · rename_i g1 hr
      split at h
      · rename_i hc
        simp only [Prod.mk.injEq] at h
        obtain ⟨rfl, h2, _⟩ := h
        refine ⟨?_, hc, h2.symm⟩
        have e := jn_sp 10 s
        obtain ⟨l, t, e2⟩ := sp_cons 10 s
        rw [e2] at hr e
        cases t with
        | nil => simp [rdP] at hr
        | cons m r =>
          unfold rdP at hr
          cases h1 : lineOf g0 l true with
          | none => rw [h1] at hr; simp at hr
          | some g2 =>
            rw [h1] at hr
            rw [rdP_text (m :: r) g2 g1 _ hr, lineOf_first h1, ← e, jn_cons 10 l (t := m :: r) (by simp)]
            simp
      · rename_i hc
        simp only [Prod.mk.injEq] at h
        exact absurd h.2.2 hc

/-- a printed line ahead of a text is its first piece -/
theorem sp_nl {w : List UInt8} (hw : (10 : UInt8) ∉ w) {ns : List Int} (h : ∀ n ∈ ns, 0 ≤ n) (s : List UInt8) : sp 10 (line w ns ++ s) = (w ++ ns.flatMap (fun n => 32 :: itoa n)) :: sp 10 s := by
  have hc : (10 : UInt8) ∉ w ++ ns.flatMap (fun n => 32 :: itoa n) := by
    intro k
    rcases List.mem_append.1 k with k | k
    · exact hw k
    · obtain ⟨n, hn, k⟩ := List.mem_flatMap.1 k
      rcases List.mem_cons.1 k with k | k
      · simp at k
      · exact itoa_not (h n hn) (by decide) k
  rw [line, List.append_assoc, List.singleton_append, sp_ahead _ hc]
theorem rdP_line {w : List UInt8} (hw : (10 : UInt8) ∉ w) (hw2 : (32 : UInt8) ∉ w) {ns : List Int} (h : ∀ n ∈ ns, 0 ≤ n ∧ n ≤ 9999) (s : List UInt8) (g g' : Gr) (n : Nat) (first : Bool) (h1 : first = isT w) (hp : put g w ns = some g') :
    rdP g n first (sp 10 (line w ns ++ s)) = rdP g' (n + 1) false (sp 10 s) := by
  have e := sp_nl hw (fun n hn => (h n hn).1) s
  obtain ⟨a, t, e2⟩ := sp_cons 10 s
  rw [e, e2, rdP, lineOf_eq (sp_line hw2 fun n hn => (h n hn).1), lineW_put (nms_itoa h) h1, hp]
theorem rdP_legs : ∀ (ls : List Lg) (h : Int) (lv : List (Int × Int)) (es : List Ed) (a b : Int) (l0 : List Lg) (n : Nat) (s : List UInt8), (∀ l ∈ ls, ∀ n ∈ [l.1, l.2.1, l.2.2.1, l.2.2.2], 0 ≤ n ∧ n ≤ 9999) →
    ∃ n', rdP ⟨h, lv, es ++ [(a, b, l0)]⟩ n false (sp 10 (ls.flatMap lgText ++ s)) = rdP ⟨h, lv, es ++ [(a, b, l0 ++ ls)]⟩ n' false (sp 10 s)
  | [], h, lv, es, a, b, l0, n, s, _ => ⟨n, by simp⟩
  | l :: ls, h, lv, es, a, b, l0, n, s, hb => by
    obtain ⟨n', e⟩ := rdP_legs ls h lv es a b (l0 ++ [l]) (n + 1) s fun x hx => hb x (by simp [hx])
    refine ⟨n', ?_⟩
    rw [List.flatMap_cons, List.append_assoc, lgText, rdP_line (by decide) (by decide) (hb l (by simp)) _ _ ⟨h, lv, es ++ [(a, b, l0 ++ [l])]⟩ n false (by decide) ?_, e]
    · simp
    · rw [put, if_pos ⟨rfl, by simp⟩, putLeg_snoc]
theorem rdP_edges : ∀ (es' : List Ed) (h : Int) (lv : List (Int × Int)) (es : List Ed) (n : Nat), (∀ e ∈ es', (∀ n ∈ [e.1, e.2.1], 0 ≤ n ∧ n ≤ 9999) ∧ ∀ l ∈ e.2.2, ∀ n ∈ [l.1, l.2.1, l.2.2.1, l.2.2.2], 0 ≤ n ∧ n ≤ 9999) →
    ∃ n', rdP ⟨h, lv, es⟩ n false (sp 10 (es'.flatMap edText)) = rdP ⟨h, lv, es ++ es'⟩ n' false (sp 10 [])
  | [], h, lv, es, n, _ => ⟨n, by simp⟩
  | e :: es', h, lv, es, n, hb => by
    obtain ⟨h1, h2⟩ := hb e (by simp)
    obtain ⟨n1, e1⟩ := rdP_legs e.2.2 h lv es e.1 e.2.1 [] (n + 1) (es'.flatMap edText) h2
    obtain ⟨n2, e2⟩ := rdP_edges es' h lv (es ++ [e]) n1 fun x hx => hb x (by simp [hx])
    refine ⟨n2, ?_⟩
    rw [List.flatMap_cons, edText, List.append_assoc, rdP_line (by decide) (by decide) h1 _ _ ⟨h, lv, es ++ [(e.1, e.2.1, [])]⟩ n false (by decide) ?_, e1, List.nil_append, e2]
    · simp
    · rw [put, if_neg (fun k => by simp [wEdge, wVertex] at k), if_pos rfl]
theorem rdP_lives : ∀ (ls : List (Int × Int)) (h : Int) (lv : List (Int × Int)) (n : Nat) (s : List UInt8), (∀ p ∈ ls, ∀ n ∈ [p.1, p.2], 0 ≤ n ∧ n ≤ 9999) →
    ∃ n', rdP ⟨h, lv, []⟩ n false (sp 10 (ls.flatMap lvText ++ s)) = rdP ⟨h, lv ++ ls, []⟩ n' false (sp 10 s)
  | [], h, lv, n, s, _ => ⟨n, by simp⟩
  | l :: ls, h, lv, n, s, hb => by
    obtain ⟨n', e⟩ := rdP_lives ls h (lv ++ [l]) (n + 1) s fun x hx => hb x (by simp [hx])
    refine ⟨n', ?_⟩
    rw [List.flatMap_cons, List.append_assoc, lvText, rdP_line (by decide) (by decide) (hb l (by simp)) _ _ ⟨h, lv ++ [l], []⟩ n false (by decide) ?_, e]
    · simp
    · rw [put, if_pos ⟨rfl, rfl⟩]

theorem itoa_len {n : Int} (h : 0 ≤ n) (k : Nat) (h9 : n < (10 ^ (k + 1) : Nat)) : (itoa n).length ≤ k + 1 := by
  rw [itoa_nat h, decDigits_length]
  have : ∀ (k u : Nat), u < 10 ^ (k + 1) → nDigits u ≤ k + 1 := by
    intro k
    induction k with
    | zero => intro u hu; rw [nDigits_small (by simpa using hu)]; omega
    | succ k ih =>
      intro u hu
      by_cases h : u < 10
      · rw [nDigits_small h]; omega
      · rw [nDigits_big h]
        have := ih (u / 10) (by rw [Nat.pow_succ] at hu; omega)
        omega
  exact this k _ (by omega)
theorem flat_len {α : Type} (f : α → List UInt8) (k : Nat) : ∀ (l : List α), (∀ x ∈ l, (f x).length ≤ k) → (l.flatMap f).length ≤ k * l.length
  | [], _ => by simp
  | x :: l, h => by
    have h1 := h x (by simp)
    have h2 := flat_len f k l fun y hy => h y (by simp [hy])
    rw [List.flatMap_cons, List.length_append, List.length_cons, Nat.mul_succ]
    omega
theorem right_len {g : Gr} (h : Right g) : (gText g).length ≤ 8000 := by
  have a1 := itoa_len (n := g.hor) (by have := h.hor; omega) 2 (by have := h.hor; omega)
  have hh := h.hor
  have a2 : (g.lives.flatMap lvText).length ≤ 20 * g.lives.length := by
    refine flat_len _ _ _ fun p hp => ?_
    have := h.life p hp
    have b1 := itoa_len (n := p.1) (by omega) 2 (by omega)
    have b2 := itoa_len (n := p.2) (by omega) 2 (by omega)
    simp [lvText, line, wVertex]; omega
  have a3 : (g.edges.flatMap edText).length ≤ 200 * g.edges.length := by
    refine flat_len _ _ _ fun e he => ?_
    have he' := h.ends e he
    have hlv := h.lvs
    have b1 := itoa_len (n := e.1) (by omega) 2 (by omega)
    have b2 := itoa_len (n := e.2.1) (by omega) 2 (by omega)
    have b3 : (e.2.2.flatMap lgText).length ≤ 25 * e.2.2.length := by
      refine flat_len _ _ _ fun l hl => ?_
      have hf := (fitB_iff l g.hor).1 (h.legs e he l hl)
      have c1 := itoa_len (n := l.1) (by omega) 2 (by omega)
      have c2 := itoa_len (n := l.2.1) (by omega) 2 (by omega)
      have c3 := itoa_len (n := l.2.2.1) (by omega) 2 (by omega)
      have c4 := itoa_len (n := l.2.2.2) (by omega) 3 (by omega)
      simp [lgText, line, wLeg]; omega
    simp [edText, line, wEdge]; simp at b3; omega
  have := h.lvs
  have := h.eds
  simp [gText, line, wTime] at *
  omega
/-- what is printed is read as it was -/
theorem parse_print {g : Gr} (h : gChk g = 0) : parse (gText g) = (g, 0, 0) := by
  have R := gChk_right h
  have hh := R.hor
  have hlv := R.lvs
  obtain ⟨n1, e1⟩ := rdP_lives g.lives g.hor [] 2 (g.edges.flatMap edText) fun p hp n hn => by
    have := R.life p hp
    simp at hn; rcases hn with rfl | rfl <;> omega
  obtain ⟨n2, e2⟩ := rdP_edges g.edges g.hor g.lives [] n1 fun e he => by
    have he' := R.ends e he
    refine ⟨fun n hn => by simp at hn; rcases hn with rfl | rfl <;> omega, fun l hl n hn => ?_⟩
    have hf := (fitB_iff l g.hor).1 (R.legs e he l hl)
    simp at hn; rcases hn with rfl | rfl | rfl | rfl <;> omega
  have e3 : rdP g0 1 true (sp 10 (gText g)) = .inl g := by
    rw [gText, List.append_assoc, rdP_line (by decide) (by decide) (fun n hn => by simp at hn; omega) _ _ ⟨g.hor, [], []⟩ 1 true (by decide) (by rw [put, if_pos rfl]; rfl), e1, List.nil_append, e2, List.nil_append]
    rw [sp, rdP, if_pos ⟨rfl, rfl⟩]
  have := right_len R
  rw [parse, if_neg (by omega), e3]
  simp only [if_pos h]

end Go.Proofs.YtjjhhmlogddnkaaDoor
