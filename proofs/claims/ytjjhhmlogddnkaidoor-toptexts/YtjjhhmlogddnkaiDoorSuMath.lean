/-
  Tables by vertex and time, told on along journeys until nothing gets less: plain mathematics, without any program.
-/
import Derived.Test.YtjjhhmlogddnkaiDoorPk1
import Derived.Test.YtjjhhmlogddnkaiDoorJnMath
namespace Go.Proofs.YtjjhhmlogddnkaiDoor

/-- from a vertex at a time to a vertex at a time, at a price -/
abbrev JA := Nat × Nat × Nat × Nat × Int
/-- a table: a row a vertex, a number a time -/
abbrev Tb := List (List Int)
def tat (T : Tb) (v t : Nat) : Int := (T.getD v []).getD t 0
def tset (T : Tb) (v t : Nat) (m : Int) : Tb := T.set v ((T.getD v []).set t m)
/-- a table has n rows of h numbers -/
structure Shp (n h : Nat) (T : Tb) : Prop where
  rows : T.length = n
  cols : ∀ v, v < n → (T.getD v []).length = h
theorem getD_set_row (T : Tb) (v v' : Nat) (r : List Int) (h : v < T.length) : (T.set v r).getD v' [] = if v' = v then r else T.getD v' [] := by
  simp only [List.getD_eq_getElem?_getD, List.getElem?_set]
  by_cases e : v = v'
  · subst e; simp [h]
  · have : ¬ v' = v := fun h => e h.symm
    simp [e, this]
theorem shp_set {n h : Nat} {T : Tb} (S : Shp n h T) {v : Nat} (hv : v < n) (t : Nat) (m : Int) : Shp n h (tset T v t m) := by
  refine ⟨by unfold tset; rw [List.length_set]; exact S.rows, fun v' hv' => ?_⟩
  unfold tset
  rw [getD_set_row _ _ _ _ (by rw [S.rows]; exact hv)]
  split
  · rw [List.length_set]; exact S.cols v hv
  · exact S.cols v' hv'
theorem tat_set {n h : Nat} {T : Tb} (S : Shp n h T) {v t : Nat} (hv : v < n) (ht : t < h) (m : Int) (v' t' : Nat) : tat (tset T v t m) v' t' = if v' = v ∧ t' = t then m else tat T v' t' := by
  unfold tat tset
  rw [getD_set_row _ _ _ _ (by rw [S.rows]; exact hv)]
  by_cases e : v' = v
  · subst e
    rw [if_pos rfl, getD_set _ _ _ _ (by rw [S.cols v' hv]; exact ht)]
    by_cases e2 : t' = t <;> simp [e2]
  · rw [if_neg e, if_neg (fun h => e h.1)]
def tsum (T : Tb) : Nat := (T.map msum).sum
theorem tsum_set_row : ∀ (T : Tb) (v : Nat) (r : List Int), v < T.length → msum r < msum (T.getD v []) → tsum (T.set v r) < tsum T
  | [], v, r, h, _ => by simp at h
  | a :: T, 0, r, _, h => by simp [tsum] at h ⊢; omega
  | a :: T, v + 1, r, hv, h => by
    have := tsum_set_row T v r (by simpa using hv) (by simpa using h)
    simp [tsum] at this ⊢; omega
theorem tsum_set {n h : Nat} {T : Tb} (S : Shp n h T) {v t : Nat} (hv : v < n) (ht : t < h) {m : Int} (h0 : 0 ≤ m) (hm : m < tat T v t) : tsum (tset T v t m) < tsum T :=
  tsum_set_row T v _ (by rw [S.rows]; exact hv) (msum_set _ t m h0 (by rw [S.cols v hv]; exact ht) hm)

/-- a way from place to place is fine -/
structure JOk (n h : Nat) (a : JA) : Prop where
  v : a.1 < n
  t : a.2.1 < h
  v' : a.2.2.1 < n
  t' : a.2.2.2.1 < h
  lt : a.2.1 < a.2.2.2.1
  p0 : 0 ≤ a.2.2.2.2
  p1 : a.2.2.2.2 ≤ 1000
def src (T : Tb) (a : JA) : Int := tat T a.1 a.2.1
def dst (T : Tb) (a : JA) : Int := tat T a.2.2.1 a.2.2.2.1
/-- numbers that no way makes less, none above what is told at first -/
structure JAdm (n h : Nat) (first : Nat → Nat → Int) (arcs : List JA) (y : Nat → Nat → Int) : Prop where
  le : ∀ v t, v < n → t < h → y v t ≤ first v t
  cl : ∀ a ∈ arcs, y a.2.2.1 a.2.2.2.1 ≤ y a.1 a.2.1 + a.2.2.2.2
structure JMid (n h : Nat) (first : Nat → Nat → Int) (arcs : List JA) (T : Tb) : Prop where
  shp : Shp n h T
  le : ∀ v t, v < n → t < h → tat T v t ≤ first v t
  most : ∀ y, JAdm n h first arcs y → ∀ v t, v < n → t < h → y v t ≤ tat T v t
structure JBest (n h : Nat) (first : Nat → Nat → Int) (arcs : List JA) (T : Tb) : Prop where
  mid : JMid n h first arcs T
  cl : ∀ a ∈ arcs, dst T a ≤ src T a + a.2.2.2.2
theorem jbest_le {n h : Nat} {first : Nat → Nat → Int} {arcs : List JA} {T T' : Tb} (B : JBest n h first arcs T) (M : JMid n h first arcs T') : ∀ v t, v < n → t < h → tat T v t ≤ tat T' v t :=
  M.most (tat T) ⟨B.mid.le, B.cl⟩
theorem shp_ext {n h : Nat} {T T' : Tb} (S : Shp n h T) (S' : Shp n h T') (e : ∀ v t, v < n → t < h → tat T v t = tat T' v t) : T = T' := by
  apply List.ext_getElem (by rw [S.rows, S'.rows])
  intro v h1 h2
  have hv : v < n := by rw [← S.rows]; exact h1
  have c1 := S.cols v hv
  have c2 := S'.cols v hv
  rw [List.getD_eq_getElem?_getD, List.getElem?_eq_getElem h1, Option.getD_some] at c1
  rw [List.getD_eq_getElem?_getD, List.getElem?_eq_getElem h2, Option.getD_some] at c2
  apply List.ext_getElem (by rw [c1, c2])
  intro t h3 h4
  have := e v t hv (by rw [← c1]; exact h3)
  unfold tat at this
  simp only [List.getD_eq_getElem?_getD, List.getElem?_eq_getElem h1, List.getElem?_eq_getElem h2, Option.getD_some, List.getElem?_eq_getElem h3, List.getElem?_eq_getElem h4] at this
  exact this
theorem jbest_unique {n h : Nat} {first : Nat → Nat → Int} {arcs : List JA} {T T' : Tb} (B : JBest n h first arcs T) (B' : JBest n h first arcs T') : T = T' :=
  shp_ext B.mid.shp B'.mid.shp fun v t hv ht => Int.le_antisymm (jbest_le B B'.mid v t hv ht) (jbest_le B' B.mid v t hv ht)
theorem JMid.lo {n h : Nat} {first : Nat → Nat → Int} {arcs : List JA} {T : Tb} (M : JMid n h first arcs T) (hf : ∀ v t, v < n → t < h → 0 ≤ first v t) (ha : ∀ a ∈ arcs, JOk n h a) (v t : Nat) (hv : v < n) (ht : t < h) : 0 ≤ tat T v t :=
  M.most (fun _ _ => 0) ⟨hf, fun a hm => by have := (ha a hm).p0; show (0 : Int) ≤ 0 + _; omega⟩ v t hv ht

/-- a number told to a place: it stands there if it is less -/
def putT (T : Tb) (v t : Nat) (m : Int) : Tb := if m < tat T v t then tset T v t m else T
theorem shp_put {n h : Nat} {T : Tb} (S : Shp n h T) {v : Nat} (hv : v < n) (t : Nat) (m : Int) : Shp n h (putT T v t m) := by unfold putT; split; exact shp_set S hv t m; exact S
theorem tat_put {n h : Nat} {T : Tb} (S : Shp n h T) {v t : Nat} (hv : v < n) (ht : t < h) (m : Int) (v' t' : Nat) : tat (putT T v t m) v' t' = if v' = v ∧ t' = t then min m (tat T v t) else tat T v' t' := by
  unfold putT
  split
  · rename_i hm
    rw [tat_set S hv ht]
    by_cases e : v' = v ∧ t' = t
    · rw [if_pos e, if_pos e]; omega
    · rw [if_neg e, if_neg e]
  · rename_i hm
    by_cases e : v' = v ∧ t' = t
    · obtain ⟨rfl, rfl⟩ := e; simp; omega
    · rw [if_neg e]

/-- a round: x at its begin, z behind the ways of 'done'; ch: has something turned? -/
structure Tn (n h : Nat) (first : Nat → Nat → Int) (arcs : List JA) (x z : Tb) (ch : Bool) (done : List JA) : Prop where
  mid : JMid n h first arcs z
  same : ch = false → z = x ∧ ∀ a ∈ done, dst x a ≤ src x a + a.2.2.2.2
  less : ch = true → tsum z < tsum x
theorem tn_start {n h : Nat} {first : Nat → Nat → Int} {arcs : List JA} {x : Tb} (M : JMid n h first arcs x) : Tn n h first arcs x x false [] := ⟨M, fun _ => ⟨rfl, fun a ha => by simp at ha⟩, fun h => by simp at h⟩
theorem Tn.sum {n h : Nat} {first : Nat → Nat → Int} {arcs : List JA} {x z : Tb} {ch : Bool} {done : List JA} (T : Tn n h first arcs x z ch done) : tsum z ≤ tsum x := by
  cases ch with
  | true => exact Nat.le_of_lt (T.less rfl)
  | false => rw [(T.same rfl).1]; exact Nat.le_refl _
theorem tn_nil {n h : Nat} {first : Nat → Nat → Int} {arcs : List JA} {x z : Tb} {ch : Bool} {done : List JA} (T : Tn n h first arcs x z ch done) : Tn n h first arcs x z ch (done ++ []) := by rw [List.append_nil]; exact T
theorem tn_inf {n h : Nat} {first : Nat → Nat → Int} {arcs : List JA} {x z : Tb} {ch : Bool} {done : List JA} {a : JA} (T : Tn n h first arcs x z ch done) (ok : JOk n h a) (hf : ∀ v t, v < n → t < h → first v t ≤ 1099511627776) (hi : src z a = 1099511627776) : Tn n h first arcs x z ch (done ++ [a]) := by
  refine ⟨T.mid, fun hc => ⟨(T.same hc).1, fun b hb => ?_⟩, T.less⟩
  rw [List.mem_append, List.mem_singleton] at hb
  rcases hb with hb | rfl
  · exact (T.same hc).2 b hb
  · have e := (T.same hc).1
    rw [← e, hi]
    have h1 := T.mid.le b.2.2.1 b.2.2.2.1 ok.v' ok.t'
    have h2 := hf b.2.2.1 b.2.2.2.1 ok.v' ok.t'
    have h3 := ok.p0
    unfold dst; omega
theorem tn_put {n h : Nat} {first : Nat → Nat → Int} {arcs : List JA} {x z : Tb} {ch : Bool} {done : List JA} {a : JA} (T : Tn n h first arcs x z ch done) (hm : a ∈ arcs) (hok : ∀ a ∈ arcs, JOk n h a) (hf0 : ∀ v t, v < n → t < h → 0 ≤ first v t) :
    Tn n h first arcs x (putT z a.2.2.1 a.2.2.2.1 (src z a + a.2.2.2.2)) (ch || decide (src z a + a.2.2.2.2 < dst z a)) (done ++ [a]) := by
  have ok := hok a hm
  have hs := T.sum
  have h0 : 0 ≤ src z a := T.mid.lo hf0 hok a.1 a.2.1 ok.v ok.t
  have hp := ok.p0
  by_cases hlt : src z a + a.2.2.2.2 < dst z a
  · rw [show decide (src z a + a.2.2.2.2 < dst z a) = true from by simpa using hlt, Bool.or_true]
    have e : putT z a.2.2.1 a.2.2.2.1 (src z a + a.2.2.2.2) = tset z a.2.2.1 a.2.2.2.1 (src z a + a.2.2.2.2) := by unfold putT; exact if_pos hlt
    rw [e]
    refine ⟨⟨shp_set T.mid.shp ok.v' _ _, fun v t hv ht => ?_, fun y hy v t hv ht => ?_⟩, fun h => by simp at h, fun _ => Nat.lt_of_lt_of_le (tsum_set T.mid.shp ok.v' ok.t' (by omega) hlt) hs⟩
    · rw [tat_set T.mid.shp ok.v' ok.t']
      split
      · rename_i hv'
        have := T.mid.le v t hv ht
        rw [hv'.1, hv'.2] at this ⊢
        unfold dst at hlt; omega
      · exact T.mid.le v t hv ht
    · rw [tat_set T.mid.shp ok.v' ok.t']
      split
      · rename_i hv'
        have h1 := hy.cl a hm
        have h2 := T.mid.most y hy a.1 a.2.1 ok.v ok.t
        rw [hv'.1, hv'.2]
        unfold src; omega
      · exact T.mid.most y hy v t hv ht
  · rw [show decide (src z a + a.2.2.2.2 < dst z a) = false from by simpa using hlt, Bool.or_false]
    have e : putT z a.2.2.1 a.2.2.2.1 (src z a + a.2.2.2.2) = z := by unfold putT; exact if_neg hlt
    rw [e]
    refine ⟨T.mid, fun hc => ⟨(T.same hc).1, fun b hb => ?_⟩, T.less⟩
    rw [List.mem_append, List.mem_singleton] at hb
    rcases hb with hb | rfl
    · exact (T.same hc).2 b hb
    · rw [← (T.same hc).1]; omega
theorem tn_end {n h : Nat} {first : Nat → Nat → Int} {arcs : List JA} {x z : Tb} (T : Tn n h first arcs x z false arcs) : JBest n h first arcs z := by
  obtain ⟨e, hc⟩ := T.same rfl
  exact ⟨T.mid, by rw [e]; exact hc⟩

/-- what stands in a table: nothing, or a number that grows with time at most -/
def Tm (n h : Nat) (T : Tb) : Prop := ∀ v t, v < n → t < h → tat T v t = 1099511627776 ∨ (0 ≤ tat T v t ∧ tat T v t ≤ 1000 * (t : Int))
/-- two tables tell of the same places -/
def Pr (n h : Nat) (X Y : Tb) : Prop := ∀ v t, v < n → t < h → (tat X v t = 1099511627776 ↔ tat Y v t = 1099511627776)
theorem tm_put {n h : Nat} {T : Tb} {a : JA} (S : Shp n h T) (hT : Tm n h T) (ok : JOk n h a) (hh : h ≤ 100) (hs : src T a ≠ 1099511627776) : Tm n h (putT T a.2.2.1 a.2.2.2.1 (src T a + a.2.2.2.2)) ∧ tat (putT T a.2.2.1 a.2.2.2.1 (src T a + a.2.2.2.2)) a.2.2.1 a.2.2.2.1 ≠ 1099511627776 := by
  have h1 := ok.lt
  have h2 := ok.p0
  have h3 := ok.p1
  have h4 := ok.t'
  have h5 : 0 ≤ src T a ∧ src T a ≤ 1000 * (a.2.1 : Int) := by rcases hT a.1 a.2.1 ok.v ok.t with e | e; exact absurd e hs; exact e
  refine ⟨fun v t hv ht => ?_, ?_⟩
  · rw [tat_put S ok.v' ok.t']
    split
    · rename_i e
      rw [e.2]
      rcases hT a.2.2.1 a.2.2.2.1 ok.v' ok.t' with k | k
      · right; omega
      · right; omega
    · exact hT v t hv ht
  · rw [tat_put S ok.v' ok.t', if_pos ⟨rfl, rfl⟩]
    omega
theorem pr_put {n h : Nat} {X Y : Tb} {a b : JA} (SX : Shp n h X) (SY : Shp n h Y) (hX : Tm n h X) (hY : Tm n h Y) (hP : Pr n h X Y) (oka : JOk n h a) (okb : JOk n h b) (hh : h ≤ 100) (e : b.1 = a.1 ∧ b.2.1 = a.2.1 ∧ b.2.2.1 = a.2.2.1 ∧ b.2.2.2.1 = a.2.2.2.1) (hs : src X a ≠ 1099511627776) :
    Pr n h (putT X a.2.2.1 a.2.2.2.1 (src X a + a.2.2.2.2)) (putT Y b.2.2.1 b.2.2.2.1 (src Y b + b.2.2.2.2)) := by
  have hsb : src Y b ≠ 1099511627776 := by
    unfold src at hs ⊢
    rw [e.1, e.2.1]
    exact fun h => hs ((hP a.1 a.2.1 oka.v oka.t).2 h)
  intro v t hv ht
  have k1 := (tm_put SX hX oka hh hs).2
  have k2 := (tm_put SY hY okb hh hsb).2
  by_cases q : v = a.2.2.1 ∧ t = a.2.2.2.1
  · obtain ⟨rfl, rfl⟩ := q
    rw [e.2.2.1, e.2.2.2] at k2 ⊢
    exact ⟨fun h => absurd h k1, fun h => absurd h k2⟩
  · rw [tat_put SX oka.v' oka.t', tat_put SY okb.v' okb.t', if_neg q, if_neg (by rw [e.2.2.1, e.2.2.2]; exact q)]
    exact hP v t hv ht

/-- waiting, of the first k vertices at a time -/
def waitA (g : Gr) (t : Nat) : Nat → List JA
  | 0 => []
  | k + 1 => waitA g t k ++ if ((t : Int) + 1 < g.hor) ∧ aliveB ((t : Int) + 1) g.lives (k : Int) = true then [(k, t, k, t + 1, 0)] else []
/-- going along the first i edges at a time; pr: the price of a cost -/
def legA (g : Gr) (pr : Int → Int) (t : Nat) : Nat → List JA
  | 0 => []
  | i + 1 => legA g pr t i ++
    match lands g (g.edges.getD i (0, 0, [])) (t : Int) with
    | none => []
    | some q => [((g.edges.getD i (0, 0, [])).1.toNat, t, (g.edges.getD i (0, 0, [])).2.1.toNat, q.1.toNat, pr q.2)]
/-- all ways of the first k times -/
def allA (g : Gr) (pr : Int → Int) : Nat → List JA
  | 0 => []
  | k + 1 => allA g pr k ++ (waitA g k g.lives.length ++ legA g pr k g.edges.length)
theorem waitA_ok {g : Gr} (R : Right g) {t : Nat} (ht : (t : Int) < g.hor) : ∀ k, k ≤ g.lives.length → ∀ a ∈ waitA g t k, JOk g.lives.length g.hor.toNat a
  | 0, _, a, ha => by simp [waitA] at ha
  | k + 1, hk, a, ha => by
    rw [waitA, List.mem_append] at ha
    rcases ha with ha | ha
    · exact waitA_ok R ht k (by omega) a ha
    · split at ha
      · rename_i h
        simp only [List.mem_singleton] at ha
        subst ha
        exact ⟨by show k < _; omega, by show t < _; omega, by show k < _; omega, by show t + 1 < _; omega, by show t < t + 1; omega, by show (0 : Int) ≤ 0; omega, by show (0 : Int) ≤ 1000; omega⟩
      · simp at ha
theorem legA_ok {g : Gr} (R : Right g) {pr : Int → Int} (hpr : ∀ c, 0 ≤ c → c ≤ 1000 → 0 ≤ pr c ∧ pr c ≤ 1000) {t : Nat} (ht : (t : Int) < g.hor) : ∀ i, i ≤ g.edges.length → ∀ a ∈ legA g pr t i, JOk g.lives.length g.hor.toNat a
  | 0, _, a, ha => by simp [legA] at ha
  | i + 1, hi, a, ha => by
    rw [legA, List.mem_append] at ha
    rcases ha with ha | ha
    · exact legA_ok R hpr ht i (by omega) a ha
    · have hg : g.edges.getD i (0, 0, []) = g.edges[i] := by simp [List.getD_eq_getElem?_getD, List.getElem?_eq_getElem (show i < g.edges.length by omega)]
      rw [hg] at ha
      have hem : g.edges[i] ∈ g.edges := List.getElem_mem _
      split at ha
      · simp at ha
      · rename_i q hq
        simp only [List.mem_singleton] at ha
        subst ha
        obtain ⟨l, hl, _, _, h3, h4, _, h6, _⟩ := lands_spec (tq := q.1) (c := q.2) hq
        have hfit := (fitB_iff _ _).1 (R.legs _ hem l hl)
        have hend := R.ends _ hem
        have hc := hpr q.2 (by omega) (by omega)
        exact ⟨by show g.edges[i].1.toNat < _; omega, by show t < _; omega, by show g.edges[i].2.1.toNat < _; omega, by show q.1.toNat < _; omega, by show t < q.1.toNat; omega, hc.1, hc.2⟩
theorem allA_ok {g : Gr} (R : Right g) {pr : Int → Int} (hpr : ∀ c, 0 ≤ c → c ≤ 1000 → 0 ≤ pr c ∧ pr c ≤ 1000) : ∀ k : Nat, (k : Int) ≤ g.hor → ∀ a ∈ allA g pr k, JOk g.lives.length g.hor.toNat a
  | 0, _, a, ha => by simp [allA] at ha
  | k + 1, hk, a, ha => by
    rw [allA, List.mem_append, List.mem_append] at ha
    rcases ha with ha | ha | ha
    · exact allA_ok R hpr k (by omega) a ha
    · exact waitA_ok R (by omega) _ (Nat.le_refl _) a ha
    · exact legA_ok R hpr (by omega) _ (Nat.le_refl _) a ha
theorem waitA_sub {g : Gr} {t k : Nat} : ∀ {m : Nat}, k ≤ m → ∀ a ∈ waitA g t k, a ∈ waitA g t m
  | 0, h, a, ha => by have : k = 0 := by omega
                      subst this; exact ha
  | m + 1, h, a, ha => by
    by_cases e : k = m + 1
    · subst e; exact ha
    · rw [waitA, List.mem_append]; exact .inl (waitA_sub (by omega) a ha)
theorem legA_sub {g : Gr} {pr : Int → Int} {t i : Nat} : ∀ {m : Nat}, i ≤ m → ∀ a ∈ legA g pr t i, a ∈ legA g pr t m
  | 0, h, a, ha => by have : i = 0 := by omega
                      subst this; exact ha
  | m + 1, h, a, ha => by
    by_cases e : i = m + 1
    · subst e; exact ha
    · rw [legA, List.mem_append]; exact .inl (legA_sub (by omega) a ha)
theorem allA_sub {g : Gr} {pr : Int → Int} {k : Nat} : ∀ {m : Nat}, k ≤ m → ∀ a ∈ allA g pr k, a ∈ allA g pr m
  | 0, h, a, ha => by have : k = 0 := by omega
                      subst this; exact ha
  | m + 1, h, a, ha => by
    by_cases e : k = m + 1
    · subst e; exact ha
    · rw [allA, List.mem_append]; exact .inl (allA_sub (by omega) a ha)

/-- what is told at first -/
def firstT (g : Gr) (v t : Int) (v' t' : Nat) : Int := if aliveB t g.lives v = true ∧ (v' : Int) = v ∧ (t' : Int) = t then 0 else 1099511627776
theorem firstT_lo (g : Gr) (v t : Int) (v' t' : Nat) : 0 ≤ firstT g v t v' t' := by unfold firstT; split <;> omega
theorem firstT_hi (g : Gr) (v t : Int) (v' t' : Nat) : firstT g v t v' t' ≤ 1099511627776 := by unfold firstT; split <;> omega
/-- what Sums tells -/
structure SumIs (g : Gr) (v t : Int) (X Y : Tb) : Prop where
  costs : JBest g.lives.length g.hor.toNat (firstT g v t) (allA g id g.hor.toNat) X
  hops : JBest g.lives.length g.hor.toNat (firstT g v t) (allA g (fun _ => 1) g.hor.toNat) Y
  tmX : Tm g.lives.length g.hor.toNat X
  tmY : Tm g.lives.length g.hor.toNat Y
  pr : Pr g.lives.length g.hor.toNat X Y

end Go.Proofs.YtjjhhmlogddnkaiDoor
