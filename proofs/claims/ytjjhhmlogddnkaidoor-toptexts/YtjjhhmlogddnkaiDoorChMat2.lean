/-
  The fastest, and ways back from where one came: plain mathematics, without any program.
-/
import Derived.Test.YtjjhhmlogddnkaiDoorChMath
namespace Go.Proofs.YtjjhhmlogddnkaiDoor

/-- who sets out from v at a time has that time, below nought -/
def FF (g : Gr) (v : Int) : Int → Int → Option Int := fun x t => if x = v ∧ aliveB t g.lives v = true then some (-t) else none
theorem FF_ok {g : Gr} (R : Right g) {v : Int} (h0 : 0 ≤ v) : FOk g (FF g v) 0 := fun x t p h => by
  unfold FF at h
  split at h
  · rename_i e; obtain ⟨rfl, e⟩ := e; exact ⟨h0, e, (alive_hor R e).2.1⟩
  · cases h
theorem pd_rch {g : Gr} (R : Right g) {v x t p : Int} (h : Pd g (FF g v) (fun _ => 0) x t p) : Rch g v (-p) x t := by
  induction h with
  | @base x t p h =>
    unfold FF at h
    split at h
    · rename_i e; obtain ⟨rfl, e⟩ := e; cases h; rw [Int.neg_neg]; exact .base e
    · cases h
  | wait _ ha ih => exact .wait ih ha
  | ride hr _ ih => rw [Int.add_zero]; exact (mem_rides R hr).go ih
theorem rch_pd {g : Gr} (R : Right g) {v s x t : Int} (h0 : 0 ≤ v) (h : Rch g v s x t) : Pd g (FF g v) (fun _ => 0) x t (-s) := by
  induction h with
  | base ha => exact .base (by unfold FF; rw [if_pos ⟨rfl, ha⟩])
  | wait _ ha ih => exact .wait ih ha
  | @ride t q i hi h hq ih =>
    have := Pd.ride (pr := fun _ => 0) (ride_mem R hi (h.place R h0).2.2.1 hq) ih
    rw [Int.add_zero] at this
    exact this
theorem ff_range {g : Gr} (R : Right g) {v x t p : Int} (h : Pd g (FF g v) (fun _ => 0) x t p) : -100 ≤ p ∧ p ≤ 0 ∧ 0 ≤ t + p := by
  have h1 := pd_rch R h
  have h2 := alive_hor R h1.src
  have h3 := R.hor
  have h4 := h1.le R
  omega
/-- what Fastest tells of vertices: the least time, and the first at which one sets out for it -/
def FastIs (g : Gr) (v q d a e : Int) : Prop := (e = 4 ∧ d = 0 ∧ a = 0 ∧ ∀ s t, ¬ Rch g v s q t) ∨ (e = 0 ∧ Rch g v a q (a + d) ∧ (∀ s t, Rch g v s q t → d ≤ t - s) ∧ ∀ s, Rch g v s q (s + d) → a ≤ s)
theorem fast_unique {g : Gr} {v q d a e d' a' e' : Int} (h : FastIs g v q d a e) (h' : FastIs g v q d' a' e') : d = d' ∧ a = a' ∧ e = e' := by
  rcases h with ⟨h1, h2, h3, h4⟩ | ⟨h1, h2, h3, h4⟩ <;> rcases h' with ⟨k1, k2, k3, k4⟩ | ⟨k1, k2, k3, k4⟩
  · omega
  · exact absurd k2 (h4 _ _)
  · exact absurd h2 (k4 _ _)
  · have e1 := h3 _ _ k2
    have e2 := k3 _ _ h2
    have e3 : d = d' := by omega
    subst e3
    have e4 := h4 _ k2
    have e5 := k4 _ h2
    omega
/-- the best of the first k times -/
def fsF (M : Mp) (q : Int) : Nat → Int × Int
  | 0 => (1099511627776, 0)
  | k + 1 => match M q (k : Int) with
    | none => fsF M q k
    | some z => if (k : Int) + z.1 < (fsF M q k).1 then ((k : Int) + z.1, -z.1) else fsF M q k
theorem fsF_spec {M : Mp} {q : Int} (hz : ∀ t z, M q t = some z → t + z.1 < 1099511627776) : ∀ k : Nat, ((fsF M q k).1 = 1099511627776 ∧ ∀ t : Nat, t < k → M q (t : Int) = none) ∨ ∃ (t : Nat) (z : Vs), t < k ∧ M q (t : Int) = some z ∧ fsF M q k = ((t : Int) + z.1, -z.1) ∧ ∀ (t' : Nat) (z' : Vs), t' < k → M q (t' : Int) = some z' → (t : Int) + z.1 ≤ (t' : Int) + z'.1 ∧ ((t : Int) + z.1 = (t' : Int) + z'.1 → t ≤ t')
  | 0 => .inl ⟨rfl, fun t h => by omega⟩
  | k + 1 => by
    have ih := fsF_spec hz k
    rw [fsF]
    cases hk : M q (k : Int) with
    | none =>
      simp only
      rcases ih with ⟨h1, h2⟩ | ⟨t, z, h1, h2, h3, h4⟩
      · refine .inl ⟨h1, fun t ht => ?_⟩
        by_cases e : t = k
        · subst e; exact hk
        · exact h2 t (by omega)
      · refine .inr ⟨t, z, by omega, h2, h3, fun t' z' ht' hz' => ?_⟩
        by_cases e : t' = k
        · subst e; rw [hk] at hz'; cases hz'
        · exact h4 t' z' (by omega) hz'
    | some y =>
      simp only
      have hy := hz _ _ hk
      rcases ih with ⟨h1, h2⟩ | ⟨t, z, h1, h2, h3, h4⟩
      · rw [if_pos (by omega)]
        refine .inr ⟨k, y, by omega, hk, rfl, fun t' z' ht' hz' => ?_⟩
        by_cases e : t' = k
        · subst e; rw [hk] at hz'; cases hz'; exact ⟨Int.le_refl _, fun _ => Nat.le_refl _⟩
        · rw [h2 t' (by omega)] at hz'; cases hz'
      · rw [h3]
        simp only
        split
        · rename_i hlt
          refine .inr ⟨k, y, by omega, hk, rfl, fun t' z' ht' hz' => ?_⟩
          by_cases e : t' = k
          · subst e; rw [hk] at hz'; cases hz'; exact ⟨Int.le_refl _, fun _ => Nat.le_refl _⟩
          · have := (h4 t' z' (by omega) hz').1
            exact ⟨by omega, fun _ => by omega⟩
        · rename_i hlt
          refine .inr ⟨t, z, by omega, h2, rfl, fun t' z' ht' hz' => ?_⟩
          by_cases e : t' = k
          · subst e; rw [hk] at hz'; cases hz'; exact ⟨by omega, fun _ => by omega⟩
          · exact h4 t' z' (by omega) hz'
theorem fast_of {g : Gr} (R : Right g) {v q : Int} (h0 : 0 ≤ v) {M : Mp} (S : SpE g (FF g v) (fun _ => 0) M) :
    ((fsF M q g.hor.toNat).1 = 1099511627776 → FastIs g v q 0 0 4) ∧ ((fsF M q g.hor.toNat).1 ≠ 1099511627776 → FastIs g v q (fsF M q g.hor.toNat).1 (fsF M q g.hor.toNat).2 0) := by
  have hh := R.hor
  have hz : ∀ t z, M q t = some z → t + z.1 < 1099511627776 := fun t z h => by
    have h1 := S.snd _ _ _ h
    have h2 := ff_range R h1
    have h3 := h1.place R (FF_ok R h0)
    omega
  have hin : ∀ s t, Rch g v s q t → ∃ z, M q ((t.toNat : Nat) : Int) = some z ∧ z.1 ≤ -s ∧ t.toNat < g.hor.toNat ∧ ((t.toNat : Nat) : Int) = t := fun s t h => by
    obtain ⟨z, hz, hzs⟩ := S.all _ _ _ (rch_pd R h0 h)
    have hp := h.place R h0
    have e : ((t.toNat : Nat) : Int) = t := by omega
    exact ⟨z, by rw [e]; exact hz, hzs, by omega, e⟩
  rcases fsF_spec hz g.hor.toNat with ⟨h1, h2⟩ | ⟨t, z, h1, h2, h3, h4⟩
  · refine ⟨fun _ => .inl ⟨rfl, rfl, rfl, fun s t h => ?_⟩, fun h => absurd h1 h⟩
    obtain ⟨z, k1, _, k3, _⟩ := hin s t h
    rw [h2 _ k3] at k1; cases k1
  · have hzt := hz _ _ h2
    rw [h3]
    refine ⟨fun h => by simp only at h; omega, fun _ => .inr ⟨rfl, ?_, fun s t' h => ?_, fun s h => ?_⟩⟩
    · have := pd_rch R (S.snd _ _ _ h2)
      simp only
      rw [show -z.1 + ((t : Int) + z.1) = (t : Int) by omega]
      exact this
    · obtain ⟨z', k1, k2, k3, k4⟩ := hin s t' h
      have := (h4 _ z' k3 k1).1
      simp only; omega
    · simp only at h ⊢
      obtain ⟨z', k1, k2, k3, k4⟩ := hin s _ h
      have := h4 _ z' k3 k1
      omega

/-- hops that lead from x, wherever one was there ahead of y, to q, for K -/
def Leads (g : Gr) (x y q K : Int) (l : List Hp) : Prop := ∀ y1 c, y1 ≤ y → ∃ τ, goF g (some (x, y1, c)) l = some (q, τ, c + K)
theorem leads_nil (g : Gr) (x y : Int) : Leads g x y x 0 [] := fun y1 c _ => ⟨y1, by rw [goF_nil, Int.add_zero]⟩
theorem Leads.cons {g : Gr} {x y q K : Int} {l : List Hp} (h : Leads g x y q K l) {r : Ri} (hr : RideOk g r) (hv : r.2.2.2.1 = x) (ha : r.2.2.2.2.1 ≤ y) : Leads g r.2.2.1 r.2.1 q (K + r.2.2.2.2.2) ((r.1, r.2.1) :: l) := fun y1 c hy => by
  obtain ⟨τ, h1⟩ := h r.2.2.2.2.1 (c + r.2.2.2.2.2) ha
  refine ⟨τ, ?_⟩
  rw [goF_cons, Option.bind_some, hr.hop hy, hv, h1]
  congr 3
  omega
/-- what Way of the cheapest tells -/
def CWayIs (g : Gr) (v t q e : Int) (l : List Hp) : Prop :=
  (placeE g v t ≠ 0 ∧ e = placeE g v t ∧ l = []) ∨
  (placeE g v t = 0 ∧ (¬ (0 ≤ q ∧ q < g.lives.length) ∨ ∀ τ p, ¬ Pay g (fun r => r.2.2.2.2.2) v t q τ p) ∧ e = 4 ∧ l = []) ∨
  (placeE g v t = 0 ∧ (0 ≤ q ∧ q < g.lives.length) ∧ e = 0 ∧ l.length ≤ 100 ∧ ∃ τ P, aliveB t g.lives v = true ∧ goF g (some (v, t, 0)) l = some (q, τ, P) ∧ (∃ τ', Pay g (fun r => r.2.2.2.2.2) v t q τ' P) ∧ ∀ τ' p, Pay g (fun r => r.2.2.2.2.2) v t q τ' p → P ≤ p)
/-- at the vertex where one began nothing is paid -/
theorem own_zero {g : Gr} (R : Right g) {pr : Ri → Int} (hpr : PrOk g pr) {v t : Int} (h0 : 0 ≤ v) (ha : aliveB t g.lives v = true) {M : Mp} (S : SpE g (F1 v t) pr M) {y : Int} {z : Vs} (hz : M v y = some z) : z.1 = 0 ∧ t ≤ y := by
  have h1 := S.snd _ _ _ hz
  have h2 := h1.range R hpr h0 ha
  have h3 := h1.place R (F1_ok h0 ha)
  have h4 : Pd g (F1 v t) pr v t 0 := .base (by unfold F1; rw [if_pos ⟨rfl, rfl⟩])
  obtain ⟨z', k1, k2⟩ := S.all _ _ _ (h4.waits R (F1_ok h0 ha) h3.2.2.2.2.2 h3.2.2.1)
  rw [hz] at k1
  cases k1
  omega

end Go.Proofs.YtjjhhmlogddnkaiDoor
