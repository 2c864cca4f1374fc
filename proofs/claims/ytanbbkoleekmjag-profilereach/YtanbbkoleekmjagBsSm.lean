/-
  Small maps: times from 0 to 100, values from 0 to a bound. What Keep, Merge and Put tell of such. Plain mathematics.
-/
import Derived.Test.YtanbbkoleekmjagBMath
import Derived.Test.YtanbbkoleekmjagPPick
namespace Go.Proofs.Ytanbbkoleekmjag
open Go.RowKit

def T100 : List Int := (List.range 101).map fun i : Nat => (i : Int)
theorem mem_T100 {x : Int} : x ∈ T100 ↔ 0 ≤ x ∧ x ≤ 100 := by
  unfold T100
  rw [List.mem_map]
  constructor
  · rintro ⟨i, hi, rfl⟩; rw [List.mem_range] at hi; omega
  · intro h; exact ⟨x.toNat, by rw [List.mem_range]; omega, by omega⟩
theorem T100_len : T100.length = 101 := by simp [T100]
structure Sm (B : Int) (m : List (Int × Int × Int)) : Prop where
  canon : MCan m
  time : ∀ q ∈ m, 0 ≤ q.1 ∧ q.2.1 ≤ 100
  vals : ∀ q ∈ m, 0 ≤ q.2.2 ∧ q.2.2 ≤ B
theorem sm_nil (B : Int) : Sm B [] := ⟨trivial, fun q hq => (by cases hq), fun q hq => (by cases hq)⟩
theorem Sm.mono {B B' : Int} {m : List (Int × Int × Int)} (h : Sm B m) (hB : B ≤ B') : Sm B' m := ⟨h.canon, h.time, fun q hq => by have := h.vals q hq; omega⟩
theorem Sm.of {B : Int} {m : List (Int × Int × Int)} (h : Sm B m) (hB : B ≤ 1000000) : MOf T100 m := by
  refine ⟨h.canon, fun q hq => ?_, fun q hq => ?_⟩
  · have h1 := h.time q hq
    have h2 := h.vals q hq
    have h3 := mcan_pos h.canon q hq
    unfold NearP nearB; omega
  · have h1 := h.time q hq
    have h3 := mcan_pos h.canon q hq
    exact ⟨mem_T100.2 (by omega), mem_T100.2 (by omega)⟩
theorem Sm.len {B : Int} {m : List (Int × Int × Int)} (h : Sm B m) (hB : B ≤ 1000000) : m.length ≤ 101 := by have := (h.of hB).len; rw [T100_len] at this; exact this
theorem Sm.chk {B : Int} {m : List (Int × Int × Int)} (h : Sm B m) (hB : B ≤ 1000000) : mchk m = 0 := (h.of hB).chk (by rw [T100_len]; omega)
theorem Sm.turns {B : Int} {m : List (Int × Int × Int)} (h : Sm B m) (hB : B ≤ 1000000) : ∀ x ∈ turnsOf m, 0 ≤ x ∧ x ≤ 100 := fun x hx => mem_T100.1 ((h.of hB).turns x hx)
theorem tel_start : ∀ {m : List (Int × Int × Int)}, MCan m → ∀ q ∈ m, tel m q.1 = some q.2.2
  | [], _, q, hq => by cases hq
  | p :: m, h, q, hq => by
    rcases List.mem_cons.1 hq with rfl | hq
    · exact tel_first (Int.le_refl _) h.1
    · rw [tel_later (mcan_low h q hq)]; exact tel_start h.2.2 q hq
theorem Sm.tel {B : Int} {m : List (Int × Int × Int)} (h : Sm B m) {t v : Int} (e : tel m t = some v) : (0 ≤ v ∧ v ≤ B) ∧ 0 ≤ t ∧ t < 100 := by
  obtain ⟨q, hq, h1, rfl⟩ := tel_mem e
  unfold inP at h1
  have := h.time q hq
  simp at h1
  exact ⟨h.vals q hq, by omega, by omega⟩
theorem sm_map {A : List Int} {f : Int → Option Int} {n B : Int} {r : List (Int × Int × Int)} (h : MapIs A f n r) (hf : ∀ S, (∀ x, x ∈ S ↔ x ∈ A) → MTurns S f) (hB : B ≤ 1000000) (hv : ∀ s v, f s = some v → 0 ≤ v ∧ v ≤ B) (hA : ∀ x ∈ A, 0 ≤ x ∧ x ≤ 100) : n = 0 ∧ Sm B r ∧ ∀ t, Go.Proofs.Ytanbbkoleekmjag.tel r t = f t := by
  obtain ⟨h1, h2, h3⟩ := mapIs_ok (T := T100) h hf (fun s v e => by have := hv s v e; unfold nearB; omega) (fun x hx => by have := hA x hx; unfold nearB; omega) (fun x hx => mem_T100.2 (hA x hx)) (by rw [T100_len]; omega)
  refine ⟨h1, ⟨h2.canon, fun q hq => ⟨(mem_T100.1 (h2.mem q hq).1).1, (mem_T100.1 (h2.mem q hq).2).2⟩, fun q hq => ?_⟩, h3⟩
  exact hv q.1 _ (by rw [← h3]; exact tel_start h2.canon q hq)
theorem sm_merge {a b r : List (Int × Int × Int)} {n B : Int} (ha : Sm B a) (hb : Sm B b) (hB : B ≤ 1000000) (h : MergeIs a b 1 n r) : n = 0 ∧ Sm B r ∧ ∀ t, tel r t = mrg 1 (tel a t) (tel b t) := by
  rcases h with ⟨e, _⟩ | ⟨_, e, _⟩ | ⟨_, _, e, _⟩ | ⟨_, _, _, h⟩
  · exact absurd (ha.chk hB) e
  · exact absurd (hb.chk hB) e
  · exact absurd (.inl rfl) e
  · refine sm_map h (fun S hS => mergeF_turns hS) hB (fun s v e => ?_) (fun x hx => ?_)
    · unfold mergeF at e
      cases e1 : tel a s with
      | none =>
        rw [e1] at e
        exact (hb.tel e).1
      | some x =>
        cases e2 : tel b s with
        | none => rw [e1, e2] at e; cases e; exact (ha.tel e1).1
        | some y =>
          rw [e1, e2] at e
          have := (ha.tel e1).1
          have := (hb.tel e2).1
          have : v = min x y := (Option.some.inj e).symm
          omega
    · rcases List.mem_append.1 hx with hx | hx
      · exact ha.turns hB x hx
      · exact hb.turns hB x hx
theorem sm_put {m r : List (Int × Int × Int)} {p : Int × Int × Int} {n B : Int} (hm : Sm B m) (h1 : 0 ≤ p.1 ∧ p.1 ≤ 100 ∧ 0 ≤ p.2.1 ∧ p.2.1 ≤ 100) (h2 : 0 ≤ p.2.2 ∧ p.2.2 ≤ B) (hB : B ≤ 1000000) (h : PutIs m p n r) : n = 0 ∧ Sm B r ∧ ∀ t, tel r t = putF m p t := by
  rcases h with ⟨e, _⟩ | ⟨_, e, _⟩ | ⟨_, _, h⟩
  · exact absurd (hm.chk hB) e
  · exact absurd (by unfold NearP nearB; omega) e
  · refine sm_map h (fun S hS => putF_turns hS) hB (fun s v e => ?_) (fun x hx => ?_)
    · unfold putF at e
      split at e
      · cases e; exact h2
      · exact (hm.tel e).1
    · rcases List.mem_append.1 hx with hx | hx
      · exact hm.turns hB x hx
      · simp at hx; omega
theorem sm_keep {m r : List (Int × Int × Int)} {f t n B : Int} (hm : Sm B m) (h1 : 0 ≤ f ∧ f < t ∧ t ≤ 100) (hB : B ≤ 1000000) (h : OnlyIs m [(f, t)] true n r) : n = 0 ∧ Sm B r ∧ ∀ s, tel r s = if f ≤ s ∧ s < t then tel m s else none := by
  have hc : chk [(f, t)] = 0 := chk_of_canon (by unfold Canon; simp [flat]; omega) (by intro x hx; simp [flat] at hx; unfold nearB; omega) (by simp)
  rcases h with ⟨e, _⟩ | ⟨_, e, _⟩ | ⟨_, _, h⟩
  · exact absurd (hm.chk hB) e
  · exact absurd hc e
  · obtain ⟨g1, g2, g3⟩ := sm_map h (fun S hS => onlyF_turns hS) hB (fun s v e => by unfold onlyF at e; split at e; exact (hm.tel e).1; cases e) (fun x hx => by
      rcases List.mem_append.1 hx with hx | hx
      · exact hm.turns hB x hx
      · simp [flat] at hx; omega)
    refine ⟨g1, g2, fun s => ?_⟩
    rw [g3 s]
    unfold onlyF
    by_cases hs : f ≤ s ∧ s < t
    · rw [if_pos hs, if_pos (by simp [has, hs])]
    · rw [if_neg hs, if_neg (by simp [has]; omega)]
/-- more, at all times -/
def addM (m : List (Int × Int × Int)) (k : Int) : List (Int × Int × Int) := m.map fun q => (q.1, q.2.1, q.2.2 + k)
theorem addM_mcan (k : Int) : ∀ {m : List (Int × Int × Int)}, MCan m → MCan (addM m k)
  | [], _ => trivial
  | p :: m, h => by
    refine ⟨h.1, fun q hq => ?_, addM_mcan k h.2.2⟩
    cases m with
    | nil => simp at hq
    | cons z m =>
      have e : q = (z.1, z.2.1, z.2.2 + k) := by simpa [eq_comm] using hq
      subst e
      have := h.2.1 z (by simp)
      unfold Fol at this ⊢
      simp at this ⊢
      omega
theorem addM_tel (k : Int) : ∀ (m : List (Int × Int × Int)) (t : Int), tel (addM m k) t = (tel m t).map (· + k)
  | [], t => rfl
  | p :: m, t => by
    show tel ((p.1, p.2.1, p.2.2 + k) :: addM m k) t = _
    rw [tel_cons, tel_cons, addM_tel k m t]
    have : inP (p.1, p.2.1, p.2.2 + k) t = inP p t := rfl
    rw [this]
    split <;> rfl
theorem sm_add {B k : Int} {m : List (Int × Int × Int)} (h : Sm B m) (hk : 0 ≤ k) : Sm (B + k) (addM m k) := by
  refine ⟨addM_mcan k h.canon, fun q hq => ?_, fun q hq => ?_⟩
  all_goals
    unfold addM at hq
    rw [List.mem_map] at hq
    obtain ⟨z, hz, rfl⟩ := hq
  · exact h.time z hz
  · have := h.vals z hz
    show 0 ≤ z.2.2 + k ∧ z.2.2 + k ≤ B + k
    omega

end Go.Proofs.Ytanbbkoleekmjag
