/-
  The cheapest, the fewest, the fastest: what it takes to be in a state (a vertex at a time), states told on from time to time along waiting and rides, and ways back from where one came: plain mathematics, without any program.
-/
import Derived.Test.YtjjhhmlogddnkaiDoorErOut
namespace Go.Proofs.YtjjhhmlogddnkaiDoor

/-- one can be at v at t for p, from what is told at first (F), each ride at its price (pr) -/
inductive Pd (g : Gr) (F : Int → Int → Option Int) (pr : Ri → Int) : Int → Int → Int → Prop
  | base {v t p : Int} : F v t = some p → Pd g F pr v t p
  | wait {v t p : Int} : Pd g F pr v t p → aliveB (t + 1) g.lives v = true → Pd g F pr v (t + 1) p
  | ride {p : Int} {r : Ri} : r ∈ ridesF g → Pd g F pr r.2.2.1 r.2.1 p → Pd g F pr r.2.2.2.1 r.2.2.2.2.1 (p + pr r)
/-- what is told at first is told of places that are there, from s0 on -/
def FOk (g : Gr) (F : Int → Int → Option Int) (s0 : Int) : Prop := ∀ v t p, F v t = some p → 0 ≤ v ∧ aliveB t g.lives v = true ∧ s0 ≤ t
theorem Pd.place {g : Gr} (R : Right g) {F : Int → Int → Option Int} {s0 : Int} (hF : FOk g F s0) {pr : Ri → Int} {v t p : Int} (h : Pd g F pr v t p) : 0 ≤ v ∧ v < g.lives.length ∧ aliveB t g.lives v = true ∧ 0 ≤ t ∧ t < g.hor ∧ s0 ≤ t := by
  have key : 0 ≤ v ∧ aliveB t g.lives v = true ∧ s0 ≤ t := by
    induction h with
    | base h => exact hF _ _ _ h
    | wait _ h ih => exact ⟨ih.1, h, by omega⟩
    | ride hr _ ih => have := mem_rides R hr; have h1 := this.lt; exact ⟨this.b0.1, this.alB, by omega⟩
  have := alive_hor R key.2.1
  exact ⟨key.1, by omega, key.2.1, this.2.1, this.2.2, key.2.2⟩

/-- a state's price, and the ride by which one came -/
abbrev Vs := Int × Ri
abbrev Mp := Int → Int → Option Vs
def mset (M : Mp) (v t : Int) (x : Vs) : Mp := fun a b => if a = v ∧ b = t then some x else M a b
theorem mset_same (M : Mp) (v t : Int) (x : Vs) : mset M v t x v t = some x := by unfold mset; rw [if_pos ⟨rfl, rfl⟩]
theorem mset_other (M : Mp) {v t a b : Int} (x : Vs) (h : ¬ (a = v ∧ b = t)) : mset M v t x a b = M a b := by unfold mset; rw [if_neg h]
/-- does a new price stand, where old ones are? -/
def lessB (o : Option Vs) (p : Int) : Bool := match o with | none => true | some x => decide (p < x.1)
def leqB (o : Option Vs) (p : Int) : Bool := match o with | none => true | some x => decide (p ≤ x.1)
/-- going along a ride -/
def takeM (M : Mp) (r : Ri) (p : Int) : Mp :=
  match M r.2.2.1 r.2.1 with
  | none => M
  | some h => if lessB (M r.2.2.2.1 r.2.2.2.2.1) (h.1 + p) = true then mset M r.2.2.2.1 r.2.2.2.2.1 (h.1 + p, r) else M
/-- waiting at a vertex -/
def waitV (g : Gr) (now : Int) (M : Mp) (v : Int) : Mp :=
  match M v (now - 1) with
  | none => M
  | some x => if aliveB now g.lives v = true then (if leqB (M v now) x.1 = true then mset M v now x else M) else M
def waitM (g : Gr) (now : Int) (M : Mp) : Nat → Mp
  | 0 => M
  | k + 1 => waitV g now (waitM g now M k) (k : Int)

/-- the states behind some rounds: now the time, k vertices waited at, i rides taken; all that is taken left at dp or ahead of it -/
structure SpI (g : Gr) (F : Int → Int → Option Int) (pr : Ri → Int) (s0 now dp : Int) (k i : Nat) (M : Mp) : Prop where
  snd : ∀ v t x, M v t = some x → Pd g F pr v t x.1
  fst : ∀ v t p, F v t = some p → ∃ x, M v t = some x ∧ x.1 ≤ p
  wt : ∀ (v t : Int) (x : Vs), (t + 1 < now ∨ (t + 1 = now ∧ v < (k : Int))) → M v t = some x → aliveB (t + 1) g.lives v = true → ∃ y, M v (t + 1) = some y ∧ y.1 ≤ x.1
  rd : ∀ r ∈ (ridesF g).take i, ∀ x, M r.2.2.1 r.2.1 = some x → ∃ y, M r.2.2.2.1 r.2.2.2.2.1 = some y ∧ y.1 ≤ x.1 + pr r
  done : ∀ r ∈ (ridesF g).take i, r.2.1 ≤ dp
  ahead : ∀ r ∈ (ridesF g).drop i, now ≤ r.2.1 ∨ r.2.1 < s0
  way : ∀ v t x, M v t = some x → (∃ t0, F v t0 = some x.1 ∧ t0 ≤ t) ∨ (x.2 ∈ (ridesF g).take i ∧ x.2.2.2.2.1 = v ∧ x.2.2.2.2.2.1 ≤ t ∧ ∃ y, M x.2.2.2.1 x.2.2.1 = some y ∧ y.1 + pr x.2 = x.1)

/-- a map that tells just what is told at first -/
theorem SpI.start {g : Gr} {F : Int → Int → Option Int} {pr : Ri → Int} {s0 : Int} (hF : FOk g F s0) {M : Mp} (hM : ∀ v t, (M v t).map (·.1) = F v t) : SpI g F pr s0 s0 (s0 - 1) 0 0 M := by
  have e : ∀ v t x, M v t = some x → F v t = some x.1 := fun v t x h => by rw [← hM, h]; rfl
  refine ⟨fun v t x h => .base (e v t x h), fun v t p h => ?_, fun v t x h hx _ => ?_, fun r hr => by simp at hr, fun r hr => by simp at hr, fun r _ => by omega, fun v t x h => .inl ⟨t, e v t x h, Int.le_refl _⟩⟩
  · rw [← hM] at h
    cases hx : M v t with
    | none => rw [hx] at h; cases h
    | some x => rw [hx] at h; simp at h; exact ⟨x, rfl, by omega⟩
  · have := (hF _ _ _ (e v t x hx)).2.2
    omega

/-- waiting at one vertex more -/
theorem SpI.wait {g : Gr} {F : Int → Int → Option Int} {pr : Ri → Int} {s0 now : Int} {k i : Nat} {M : Mp} (h : SpI g F pr s0 now (now - 1) k i M) : SpI g F pr s0 now (now - 1) (k + 1) i (waitV g now M (k : Int)) := by
  have keep : (∀ x, M (k : Int) (now - 1) = some x → aliveB now g.lives (k : Int) = true → ∃ y, M (k : Int) now = some y ∧ y.1 ≤ x.1) → SpI g F pr s0 now (now - 1) (k + 1) i M := fun hk =>
    ⟨h.snd, h.fst, fun v t x ht hx ha => by
        by_cases e : t + 1 = now ∧ v = (k : Int)
        · obtain ⟨e1, rfl⟩ := e
          have e2 : t = now - 1 := by omega
          subst e2
          rw [e1] at ha ⊢
          exact hk x hx ha
        · exact h.wt v t x (by omega) hx ha, h.rd, h.done, h.ahead, h.way⟩
  unfold waitV
  cases hx : M (k : Int) (now - 1) with
  | none => exact keep fun x hx' => by rw [hx] at hx'; cases hx'
  | some x =>
    simp only
    split
    · rename_i ha
      split
      · rename_i hl
        have hPx := h.snd _ _ _ hx
        have hPn : Pd g F pr (k : Int) now x.1 := by
          have := hPx.wait (by rw [show now - 1 + 1 = now by omega]; exact ha)
          rwa [show now - 1 + 1 = now by omega] at this
        have hle : ∀ y, M (k : Int) now = some y → x.1 ≤ y.1 := fun y hy => by
          unfold leqB at hl
          rw [hy] at hl
          simpa using hl
        -- a place that was told of is told of, for no more
        have down : ∀ a b y, M a b = some y → ∃ z, mset M (k : Int) now x a b = some z ∧ z.1 ≤ y.1 := fun a b y hy => by
          by_cases e : a = (k : Int) ∧ b = now
          · obtain ⟨rfl, rfl⟩ := e
            exact ⟨x, mset_same _ _ _ _, hle y hy⟩
          · exact ⟨y, by rw [mset_other _ _ e]; exact hy, Int.le_refl _⟩
        refine ⟨fun v t y hy => ?_, fun v t p hp => ?_, fun v t y ht hy ha' => ?_, fun r hr y hy => ?_, h.done, h.ahead, fun v t y hy => ?_⟩
        · by_cases e : v = (k : Int) ∧ t = now
          · obtain ⟨rfl, rfl⟩ := e
            rw [mset_same] at hy; cases hy; exact hPn
          · rw [mset_other _ _ e] at hy; exact h.snd v t y hy
        · obtain ⟨y, hy, hyp⟩ := h.fst v t p hp
          obtain ⟨z, hz, hzy⟩ := down v t y hy
          exact ⟨z, hz, by omega⟩
        · have e : ¬ (v = (k : Int) ∧ t = now) := by omega
          rw [mset_other _ _ e] at hy
          by_cases e2 : t + 1 = now ∧ v = (k : Int)
          · obtain ⟨e1, rfl⟩ := e2
            have e3 : t = now - 1 := by omega
            subst e3
            rw [hx] at hy
            cases hy
            rw [e1]
            exact ⟨x, mset_same _ _ _ _, Int.le_refl _⟩
          · obtain ⟨z, hz, hzy⟩ := h.wt v t y (by omega) hy ha'
            obtain ⟨u, hu, huz⟩ := down v (t + 1) z hz
            exact ⟨u, hu, by omega⟩
        · have hd := h.done r hr
          rw [mset_other _ _ (by omega)] at hy
          obtain ⟨z, hz, hzy⟩ := h.rd r hr y hy
          obtain ⟨u, hu, huz⟩ := down _ _ z hz
          exact ⟨u, hu, by omega⟩
        · have old : ∀ t' y, t' ≤ t → M v t' = some y → (∃ t0, F v t0 = some y.1 ∧ t0 ≤ t) ∨ (y.2 ∈ (ridesF g).take i ∧ y.2.2.2.2.1 = v ∧ y.2.2.2.2.2.1 ≤ t ∧ ∃ z, mset M (k : Int) now x y.2.2.2.1 y.2.2.1 = some z ∧ z.1 + pr y.2 = y.1) := fun t' y ht' hy => by
            rcases h.way v t' y hy with ⟨t0, h1, h2⟩ | ⟨h1, h2, h3, z, h4, h5⟩
            · exact .inl ⟨t0, h1, by omega⟩
            · refine .inr ⟨h1, h2, by omega, z, ?_, h5⟩
              have hd := h.done _ h1
              rw [mset_other _ _ (by omega)]; exact h4
          by_cases e : v = (k : Int) ∧ t = now
          · obtain ⟨rfl, rfl⟩ := e
            rw [mset_same] at hy; cases hy
            exact old _ _ (by omega) hx
          · rw [mset_other _ _ e] at hy
            exact old _ _ (Int.le_refl _) hy
      · rename_i hl
        refine keep fun x' hx' _ => ?_
        rw [hx] at hx'; cases hx'
        unfold leqB at hl
        cases hy : M (k : Int) now with
        | none => rw [hy] at hl; simp at hl
        | some y => rw [hy] at hl; simp at hl; exact ⟨y, rfl, by omega⟩
    · rename_i ha
      exact keep fun _ _ h => absurd h ha
theorem SpI.waits {g : Gr} {F : Int → Int → Option Int} {pr : Ri → Int} {s0 now : Int} {i : Nat} {M : Mp} (h : SpI g F pr s0 now (now - 1) 0 i M) : ∀ k, SpI g F pr s0 now (now - 1) k i (waitM g now M k)
  | 0 => h
  | k + 1 => (h.waits k).wait
/-- from waiting to riding -/
theorem SpI.turn {g : Gr} {F : Int → Int → Option Int} {pr : Ri → Int} {s0 now : Int} {k i : Nat} {M : Mp} (h : SpI g F pr s0 now (now - 1) k i M) : SpI g F pr s0 now now k i M := { h with done := fun r hr => by have := h.done r hr; omega }
/-- one ride more -/
theorem SpI.take {g : Gr} (R : Right g) {F : Int → Int → Option Int} {pr : Ri → Int} {s0 now : Int} (hF : FOk g F s0) {k i : Nat} {M : Mp} (h : SpI g F pr s0 now now k i M) (hi : i < (ridesF g).length) (hd : (ridesF g)[i].2.1 ≤ now) :
    SpI g F pr s0 now now k (i + 1) (takeM M (ridesF g)[i] (pr (ridesF g)[i])) := by
  have hr : (ridesF g)[i] ∈ ridesF g := List.getElem_mem hi
  have hok := mem_rides R hr
  have hahead := h.ahead (ridesF g)[i] (by rw [List.drop_eq_getElem_cons hi]; exact List.mem_cons_self)
  have htk : (ridesF g).take (i + 1) = (ridesF g).take i ++ [(ridesF g)[i]] := List.take_succ_eq_append_getElem hi
  have hdr : ∀ q ∈ (ridesF g).drop (i + 1), q ∈ (ridesF g).drop i := fun q hq => by rw [List.drop_eq_getElem_cons hi]; exact List.mem_cons_of_mem _ hq
  have hsub : ∀ q ∈ (ridesF g).take i, q ∈ (ridesF g).take (i + 1) := fun q hq => by rw [htk]; exact List.mem_append_left _ hq
  obtain ⟨r, hrr⟩ : ∃ r, r = (ridesF g)[i] := ⟨_, rfl⟩
  rw [← hrr] at hr hok hahead htk hd ⊢
  have hlt := hok.lt
  have hdone : ∀ q ∈ (ridesF g).take (i + 1), q.2.1 ≤ now := fun q hq => by
    rw [htk, List.mem_append, List.mem_singleton] at hq
    rcases hq with hq | rfl
    · exact h.done q hq
    · exact hd
  have keep : (∀ x, M r.2.2.1 r.2.1 = some x → ∃ y, M r.2.2.2.1 r.2.2.2.2.1 = some y ∧ y.1 ≤ x.1 + pr r) → SpI g F pr s0 now now k (i + 1) M := fun hk =>
    ⟨h.snd, h.fst, h.wt, fun q hq x hx => by
        rw [htk, List.mem_append, List.mem_singleton] at hq
        rcases hq with hq | rfl
        · exact h.rd q hq x hx
        · exact hk x hx, hdone, fun q hq => h.ahead q (hdr q hq), fun v t x hx => by
        rcases h.way v t x hx with h1 | ⟨h1, h2⟩
        · exact .inl h1
        · exact .inr ⟨hsub _ h1, h2⟩⟩
  unfold takeM
  cases hx : M r.2.2.1 r.2.1 with
  | none => exact keep fun x hx' => by rw [hx] at hx'; cases hx'
  | some x =>
    simp only
    have hP := h.snd _ _ _ hx
    have hpl := hP.place R hF
    have hnow : r.2.1 = now := by omega
    split
    · rename_i hl
      have hle : ∀ y, M r.2.2.2.1 r.2.2.2.2.1 = some y → x.1 + pr r ≤ y.1 := fun y hy => by
        unfold lessB at hl
        rw [hy] at hl
        simp at hl
        omega
      have down : ∀ a b y, M a b = some y → ∃ z, mset M r.2.2.2.1 r.2.2.2.2.1 (x.1 + pr r, r) a b = some z ∧ z.1 ≤ y.1 := fun a b y hy => by
        by_cases e : a = r.2.2.2.1 ∧ b = r.2.2.2.2.1
        · obtain ⟨rfl, rfl⟩ := e
          exact ⟨_, mset_same _ _ _ _, hle y hy⟩
        · exact ⟨y, by rw [mset_other _ _ e]; exact hy, Int.le_refl _⟩
      refine ⟨fun v t y hy => ?_, fun v t p hp => ?_, fun v t y ht hy ha' => ?_, fun q hq y hy => ?_, hdone, fun q hq => h.ahead q (hdr q hq), fun v t y hy => ?_⟩
      · by_cases e : v = r.2.2.2.1 ∧ t = r.2.2.2.2.1
        · obtain ⟨rfl, rfl⟩ := e
          rw [mset_same] at hy; cases hy; exact .ride hr hP
        · rw [mset_other _ _ e] at hy; exact h.snd v t y hy
      · obtain ⟨y, hy, hyp⟩ := h.fst v t p hp
        obtain ⟨z, hz, hzy⟩ := down v t y hy
        exact ⟨z, hz, by omega⟩
      · rw [mset_other _ _ (by omega)] at hy
        obtain ⟨z, hz, hzy⟩ := h.wt v t y ht hy ha'
        obtain ⟨u, hu, huz⟩ := down v (t + 1) z hz
        exact ⟨u, hu, by omega⟩
      · have hqd := hdone q hq
        rw [mset_other _ _ (by omega)] at hy
        rw [htk, List.mem_append, List.mem_singleton] at hq
        rcases hq with hq | rfl
        · obtain ⟨z, hz, hzy⟩ := h.rd q hq y hy
          obtain ⟨u, hu, huz⟩ := down _ _ z hz
          exact ⟨u, hu, by omega⟩
        · rw [hx] at hy; cases hy
          exact ⟨_, mset_same _ _ _ _, Int.le_refl _⟩
      · by_cases e : v = r.2.2.2.1 ∧ t = r.2.2.2.2.1
        · obtain ⟨rfl, rfl⟩ := e
          rw [mset_same] at hy; cases hy
          refine .inr ⟨by rw [htk]; exact List.mem_append_right _ (List.mem_singleton.2 rfl), rfl, Int.le_refl _, x, ?_, rfl⟩
          rw [mset_other _ _ (by simp only; omega)]; exact hx
        · rw [mset_other _ _ e] at hy
          rcases h.way v t y hy with h1 | ⟨h1, h2, h3, z, h4, h5⟩
          · exact .inl h1
          · refine .inr ⟨hsub _ h1, h2, h3, z, ?_, h5⟩
            have hqd := hdone _ (hsub _ h1)
            rw [mset_other _ _ (by omega)]; exact h4
    · rename_i hl
      refine keep fun x' hx' => ?_
      rw [hx] at hx'; cases hx'
      unfold lessB at hl
      cases hy : M r.2.2.2.1 r.2.2.2.2.1 with
      | none => rw [hy] at hl; simp at hl
      | some y => rw [hy] at hl; simp at hl; exact ⟨y, rfl, by omega⟩
/-- the next time -/
theorem SpI.next {g : Gr} (R : Right g) {F : Int → Int → Option Int} {pr : Ri → Int} {s0 now : Int} (hF : FOk g F s0) {i : Nat} {M : Mp} (h : SpI g F pr s0 now now g.lives.length i M) (hd : ∀ hi : i < (ridesF g).length, now < (ridesF g)[i].2.1) :
    SpI g F pr s0 (now + 1) (now + 1 - 1) 0 i M := by
  refine { h with wt := fun v t x ht hx ha => h.wt v t x ?_ hx ha, done := fun r hr => by have := h.done r hr; omega, ahead := fun r hr => ?_ }
  · have := (h.snd v t x hx).place R hF
    omega
  · by_cases hi : i < (ridesF g).length
    · have hs : (ridesF g).Pairwise fun a b => a.2.1 ≤ b.2.1 := ridesTo_sorted g _
      have hs2 := hs.drop (i := i)
      rw [List.drop_eq_getElem_cons hi] at hs2 hr
      have := hd hi
      rcases List.mem_cons.1 hr with rfl | hr
      · omega
      · have := (List.pairwise_cons.1 hs2).1 r hr; omega
    · rw [List.drop_eq_nil_of_le (by omega)] at hr; simp at hr

/-- at the end: what is told is the least -/
structure SpE (g : Gr) (F : Int → Int → Option Int) (pr : Ri → Int) (M : Mp) : Prop where
  snd : ∀ v t x, M v t = some x → Pd g F pr v t x.1
  all : ∀ v t p, Pd g F pr v t p → ∃ x, M v t = some x ∧ x.1 ≤ p
  way : ∀ v t x, M v t = some x → (∃ t0, F v t0 = some x.1 ∧ t0 ≤ t) ∨ (x.2 ∈ ridesF g ∧ x.2.2.2.2.1 = v ∧ x.2.2.2.2.2.1 ≤ t ∧ ∃ y, M x.2.2.2.1 x.2.2.1 = some y ∧ y.1 + pr x.2 = x.1)
theorem SpI.fin {g : Gr} (R : Right g) {F : Int → Int → Option Int} {pr : Ri → Int} {s0 dp : Int} (hF : FOk g F s0) {i : Nat} {M : Mp} (h : SpI g F pr s0 g.hor dp 0 i M) : SpE g F pr M := by
  refine ⟨h.snd, fun v t p hp => ?_, fun v t x hx => ?_⟩
  · induction hp with
    | base hp => exact h.fst _ _ _ hp
    | @wait v t p hp ha ih =>
      obtain ⟨x, hx, hxp⟩ := ih
      have := alive_hor R ha
      obtain ⟨y, hy, hyx⟩ := h.wt v t x (by omega) hx ha
      exact ⟨y, hy, by omega⟩
    | @ride p r hr hp ih =>
      obtain ⟨x, hx, hxp⟩ := ih
      have hmem : r ∈ (ridesF g).take i := by
        have hr' := hr
        rw [← List.take_append_drop i (ridesF g), List.mem_append] at hr'
        rcases hr' with h1 | h1
        · exact h1
        · have := h.ahead r h1
          have h2 := (mem_rides R hr).lt
          have h3 := (mem_rides R hr).hor
          have := (h.snd _ _ _ hx).place R hF
          omega
      obtain ⟨y, hy, hyx⟩ := h.rd r hmem x hx
      exact ⟨y, hy, by omega⟩
  · rcases h.way v t x hx with h1 | ⟨h1, h2⟩
    · exact .inl h1
    · exact .inr ⟨List.mem_of_mem_take h1, h2⟩
/-- how many states there are at most -/
theorem Pd.stay {g : Gr} {F : Int → Int → Option Int} {pr : Ri → Int} {v t p : Int} (h : Pd g F pr v t p) (ha : aliveB t g.lives v = true) : ∀ n : Nat, aliveB (t + n) g.lives v = true → Pd g F pr v (t + n) p
  | 0, _ => by simpa using h
  | n + 1, hn => by
    have h1 : aliveB (t + n) g.lives v = true := alive_mid ha hn (by omega) (by omega)
    have h2 := (h.stay ha n h1).wait (by rw [show t + (n : Int) + 1 = t + ((n + 1 : Nat) : Int) by omega]; exact hn)
    rw [show t + (n : Int) + 1 = t + ((n + 1 : Nat) : Int) by omega] at h2
    exact h2
theorem Pd.waits {g : Gr} (R : Right g) {F : Int → Int → Option Int} {s0 : Int} (hF : FOk g F s0) {pr : Ri → Int} {v t t' p : Int} (h : Pd g F pr v t p) (ht : t ≤ t') (ha : aliveB t' g.lives v = true) : Pd g F pr v t' p := by
  have e : t' = t + ((t' - t).toNat : Int) := by omega
  rw [e] at ha ⊢
  exact h.stay (h.place R hF).2.2.1 _ ha

/-- what is told at first of one place -/
def F1 (v0 t0 : Int) : Int → Int → Option Int := fun v t => if v = v0 ∧ t = t0 then some 0 else none
theorem F1_ok {g : Gr} {v0 t0 : Int} (h0 : 0 ≤ v0) (ha : aliveB t0 g.lives v0 = true) : FOk g (F1 v0 t0) t0 := fun v t p h => by
  unfold F1 at h
  split at h
  · rename_i e; obtain ⟨rfl, rfl⟩ := e; exact ⟨h0, ha, Int.le_refl _⟩
  · cases h
/-- one can be at v at t for p, from v0 at t0 -/
def Pay (g : Gr) (pr : Ri → Int) (v0 t0 v t p : Int) : Prop := aliveB t0 g.lives v0 = true ∧ Pd g (F1 v0 t0) pr v t p
/-- the least prices of each vertex -/
structure LeastIs (g : Gr) (pr : Ri → Int) (v0 t0 : Int) (L : List Int) : Prop where
  len : L.length = g.lives.length
  is : ∀ v : Nat, v < g.lives.length → L.getD v 0 = 1099511627776 ∨ ∃ t, Pay g pr v0 t0 (v : Int) t (L.getD v 0)
  least : ∀ v : Nat, v < g.lives.length → ∀ t p, Pay g pr v0 t0 (v : Int) t p → L.getD v 0 ≤ p
/-- prices are from 0 to 1000 -/
def PrOk (g : Gr) (pr : Ri → Int) : Prop := ∀ r ∈ ridesF g, 0 ≤ pr r ∧ pr r ≤ 1000
theorem Pd.range {g : Gr} (R : Right g) {pr : Ri → Int} (hpr : PrOk g pr) {v0 t0 v t p : Int} (h0 : 0 ≤ v0) (ha : aliveB t0 g.lives v0 = true) (h : Pd g (F1 v0 t0) pr v t p) : 0 ≤ p ∧ p ≤ 1000 * (t - t0) := by
  induction h with
  | @base v t p h =>
    unfold F1 at h
    split at h
    · rename_i e; obtain ⟨rfl, rfl⟩ := e; cases h; omega
    · cases h
  | wait _ _ ih => omega
  | ride hr _ ih => have := hpr _ hr; have := (mem_rides R hr).lt; omega
theorem Pay.range {g : Gr} (R : Right g) {pr : Ri → Int} (hpr : PrOk g pr) {v0 t0 v t p : Int} (h0 : 0 ≤ v0) (h : Pay g pr v0 t0 v t p) : 0 ≤ p ∧ p ≤ 100000 := by
  have h1 := h.2.range R hpr h0 h.1
  have h2 := (h.2.place R (F1_ok h0 h.1)).2.2.2
  have := R.hor
  have := (alive_hor R h.1).2
  omega
theorem list_ext_gd {a b : List Int} (h : a.length = b.length) (k : ∀ v, v < a.length → a.getD v 0 = b.getD v 0) : a = b := by
  apply List.ext_getElem h
  intro v h1 h2
  have := k v h1
  rw [List.getD_eq_getElem?_getD, List.getD_eq_getElem?_getD, List.getElem?_eq_getElem h1, List.getElem?_eq_getElem h2] at this
  exact this
theorem least_unique {g : Gr} (R : Right g) {pr : Ri → Int} (hpr : PrOk g pr) {v0 t0 : Int} (h0 : 0 ≤ v0) {L L' : List Int} (h : LeastIs g pr v0 t0 L) (h' : LeastIs g pr v0 t0 L') : L = L' := by
  refine list_ext_gd (by rw [h.len, h'.len]) fun v hv => ?_
  rw [h.len] at hv
  rcases h.is v hv with e | ⟨t, e⟩ <;> rcases h'.is v hv with e' | ⟨t', e'⟩
  · rw [e, e']
  · have h1 := h.least v hv _ _ e'
    have h2 := (e'.range R hpr h0)
    omega
  · have h1 := h'.least v hv _ _ e
    have h2 := (e.range R hpr h0)
    omega
  · have h1 := h.least v hv _ _ e'
    have h2 := h'.least v hv _ _ e
    omega

end Go.Proofs.YtjjhhmlogddnkaiDoor
