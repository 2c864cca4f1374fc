/-
  A region that draws its order and whose last operation waits for all the others: its others are gone through first, in whatever order, and the last one behind them. So a condition on the world may be held over the others that the last one (a store) then breaks.
-/
import Derived.OrdersHeld
import Derived.Deep.RegionHeld
namespace Go.Proofs.YtjjhhmlogddnkaaDoor
open Go

/-- each operation waits for earlier ones alone, and none is guarded -/
def fwdB (ops : Array Oper) : Bool := (List.range ops.size).all fun j => match ops[j]? with
  | some o => o.guard.isNone && o.after.all fun e => !Region.binds .any e || decide (e.on < j)
  | none => true
/-- the last one waits for each of the others, itself or by way of another one -/
def lastB (ops : Array Oper) (st : Oper) : Bool := st.guard.isNone && (st.after.all (fun e => !Region.binds .any e || decide (e.on < ops.size)) && (List.range ops.size).all fun j =>
  st.after.any (fun e => Region.binds .any e && e.on == j) || (List.range ops.size).any fun k => decide (j < k) && match ops[k]? with
    | some o => o.after.any fun e => Region.binds .any e && e.on == j
    | none => false)

theorem fwd_spec {ops : Array Oper} (h : fwdB ops = true) {j : Nat} {o : Oper} (hj : ops[j]? = some o) : o.guard = none ∧ ∀ e ∈ o.after, Region.binds .any e = true → e.on < j := by
  have hlt : j < ops.size := (Array.getElem?_eq_some_iff.1 hj).1
  have := List.all_eq_true.1 h j (List.mem_range.2 hlt)
  simp only [hj, Bool.and_eq_true, Option.isNone_iff_eq_none, Array.all_eq_true_iff_forall_mem] at this
  refine ⟨this.1, fun e he hb => ?_⟩
  have h2 := this.2 e he
  rw [hb] at h2
  simpa using h2

/-- what is listed has all that it waits for listed -/
def Closed (ops : Array Oper) (listed : Array Bool) : Prop := ∀ (j : Nat) (o : Oper), ops[j]? = some o → listed.getD j true = true → ∀ e ∈ o.after, Region.binds .any e = true → listed.getD e.on false = true

theorem all_listed {ops : Array Oper} {listed : Array Bool} (hf : fwdB ops = true) (hsz : listed.size = ops.size) (hr : Region.ready .any ops listed = []) : ∀ j, j < ops.size → listed.getD j false = true := by
  intro j
  induction j using Nat.strongRecOn with
  | _ j ih =>
    intro hj
    have ho : ops[j]? = some ops[j] := Array.getElem?_eq_getElem hj
    cases hl : listed.getD j false with
    | true => rfl
    | false =>
      have hm : j ∈ Region.ready .any ops listed := by
        rw [mem_ready]
        have hj' : j < listed.size := by omega
        refine ⟨by simpa [hj'] using hl, _, ho, fun e he hb => ?_⟩
        have := (fwd_spec hf ho).2 e he hb
        exact ih e.on this (by omega)
      rw [hr] at hm
      cases hm

theorem arr_any {α : Type} {l : Array α} {p : α → Bool} (h : l.any p = true) : ∃ e ∈ l, p e = true := by
  rw [← Array.any_toList] at h
  obtain ⟨e, he, h2⟩ := List.any_eq_true.1 h
  exact ⟨e, by simpa using he, h2⟩

theorem last_waits {ops : Array Oper} {st : Oper} {listed : Array Bool} (hl : lastB ops st = true) (hc : Closed ops listed) (hsz : listed.size = ops.size) (hs : ∀ e ∈ st.after, Region.binds .any e = true → e.on < ops.size → listed.getD e.on false = true) : ∀ d j, j + d = ops.size → j < ops.size → listed.getD j false = true := by
  simp only [lastB, Bool.and_eq_true] at hl
  intro d
  induction d using Nat.strongRecOn with
  | _ d ih =>
    intro j hd hj
    have h1 := List.all_eq_true.1 hl.2.2 j (List.mem_range.2 hj)
    rw [Bool.or_eq_true] at h1
    rcases h1 with h1 | h1
    · obtain ⟨e, he, h2⟩ := arr_any h1
      rw [Bool.and_eq_true, beq_iff_eq] at h2
      rw [← h2.2]
      exact hs e he h2.1 (by rw [h2.2]; exact hj)
    · obtain ⟨k, hk, h2⟩ := List.any_eq_true.1 h1
      rw [List.mem_range] at hk
      rw [Bool.and_eq_true, decide_eq_true_eq] at h2
      have ho : ops[k]? = some ops[k] := Array.getElem?_eq_getElem hk
      simp only [ho] at h2
      obtain ⟨e, he, h3⟩ := arr_any h2.2
      rw [Bool.and_eq_true, beq_iff_eq] at h3
      have hkl := ih (d - (k - j)) (by omega) k (by omega) hk
      rw [← h3.2]
      refine hc k _ ho ?_ e he h3.1
      have hk' : k < listed.size := by omega
      simpa [hk'] using hkl

theorem getD_push {l : Array Bool} {j : Nat} (d : Bool) (h : j < l.size) : (l.push false).getD j d = l.getD j d := by
  have h' : j < (l.push false).size := by simp; omega
  unfold Array.getD
  rw [dif_pos h', dif_pos h]
  exact Array.getElem_push_lt h

theorem getElem_pushO {ops : Array Oper} {st : Oper} {j : Nat} (h : j < ops.size) : (ops.push st)[j]? = ops[j]? := by
  rw [Array.getElem?_push, if_neg (by omega)]

theorem ready_push {ops : Array Oper} {st : Oper} {listed : Array Bool} (hf : fwdB ops = true) (hl : lastB ops st = true) (hc : Closed ops listed) (hsz : listed.size = ops.size) (hne : Region.ready .any ops listed ≠ []) (i : Nat) :
    i ∈ Region.ready .any (ops.push st) (listed.push false) ↔ i ∈ Region.ready .any ops listed := by
  rw [mem_ready, mem_ready]
  rcases Nat.lt_trichotomy i ops.size with hi | hi | hi
  · rw [getD_push true (by omega), getElem_pushO hi]
    refine and_congr_right fun _ => exists_congr fun o => and_congr_right fun ho => forall_congr' fun e => forall_congr' fun he => forall_congr' fun hb => ?_
    have := (fwd_spec hf ho).2 e he hb
    rw [getD_push false (by omega)]
  · subst hi
    constructor
    · rintro ⟨_, o, ho, hall⟩
      have ho' : o = st := by
        rw [Array.getElem?_push, if_pos rfl] at ho
        exact (Option.some.inj ho).symm
      subst ho'
      exfalso
      apply hne
      have hall2 := last_waits hl hc hsz (fun e he hb hlt => by have := hall e he hb; rwa [getD_push false (by omega)] at this)
      apply List.eq_nil_iff_forall_not_mem.2
      intro j hj
      rw [mem_ready] at hj
      obtain ⟨h0, o, hoj, _⟩ := hj
      have hjlt : j < ops.size := (Array.getElem?_eq_some_iff.1 hoj).1
      have h1 := hall2 (ops.size - j) j (by omega) hjlt
      have hj' : j < listed.size := by omega
      simp [hj'] at h0 h1
      rw [h0] at h1
      cases h1
    · rintro ⟨_, o, ho, _⟩
      rw [Array.getElem?_eq_none (Nat.le_refl _)] at ho
      cases ho
  · constructor
    · rintro ⟨_, o, ho, _⟩
      rw [Array.getElem?_eq_none (by simp; omega)] at ho
      cases ho
    · rintro ⟨_, o, ho, _⟩
      rw [Array.getElem?_eq_none (by omega)] at ho
      cases ho

theorem ready_last {ops : Array Oper} {st : Oper} {listed : Array Bool} (hl : lastB ops st = true) (hsz : listed.size = ops.size) (hall : ∀ j, j < ops.size → listed.getD j false = true) (i : Nat) :
    i ∈ Region.ready .any (ops.push st) (listed.push false) ↔ i = ops.size := by
  rw [mem_ready]
  simp only [lastB, Bool.and_eq_true] at hl
  rcases Nat.lt_trichotomy i ops.size with hi | hi | hi
  · have h1 := hall i hi
    have hi' : i < listed.size := by omega
    constructor
    · rintro ⟨h0, _⟩
      rw [getD_push true hi'] at h0
      simp [hi'] at h0 h1
      rw [h0] at h1
      cases h1
    · intro h; omega
  · subst hi
    refine ⟨fun _ => rfl, fun _ => ⟨by simp [← hsz], st, by rw [Array.getElem?_push, if_pos rfl], fun e he hb => ?_⟩⟩
    have h2 := Array.all_eq_true_iff_forall_mem.1 hl.2.1 e he
    rw [hb] at h2
    have h3 : e.on < ops.size := by simpa using h2
    rw [getD_push false (by omega)]
    exact hall e.on h3
  · constructor
    · rintro ⟨_, o, ho, _⟩
      rw [Array.getElem?_eq_none (by simp; omega)] at ho
      cases ho
    · intro h; omega

theorem ready_done {ops : Array Oper} {st : Oper} {listed : Array Bool} (hsz : listed.size = ops.size) (hall : ∀ j, j < ops.size → listed.getD j false = true) : Region.ready .any (ops.push st) ((listed.push false).setIfInBounds ops.size true) = [] := by
  apply List.eq_nil_iff_forall_not_mem.2
  intro j hj
  rw [mem_ready] at hj
  obtain ⟨h0, o, hoj, _⟩ := hj
  have hjlt : j < ops.size + 1 := by simpa using (Array.getElem?_eq_some_iff.1 hoj).1
  by_cases e : j = ops.size
  · subst e
    simp [hsz] at h0
  · have hj' : j < listed.size := by omega
    have h1 := hall j (by omega)
    have h2 : ((listed.push false).setIfInBounds ops.size true).getD j true = (listed.push false).getD j true := by
      exact getD_set_ne true (Ne.symm e)
    rw [h2, getD_push true hj'] at h0
    simp [hj'] at h0 h1
    rw [h0] at h1
    cases h1

/-- the post of the others: the last one goes behind them -/
def BackQ (P : Program) (st : Oper) (Q : Exit → Act → World → Prop) : Exit → Act → World → Prop
  | .normal, a, w => st.wp P a w (fun a' w' => Q .normal a' w') Q
  | e, a, w => Q e a w

theorem wp_back {P : Program} {o st : Oper} {Q : Exit → Act → World → Prop} {K K' : Act → World → Prop} {a : Act} {w : World} (hK : ∀ a w, K a w → K' a w) (h : o.wp P a w K (BackQ P st Q)) : o.wp P a w K' Q := by
  unfold Oper.wp at *
  generalize (execOp a.eval o).run P w = r at *
  cases r with
  | ok n w' =>
    cases n <;> simp only [Oper.upon] at h ⊢ <;>
      first
        | exact hK _ _ h
        | exact Calls.mono h (fun e w'' he => by cases e <;> first | exact hK _ _ he | exact he)
        | exact Rows.mono h (fun _ _ he => hK _ _ he)
  | halt x w' => cases x <;> simp only [Oper.upon] at h ⊢ <;> exact h

theorem pop_sound {P : Program} {ops : Array Oper} {st : Oper} {Q : Exit → Act → World → Prop} (hf : fwdB ops = true) (hl : lastB ops st = true) : ∀ (fuel : Nat) (listed : Array Bool) (a : Act) (w : World), listed.size = ops.size → Closed ops listed →
    wpAny P .any ops (BackQ P st Q) fuel listed a w → wpAny P .any (ops.push st) Q (fuel + 1) (listed.push false) a w := by
  have hgd : st.guard = none := by
    simp only [lastB, Bool.and_eq_true, Option.isNone_iff_eq_none] at hl
    exact hl.1
  have fin : ∀ (fuel : Nat) (listed : Array Bool) (a : Act) (w : World), listed.size = ops.size → Region.ready .any ops listed = [] → BackQ P st Q .normal a w → wpAny P .any (ops.push st) Q (fuel + 1) (listed.push false) a w := by
    intro fuel listed a w hsz hr hq
    have hall := all_listed hf hsz hr
    refine ⟨fun h => ?_, fun i hi => ?_⟩
    · have := (ready_last (st := st) hl hsz hall ops.size).2 rfl
      rw [h] at this
      cases this
    · rw [ready_last hl hsz hall] at hi
      subst hi
      have ho : (ops.push st)[ops.size]? = some st := by rw [Array.getElem?_push, if_pos rfl]
      unfold wpOp
      simp only [ho, Region.wanted, hgd, if_true]
      refine .inl (Oper.wp_mono (fun a' w' h => ?_) hq)
      have hd := ready_done (st := st) hsz hall
      cases fuel with
      | zero => exact ⟨hd, h⟩
      | succ n => exact ⟨fun _ => h, by rw [hd]; simp⟩
  intro fuel
  induction fuel with
  | zero =>
    intro listed a w hsz hc h
    exact fin 0 listed a w hsz h.1 h.2
  | succ fuel ih =>
    intro listed a w hsz hc h
    by_cases hr : Region.ready .any ops listed = []
    · exact fin (fuel + 1) listed a w hsz hr (h.1 hr)
    · refine ⟨fun h0 => ?_, fun i hi => ?_⟩
      · exfalso
        apply hr
        apply List.eq_nil_iff_forall_not_mem.2
        intro j hj
        have := (ready_push hf hl hc hsz hr j).2 hj
        rw [h0] at this
        cases this
      · have hi' := (ready_push hf hl hc hsz hr i).1 hi
        have h1 := h.2 i hi'
        obtain ⟨hun, o, ho, hdep⟩ := mem_ready.1 hi'
        have hilt : i < ops.size := (Array.getElem?_eq_some_iff.1 ho).1
        have ho' : (ops.push st)[i]? = some o := by rw [getElem_pushO hilt]; exact ho
        have hg := (fwd_spec hf ho).1
        have eset : (listed.push false).setIfInBounds i true = (listed.setIfInBounds i true).push false := by
          apply Array.ext_getElem?
          intro k
          rw [Array.getElem?_setIfInBounds, Array.getElem?_push, Array.getElem?_push, Array.getElem?_setIfInBounds]
          have hil : i < listed.size := by omega
          by_cases h3 : i = k
          · subst h3
            simp [hil, Nat.ne_of_lt hil]
            omega
          · simp [h3]
        have hc' : Closed ops (listed.setIfInBounds i true) := by
          intro j oj hoj hlj e he hb
          by_cases hij : i = j
          · subst hij
            rw [ho] at hoj
            cases hoj
            exact getD_set_true (hdep e he hb)
          · rw [getD_set_ne true hij] at hlj
            exact getD_set_true (hc j oj hoj hlj e he hb)
        unfold wpOp at h1 ⊢
        simp only [ho, ho', Region.wanted, hg, if_true] at h1 ⊢
        rw [eset]
        refine h1.imp (fun hh => wp_back (fun a' w' hk => ih _ a' w' (by simpa using hsz) hc' hk) hh) (fun hh => ⟨hh.1, hh.2⟩)

/-- the beginning -/
theorem wp_region_pop {P : Program} {id : Nat} {ops : Array Oper} {st : Oper} {Q : Exit → Act → World → Prop} {S : World → Prop} {a : Act} {w : World} (hm : P.follows .mixedOrders = true) (hf : fwdB ops = true) (hl : lastB ops st = true) (hS : S w.drew)
    (h : S w.drew → wpAnyH P .any ops (BackQ P st Q) S ops.size (Array.replicate ops.size false) a w.drew) : (Code.region id (ops.push st) true).wp P Q a w := by
  refine wp_region_any hm ?_
  have h1 := wpAny_of_held _ _ _ _ (h hS)
  have h2 := pop_sound hf hl ops.size _ a w.drew (by simp) (by
    intro j o hj hlj
    have : j < ops.size := (Array.getElem?_eq_some_iff.1 hj).1
    simp [this] at hlj) h1
  have e1 : (Array.replicate ops.size false).push false = Array.replicate (ops.push st).size false := by
    apply Array.ext
    · simp
    · intro k h1 h2
      simp [Array.getElem_push]
  rw [e1] at h2
  have e2 : (ops.push st).size = ops.size + 1 := by simp
  rw [e2] at h2 ⊢
  exact h2

/-- a value that is there in every world that meets the condition is taken first -/
theorem take_lit {P : Program} {l : List Oper} {Q : Exit → Act → World → Prop} {md : Region.Mode} {S : World → Prop} {i : Nat} {oi : Oper} {v : Value} {fuel : Nat} {listed : Array Bool} {a : Act} {w : World} (hi : l[i]? = some oi)
    (hs : Region.noSelect l.toArray = true) (hf : Region.free md l.toArray listed i = true) (hr : (Region.ready md l.toArray listed).contains i = true)
    (hQ : ∀ c a w, Q (.panic c) (a.put oi.dst v) w → Q (.panic c) a w) (hy : YieldsIf P l.toArray S oi v a) (hS : S w)
    (h : wpAnyH P md l.toArray Q S fuel (listed.setIfInBounds i true) (a.put oi.dst v) w) : wpAnyH P md l.toArray Q S (fuel + 1) listed a w :=
  wpAnyH_take (by simpa using hi) hs hf hr hQ hy hS h
/-- the one operation that may come up comes up -/
theorem next_lit {P : Program} {l : List Oper} {Q : Exit → Act → World → Prop} {md : Region.Mode} {S : World → Prop} {i : Nat} {o : Oper} {fuel : Nat} {listed : Array Bool} {a : Act} {w : World} (ho : l[i]? = some o) (hr : Region.ready md l.toArray listed = [i])
    (h : ∀ K' : Act → World → Prop, Shut (∀ a w, S w → (S w → wpAnyH P md l.toArray Q S fuel (listed.setIfInBounds i true) a w) → K' a w) → if Region.wanted o (yielded l.toArray a.tmps) = true then Oper.wp P o a w K' Q else K' (a.put o.dst undef) w) : wpAnyH P md l.toArray Q S (fuel + 1) listed a w :=
  wpAnyH_ready hr (by simp) (AllReadyH.cons (by simpa using ho) h AllReadyH.nil)
/-- .. of a region as it is written out -/
theorem wp_region_back {P : Program} {id : Nat} {full : Array Oper} {Q : Exit → Act → World → Prop} {S : World → Prop} {a : Act} {w : World} (hm : P.follows .mixedOrders = true) (hn : 0 < full.size) (hf : fwdB full.pop = true) (hl : lastB full.pop full.back! = true) (hS : S w.drew)
    (h : S w.drew → wpAnyH P .any full.pop (BackQ P full.back! Q) S full.pop.size (Array.replicate full.pop.size false) a w.drew) : (Code.region id full true).wp P Q a w := by
  have e : full = full.pop.push full.back! := (Array.eq_push_pop_back!_of_size_ne_zero (by omega))
  rw [e]
  exact wp_region_pop hm hf hl hS h
theorem back_last {P : Program} {st : Oper} {Q : Exit → Act → World → Prop} {a : Act} {w : World} (h : ∀ K, Shut (∀ a w, Q .normal a w → K a w) → st.wp P a w K Q) : BackQ P st Q .normal a w :=
  h (fun a w => Q .normal a w) (fun _ _ h => h)

end Go.Proofs.YtjjhhmlogddnkaaDoor
