/-
  Several texts in one: Pop, HeldB, HeldC, RGraph, JpA, JpB, ErA, ChA, ChB, ChC, ErRep, RSnap, RJn, ErB, ChD, ChE, ChMat2, JpD, HeldS, JpC, Pair.
-/
import Derived.OrdersHeld
import Derived.Deep.RegionHeld
import Derived.Deep.AppendLies
import Derived.OwnWalk
import Derived.Shelf.Abstract
import Derived.Test.YthgelfnflafoiafShelf
import Derived.Laws.CopyOwn
import Derived.OneCell
import Derived.Test.YthgelfnflafoiafPk1

namespace Go.Proofs.Ythgelfnflafoiaf
open Go

/-- each operation waits for earlier ones alone, and none is guarded -/
def fwdB (ops : Array Oper) : Bool := (List.range ops.size).all fun j => match ops[j]? with
  | some o => o.guard.isNone && o.after.all fun e => !Region.binds .any e || decide (e.on < j)
  | none => true
/-- the last one waits for each of the others, itself or by way of another one -/
def lastB (ops : Array Oper) (st : Oper) : Bool := st.guard.isNone && (st.after.all (fun e => !Region.binds .any e || decide (e.on < ops.size)) && (List.range ops.size).all fun j =>
  st.after.any (fun e => Region.binds .any e && e.on == j) || (List.range ops.size).any fun k => decide (j < k) && match ops[k]? with
    | some o => o.after.any fun e => Region.binds .any e && e.on == j
    | none => false)

theorem fwd_spec {ops : Array Oper} (h : fwdB ops = true) {j : Nat} {o : Oper} (hj : ops[j]? = some o) : o.guard = none ∧ ∀ e ∈ o.after, Region.binds .any e = true → e.on < j := by
  have hlt : j < ops.size := (Array.getElem?_eq_some_iff.1 hj).1
  have := List.all_eq_true.1 h j (List.mem_range.2 hlt)
  simp only [hj, Bool.and_eq_true, Option.isNone_iff_eq_none, Array.all_eq_true_iff_forall_mem] at this
  refine ⟨this.1, fun e he hb => ?_⟩
  have h2 := this.2 e he
  rw [hb] at h2
  simpa using h2

/-- what is listed has all that it waits for listed -/
def Closed (ops : Array Oper) (listed : Array Bool) : Prop := ∀ (j : Nat) (o : Oper), ops[j]? = some o → listed.getD j true = true → ∀ e ∈ o.after, Region.binds .any e = true → listed.getD e.on false = true

theorem all_listed {ops : Array Oper} {listed : Array Bool} (hf : fwdB ops = true) (hsz : listed.size = ops.size) (hr : Region.ready .any ops listed = []) : ∀ j, j < ops.size → listed.getD j false = true := by
  intro j
  induction j using Nat.strongRecOn with
  | _ j ih =>
    intro hj
    have ho : ops[j]? = some ops[j] := Array.getElem?_eq_getElem hj
    cases hl : listed.getD j false with
    | true => rfl
    | false =>
      have hm : j ∈ Region.ready .any ops listed := by
        rw [mem_ready]
        have hj' : j < listed.size := by omega
        refine ⟨by simpa [hj'] using hl, _, ho, fun e he hb => ?_⟩
        have := (fwd_spec hf ho).2 e he hb
        exact ih e.on this (by omega)
      rw [hr] at hm
      cases hm

theorem arr_any {α : Type} {l : Array α} {p : α → Bool} (h : l.any p = true) : ∃ e ∈ l, p e = true := by
  rw [← Array.any_toList] at h
  obtain ⟨e, he, h2⟩ := List.any_eq_true.1 h
  exact ⟨e, by simpa using he, h2⟩

theorem last_waits {ops : Array Oper} {st : Oper} {listed : Array Bool} (hl : lastB ops st = true) (hc : Closed ops listed) (hsz : listed.size = ops.size) (hs : ∀ e ∈ st.after, Region.binds .any e = true → e.on < ops.size → listed.getD e.on false = true) : ∀ d j, j + d = ops.size → j < ops.size → listed.getD j false = true := by
  simp only [lastB, Bool.and_eq_true] at hl
  intro d
  induction d using Nat.strongRecOn with
  | _ d ih =>
    intro j hd hj
    have h1 := List.all_eq_true.1 hl.2.2 j (List.mem_range.2 hj)
    rw [Bool.or_eq_true] at h1
    rcases h1 with h1 | h1
    · obtain ⟨e, he, h2⟩ := arr_any h1
      rw [Bool.and_eq_true, beq_iff_eq] at h2
      rw [← h2.2]
      exact hs e he h2.1 (by rw [h2.2]; exact hj)
    · obtain ⟨k, hk, h2⟩ := List.any_eq_true.1 h1
      rw [List.mem_range] at hk
      rw [Bool.and_eq_true, decide_eq_true_eq] at h2
      have ho : ops[k]? = some ops[k] := Array.getElem?_eq_getElem hk
      simp only [ho] at h2
      obtain ⟨e, he, h3⟩ := arr_any h2.2
      rw [Bool.and_eq_true, beq_iff_eq] at h3
      have hkl := ih (d - (k - j)) (by omega) k (by omega) hk
      rw [← h3.2]
      refine hc k _ ho ?_ e he h3.1
      have hk' : k < listed.size := by omega
      simpa [hk'] using hkl

theorem getD_push {l : Array Bool} {j : Nat} (d : Bool) (h : j < l.size) : (l.push false).getD j d = l.getD j d := by
  have h' : j < (l.push false).size := by simp; omega
  unfold Array.getD
  rw [dif_pos h', dif_pos h]
  exact Array.getElem_push_lt h

theorem getElem_pushO {ops : Array Oper} {st : Oper} {j : Nat} (h : j < ops.size) : (ops.push st)[j]? = ops[j]? := by
  rw [Array.getElem?_push, if_neg (by omega)]

theorem ready_push {ops : Array Oper} {st : Oper} {listed : Array Bool} (hf : fwdB ops = true) (hl : lastB ops st = true) (hc : Closed ops listed) (hsz : listed.size = ops.size) (hne : Region.ready .any ops listed ≠ []) (i : Nat) :
    i ∈ Region.ready .any (ops.push st) (listed.push false) ↔ i ∈ Region.ready .any ops listed := by
  rw [mem_ready, mem_ready]
  rcases Nat.lt_trichotomy i ops.size with hi | hi | hi
  · rw [getD_push true (by omega), getElem_pushO hi]
    refine and_congr_right fun _ => exists_congr fun o => and_congr_right fun ho => forall_congr' fun e => forall_congr' fun he => forall_congr' fun hb => ?_
    have := (fwd_spec hf ho).2 e he hb
    rw [getD_push false (by omega)]
  · subst hi
    constructor
    · rintro ⟨_, o, ho, hall⟩
      have ho' : o = st := by
        rw [Array.getElem?_push, if_pos rfl] at ho
        exact (Option.some.inj ho).symm
      subst ho'
      exfalso
      apply hne
      have hall2 := last_waits hl hc hsz (fun e he hb hlt => by have := hall e he hb; rwa [getD_push false (by omega)] at this)
      apply List.eq_nil_iff_forall_not_mem.2
      intro j hj
      rw [mem_ready] at hj
      obtain ⟨h0, o, hoj, _⟩ := hj
      have hjlt : j < ops.size := (Array.getElem?_eq_some_iff.1 hoj).1
      have h1 := hall2 (ops.size - j) j (by omega) hjlt
      have hj' : j < listed.size := by omega
      simp [hj'] at h0 h1
      rw [h0] at h1
      cases h1
    · rintro ⟨_, o, ho, _⟩
      rw [Array.getElem?_eq_none (Nat.le_refl _)] at ho
      cases ho
  · constructor
    · rintro ⟨_, o, ho, _⟩
      rw [Array.getElem?_eq_none (by simp; omega)] at ho
      cases ho
    · rintro ⟨_, o, ho, _⟩
      rw [Array.getElem?_eq_none (by omega)] at ho
      cases ho

theorem ready_last {ops : Array Oper} {st : Oper} {listed : Array Bool} (hl : lastB ops st = true) (hsz : listed.size = ops.size) (hall : ∀ j, j < ops.size → listed.getD j false = true) (i : Nat) :
    i ∈ Region.ready .any (ops.push st) (listed.push false) ↔ i = ops.size := by
  rw [mem_ready]
  simp only [lastB, Bool.and_eq_true] at hl
  rcases Nat.lt_trichotomy i ops.size with hi | hi | hi
  · have h1 := hall i hi
    have hi' : i < listed.size := by omega
    constructor
    · rintro ⟨h0, _⟩
      rw [getD_push true hi'] at h0
      simp [hi'] at h0 h1
      rw [h0] at h1
      cases h1
    · intro h; omega
  · subst hi
    refine ⟨fun _ => rfl, fun _ => ⟨by simp [← hsz], st, by rw [Array.getElem?_push, if_pos rfl], fun e he hb => ?_⟩⟩
    have h2 := Array.all_eq_true_iff_forall_mem.1 hl.2.1 e he
    rw [hb] at h2
    have h3 : e.on < ops.size := by simpa using h2
    rw [getD_push false (by omega)]
    exact hall e.on h3
  · constructor
    · rintro ⟨_, o, ho, _⟩
      rw [Array.getElem?_eq_none (by simp; omega)] at ho
      cases ho
    · intro h; omega

theorem ready_done {ops : Array Oper} {st : Oper} {listed : Array Bool} (hsz : listed.size = ops.size) (hall : ∀ j, j < ops.size → listed.getD j false = true) : Region.ready .any (ops.push st) ((listed.push false).setIfInBounds ops.size true) = [] := by
  apply List.eq_nil_iff_forall_not_mem.2
  intro j hj
  rw [mem_ready] at hj
  obtain ⟨h0, o, hoj, _⟩ := hj
  have hjlt : j < ops.size + 1 := by simpa using (Array.getElem?_eq_some_iff.1 hoj).1
  by_cases e : j = ops.size
  · subst e
    simp [hsz] at h0
  · have hj' : j < listed.size := by omega
    have h1 := hall j (by omega)
    have h2 : ((listed.push false).setIfInBounds ops.size true).getD j true = (listed.push false).getD j true := by
      exact getD_set_ne true (Ne.symm e)
    rw [h2, getD_push true hj'] at h0
    simp [hj'] at h0 h1
    rw [h0] at h1
    cases h1

/-- the post of the others: the last one goes behind them -/
def BackQ (P : Program) (st : Oper) (Q : Exit → Act → World → Prop) : Exit → Act → World → Prop
  | .normal, a, w => st.wp P a w (fun a' w' => Q .normal a' w') Q
  | e, a, w => Q e a w

theorem wp_back {P : Program} {o st : Oper} {Q : Exit → Act → World → Prop} {K K' : Act → World → Prop} {a : Act} {w : World} (hK : ∀ a w, K a w → K' a w) (h : o.wp P a w K (BackQ P st Q)) : o.wp P a w K' Q := by
  unfold Oper.wp at *
  generalize (execOp a.eval o).run P w = r at *
  cases r with
  | ok n w' =>
    cases n <;> simp only [Oper.upon] at h ⊢ <;>
      first
        | exact hK _ _ h
        | exact Calls.mono h (fun e w'' he => by cases e <;> first | exact hK _ _ he | exact he)
        | exact Rows.mono h (fun _ _ he => hK _ _ he)
  | halt x w' => cases x <;> simp only [Oper.upon] at h ⊢ <;> exact h

theorem pop_sound {P : Program} {ops : Array Oper} {st : Oper} {Q : Exit → Act → World → Prop} (hf : fwdB ops = true) (hl : lastB ops st = true) : ∀ (fuel : Nat) (listed : Array Bool) (a : Act) (w : World), listed.size = ops.size → Closed ops listed →
    wpAny P .any ops (BackQ P st Q) fuel listed a w → wpAny P .any (ops.push st) Q (fuel + 1) (listed.push false) a w := by
  have hgd : st.guard = none := by
    simp only [lastB, Bool.and_eq_true, Option.isNone_iff_eq_none] at hl
    exact hl.1
  have fin : ∀ (fuel : Nat) (listed : Array Bool) (a : Act) (w : World), listed.size = ops.size → Region.ready .any ops listed = [] → BackQ P st Q .normal a w → wpAny P .any (ops.push st) Q (fuel + 1) (listed.push false) a w := by
    intro fuel listed a w hsz hr hq
    have hall := all_listed hf hsz hr
    refine ⟨fun h => ?_, fun i hi => ?_⟩
    · have := (ready_last (st := st) hl hsz hall ops.size).2 rfl
      rw [h] at this
      cases this
    · rw [ready_last hl hsz hall] at hi
      subst hi
      have ho : (ops.push st)[ops.size]? = some st := by rw [Array.getElem?_push, if_pos rfl]
      unfold wpOp
      simp only [ho, Region.wanted, hgd, if_true]
      refine .inl (Oper.wp_mono (fun a' w' h => ?_) hq)
      have hd := ready_done (st := st) hsz hall
      cases fuel with
      | zero => exact ⟨hd, h⟩
      | succ n => exact ⟨fun _ => h, by rw [hd]; simp⟩
  intro fuel
  induction fuel with
  | zero =>
    intro listed a w hsz hc h
    exact fin 0 listed a w hsz h.1 h.2
  | succ fuel ih =>
    intro listed a w hsz hc h
    by_cases hr : Region.ready .any ops listed = []
    · exact fin (fuel + 1) listed a w hsz hr (h.1 hr)
    · refine ⟨fun h0 => ?_, fun i hi => ?_⟩
      · exfalso
        apply hr
        apply List.eq_nil_iff_forall_not_mem.2
        intro j hj
        have := (ready_push hf hl hc hsz hr j).2 hj
        rw [h0] at this
        cases this
      · have hi' := (ready_push hf hl hc hsz hr i).1 hi
        have h1 := h.2 i hi'
        obtain ⟨hun, o, ho, hdep⟩ := mem_ready.1 hi'
        have hilt : i < ops.size := (Array.getElem?_eq_some_iff.1 ho).1
        have ho' : (ops.push st)[i]? = some o := by rw [getElem_pushO hilt]; exact ho
        have hg := (fwd_spec hf ho).1
        have eset : (listed.push false).setIfInBounds i true = (listed.setIfInBounds i true).push false := by
          apply Array.ext_getElem?
          intro k
          rw [Array.getElem?_setIfInBounds, Array.getElem?_push, Array.getElem?_push, Array.getElem?_setIfInBounds]
          have hil : i < listed.size := by omega
          by_cases h3 : i = k
          · subst h3
            simp [hil, Nat.ne_of_lt hil]
            omega
          · simp [h3]
        have hc' : Closed ops (listed.setIfInBounds i true) := by
          intro j oj hoj hlj e he hb
          by_cases hij : i = j
          · subst hij
            rw [ho] at hoj
            cases hoj
            exact getD_set_true (hdep e he hb)
          · rw [getD_set_ne true hij] at hlj
            exact getD_set_true (hc j oj hoj hlj e he hb)
        unfold wpOp at h1 ⊢
        simp only [ho, ho', Region.wanted, hg, if_true] at h1 ⊢
        rw [eset]
        refine h1.imp (fun hh => wp_back (fun a' w' hk => ih _ a' w' (by simpa using hsz) hc' hk) hh) (fun hh => ⟨hh.1, hh.2⟩)

/-- the beginning -/
theorem wp_region_pop {P : Program} {id : Nat} {ops : Array Oper} {st : Oper} {Q : Exit → Act → World → Prop} {S : World → Prop} {a : Act} {w : World} (hm : P.follows .mixedOrders = true) (hf : fwdB ops = true) (hl : lastB ops st = true) (hS : S w.drew)
    (h : S w.drew → wpAnyH P .any ops (BackQ P st Q) S ops.size (Array.replicate ops.size false) a w.drew) : (Code.region id (ops.push st) true).wp P Q a w := by
  refine wp_region_any hm ?_
  have h1 := wpAny_of_held _ _ _ _ (h hS)
  have h2 := pop_sound hf hl ops.size _ a w.drew (by simp) (by
    intro j o hj hlj
    have : j < ops.size := (Array.getElem?_eq_some_iff.1 hj).1
    simp [this] at hlj) h1
  have e1 : (Array.replicate ops.size false).push false = Array.replicate (ops.push st).size false := by
    apply Array.ext
    · simp
    · intro k h1 h2
      simp [Array.getElem_push]
  rw [e1] at h2
  have e2 : (ops.push st).size = ops.size + 1 := by simp
  rw [e2] at h2 ⊢
  exact h2

/-- a value that is there in every world that meets the condition is taken first -/
theorem take_lit {P : Program} {l : List Oper} {Q : Exit → Act → World → Prop} {md : Region.Mode} {S : World → Prop} {i : Nat} {oi : Oper} {v : Value} {fuel : Nat} {listed : Array Bool} {a : Act} {w : World} (hi : l[i]? = some oi)
    (hs : Region.noSelect l.toArray = true) (hf : Region.free md l.toArray listed i = true) (hr : (Region.ready md l.toArray listed).contains i = true)
    (hQ : ∀ c a w, Q (.panic c) (a.put oi.dst v) w → Q (.panic c) a w) (hy : YieldsIf P l.toArray S oi v a) (hS : S w)
    (h : wpAnyH P md l.toArray Q S fuel (listed.setIfInBounds i true) (a.put oi.dst v) w) : wpAnyH P md l.toArray Q S (fuel + 1) listed a w :=
  wpAnyH_take (by simpa using hi) hs hf hr hQ hy hS h
/-- the one operation that may come up comes up -/
theorem next_lit {P : Program} {l : List Oper} {Q : Exit → Act → World → Prop} {md : Region.Mode} {S : World → Prop} {i : Nat} {o : Oper} {fuel : Nat} {listed : Array Bool} {a : Act} {w : World} (ho : l[i]? = some o) (hr : Region.ready md l.toArray listed = [i])
    (h : ∀ K' : Act → World → Prop, Shut (∀ a w, S w → (S w → wpAnyH P md l.toArray Q S fuel (listed.setIfInBounds i true) a w) → K' a w) → if Region.wanted o (yielded l.toArray a.tmps) = true then Oper.wp P o a w K' Q else K' (a.put o.dst undef) w) : wpAnyH P md l.toArray Q S (fuel + 1) listed a w :=
  wpAnyH_ready hr (by simp) (AllReadyH.cons (by simpa using ho) h AllReadyH.nil)
/-- .. of a region as it is written out -/
theorem wp_region_back {P : Program} {id : Nat} {full : Array Oper} {Q : Exit → Act → World → Prop} {S : World → Prop} {a : Act} {w : World} (hm : P.follows .mixedOrders = true) (hn : 0 < full.size) (hf : fwdB full.pop = true) (hl : lastB full.pop full.back! = true) (hS : S w.drew)
    (h : S w.drew → wpAnyH P .any full.pop (BackQ P full.back! Q) S full.pop.size (Array.replicate full.pop.size false) a w.drew) : (Code.region id full true).wp P Q a w := by
  have e : full = full.pop.push full.back! := (Array.eq_push_pop_back!_of_size_ne_zero (by omega))
  rw [e]
  exact wp_region_pop hm hf hl hS h
theorem back_last {P : Program} {st : Oper} {Q : Exit → Act → World → Prop} {a : Act} {w : World} (h : ∀ K, Shut (∀ a w, Q .normal a w → K a w) → st.wp P a w K Q) : BackQ P st Q .normal a w :=
  h (fun a w => Q .normal a w) (fun _ _ h => h)

end Go.Proofs.Ythgelfnflafoiaf

namespace Go.Proofs.Ythgelfnflafoiaf
open Go.RowKit

theorem wp_region_held_back {P : Program} (w0 : World) {id : Nat} {full : Array Oper} {Q : Exit → Act → World → Prop} {a : Act} {w : World} (h0 : Below w0.heap.size w0 w) (hm : P.follows .mixedOrders = true) (hn : 0 < full.size) (hB : Region.lexB .any full.pop = true) (hf : fwdB full.pop = true) (hl : lastB full.pop full.back! = true)
    (h : wpQuiet P full.pop (fun w' => ∃ s : HeldIn w0, w' = s.w) (fun a' => ∀ w', (∃ s : HeldIn w0, w' = s.w) → BackQ P full.back! Q .normal a' w') full.pop.toList a) : (Code.region id full true).wp P Q a w := by
  have e : full = full.pop.push full.back! := (Array.eq_push_pop_back!_of_size_ne_zero (by omega))
  generalize full.pop = ops at *
  generalize full.back! = st at *
  subst e
  simp only [Region.lexB, Bool.and_eq_true] at hB
  refine wp_region_any hm ?_
  have h1 : wpAny P .any ops (BackQ P st Q) ops.size (Array.replicate ops.size false) a w.drew := by
    refine wpAny_of_quiet (C := fun w' => ∃ s : HeldIn w0, w' = s.w) (Q := fun a' => ∀ w', (∃ s : HeldIn w0, w' = s.w) → BackQ P st Q .normal a' w') (fun _ w' hw' h => h w' hw') _ _ _ _ ⟨⟨_, h0.drew⟩, rfl⟩ ?_
    have := wpAnyQ_lex (C := fun w' => ∃ s : HeldIn w0, w' = s.w) (md := .any) hB.1 ops.toList 0 (Array.replicate ops.size false) a (by simp) (by simpa using hB.2) h
    simpa using this
  have h2 := pop_sound hf hl ops.size _ a w.drew (by simp) (by
    intro j o hj hlj
    have : j < ops.size := (Array.getElem?_eq_some_iff.1 hj).1
    simp [this] at hlj) h1
  have e1 : (Array.replicate ops.size false).push false = Array.replicate (ops.push st).size false := by
    apply Array.ext
    · simp
    · intro k h1 h2
      simp [Array.getElem_push]
  rw [e1] at h2
  have e2 : (ops.push st).size = ops.size + 1 := by simp
  rw [e2] at h2 ⊢
  exact h2

theorem gby_set (w : World) (b j : Nat) (u : Value) : w.grownBy (w.setCell ⟨b, j, none⟩ u) (some b) :=
  ⟨rfl, rfl, rfl, by simp [World.setCell], fun k _ hk => Below.heap_setCell _ _ _ _ (fun e => hk (by simp [e]))⟩
theorem PcAt.grown {w w' : World} {ao : Option Addr} {m : List (Int × Int × Int)} {gb : Nat} (h : PcAt w ao m) (hg : w.grownBy w' (some gb)) (hne : ∀ b off, ao = some ⟨b, off, none⟩ → b ≠ gb) : PcAt w' ao m := by
  rcases h with h | ⟨b, off, rfl, hlt, hc⟩
  · exact .inl h
  · have hn : some b ≠ some gb := fun e => hne b off rfl (Option.some.inj e)
    refine .inr ⟨b, off, rfl, Nat.lt_of_lt_of_le hlt hg.size, fun j hj => ?_⟩
    rw [hg.cell_far ⟨b, off + j * 3, none⟩ hlt hn, hg.cell_far ⟨b, off + j * 3 + 1, none⟩ hlt hn, hg.cell_far ⟨b, off + j * 3 + 2, none⟩ hlt hn]
    exact hc j hj

/-- a row of numbers, in memory of the call's own -/
abbrev Zo (w : World) (base gb n cap : Nat) (x : List Int) : Prop := w.ownsRow base 3 1 (.slice (some ⟨gb, 0, none⟩) n cap) n (x.map (Value.int .i64))
theorem Zo.len {w : World} {base gb n cap : Nat} {x : List Int} (h : Zo w base gb n cap x) : x.length = n := by have := h.1; simpa using this
theorem Zo.cell {w : World} {base gb n cap : Nat} {x : List Int} (h : Zo w base gb n cap x) {k : Nat} (hk : k < n) : w.cell? ⟨gb, k, none⟩ = some (.int .i64 (x.getD k 0)) := by
  have hl := h.len
  rw [World.ownsRow.cellAt h k (by omega), List.getElem?_map, List.getD_eq_getElem?_getD, List.getElem?_eq_getElem (by omega)]; rfl
theorem Zo.set {w : World} {base gb n cap : Nat} {x : List Int} (h : Zo w base gb n cap x) (k : Nat) (v : Int) : Zo (w.setCell ⟨gb, k, none⟩ (.int .i64 v)) base gb n cap (x.set k v) := by
  have := (World.ownsRow.stored h k (.int .i64 v)).1
  rw [← List.map_set] at this
  exact this
theorem Zo.below {w w' : World} {base gb n cap : Nat} {x : List Int} (h : Zo w base gb n cap x) (hb : Below w.heap.size w w') : Zo w' base gb n cap x := ownsRow_below h hb
/-- what stands in a row of numbers -/
def rdL (w : World) (gb n : Nat) : List Int := (List.range n).map fun j => intOf ((w.cell? ⟨gb, j, none⟩).getD (.int .i64 0))
theorem Zo.rd {w : World} {base gb n cap : Nat} {x : List Int} (h : Zo w base gb n cap x) : rdL w gb n = x := by
  have hl := h.len
  apply List.ext_getElem (by simp [rdL, hl])
  intro i h1 h2
  simp only [rdL, List.getElem_map, List.getElem_range]
  rw [h.cell (k := i) (by omega), List.getD_eq_getElem?_getD, List.getElem?_eq_getElem h2]; rfl
def flagOf : Value → Nat
  | .bool true => 1
  | _ => 0

end Go.Proofs.Ythgelfnflafoiaf

namespace Go.Proofs.Ythgelfnflafoiaf
open Go.RowKit

theorem wp_region_held_back2 {P : Program} (w0 : World) {id : Nat} {full : Array Oper} {Q : Exit → Act → World → Prop} {a : Act} {w : World} (h0 : Below w0.heap.size w0 w) (hm : P.follows .mixedOrders = true) (hn : 1 < full.size)
    (hB : Region.lexB .any full.pop.pop = true) (hf : fwdB full.pop.pop = true) (hl : lastB full.pop.pop full.pop.back! = true) (hf2 : fwdB full.pop = true) (hl2 : lastB full.pop full.back! = true)
    (h : wpQuiet P full.pop.pop (fun w' => ∃ s : HeldIn w0, w' = s.w) (fun a' => ∀ w', (∃ s : HeldIn w0, w' = s.w) → BackQ P full.pop.back! (BackQ P full.back! Q) .normal a' w') full.pop.pop.toList a) : (Code.region id full true).wp P Q a w := by
  have e : full = full.pop.push full.back! := (Array.eq_push_pop_back!_of_size_ne_zero (by omega))
  have e' : full.pop = full.pop.pop.push full.pop.back! := (Array.eq_push_pop_back!_of_size_ne_zero (by simp; omega))
  rw [e']  at hf2 hl2
  generalize full.pop.pop = ops at *
  generalize full.pop.back! = st at *
  generalize full.back! = sl at *
  rw [e'] at e
  subst e
  simp only [Region.lexB, Bool.and_eq_true] at hB
  refine wp_region_any hm ?_
  have h1 : wpAny P .any ops (BackQ P st (BackQ P sl Q)) ops.size (Array.replicate ops.size false) a w.drew := by
    refine wpAny_of_quiet (C := fun w' => ∃ s : HeldIn w0, w' = s.w) (Q := fun a' => ∀ w', (∃ s : HeldIn w0, w' = s.w) → BackQ P st (BackQ P sl Q) .normal a' w') (fun _ w' hw' h => h w' hw') _ _ _ _ ⟨⟨_, h0.drew⟩, rfl⟩ ?_
    have := wpAnyQ_lex (C := fun w' => ∃ s : HeldIn w0, w' = s.w) (md := .any) hB.1 ops.toList 0 (Array.replicate ops.size false) a (by simp) (by simpa using hB.2) h
    simpa using this
  have cl : ∀ os : Array Oper, Closed os (Array.replicate os.size false) := fun os j o hj hlj => by
    have : j < os.size := (Array.getElem?_eq_some_iff.1 hj).1
    simp [this] at hlj
  have e1 : ∀ (os : Array Oper) (s : Oper), (Array.replicate os.size false).push false = Array.replicate (os.push s).size false := fun os s => by
    apply Array.ext
    · simp
    · intro k h1 h2
      simp [Array.getElem_push]
  have h2 := pop_sound hf hl ops.size _ a w.drew (by simp) (cl ops) h1
  rw [e1 ops st, show ops.size + 1 = (ops.push st).size by simp] at h2
  have h3 := pop_sound hf2 hl2 (ops.push st).size _ a w.drew (by simp) (cl _) h2
  rw [e1 (ops.push st) sl, show (ops.push st).size + 1 = ((ops.push st).push sl).size by simp] at h3
  exact h3

end Go.Proofs.Ythgelfnflafoiaf

namespace Go.Proofs.Ythgelfnflafoiaf
open Go.RowKit

theorem fitB_no {l : Lg} {h : Int} (k : l.1 < 0 ∨ l.2.1 ≤ l.1 ∨ h < l.2.1 ∨ inR l.2.2.1 1 50 = false ∨ inR l.2.2.2 0 1000 = false) : fitB l h = false := by
  rw [← Bool.not_eq_true, fitB_iff]
  rintro ⟨h1, h2, h3⟩
  rcases k with k | k | k | k | k
  · omega
  · omega
  · omega
  · rw [(inR_iff _ _ _).2 h2] at k; simp at k
  · rw [(inR_iff _ _ _).2 h3] at k; simp at k
theorem fitB_yes {l : Lg} {h : Int} (k1 : ¬ l.1 < 0) (k2 : ¬ l.2.1 ≤ l.1) (k3 : ¬ h < l.2.1) (k4 : inR l.2.2.1 1 50 = true) (k5 : inR l.2.2.2 0 1000 = true) : fitB l h = true :=
  (fitB_iff l h).2 ⟨⟨by omega, by omega, by omega⟩, (inR_iff _ _ _).1 k4, (inR_iff _ _ _).1 k5⟩

end Go.Proofs.Ythgelfnflafoiaf

namespace Go.Proofs.Ythgelfnflafoiaf
open Go.RowKit

theorem jalive_any (a b t : Int) (w : World) : Calls Try.prog 25 #[.agg #[.int .i64 a, .int .i64 b], .int .i64 t] w fun e w' => e = .returned (.bool (hasB a b t)) ∧ Below w.heap.size w w' := by
  have HB := hideg (gal w)
  by_cases g1 : a ≤ t
  · by_cases g2 : t < b
    · have HC := hideg ((hasB_iff a b t).2 ⟨g1, g2⟩)
      go_enter Try.func25, Try.ntmps25
      go_wp2
      go_ret
      exact ⟨ret_bool HC.out.symm, HB.out _⟩
    · have HC := hideg (hasB_no (a := a) (b := b) (t := t) (fun h => g2 h.2))
      go_enter Try.func25, Try.ntmps25
      go_wp2
      go_ret
      exact ⟨ret_bool HC.out.symm, HB.out _⟩
  · have HC := hideg (hasB_no (a := a) (b := b) (t := t) (fun h => g1 h.1))
    go_enter Try.func25, Try.ntmps25
    go_wp2
    go_ret
    exact ⟨ret_bool HC.out.symm, HB.out _⟩

set_option maxHeartbeats 1000000 in
theorem jwaits_any (a b s t : Int) (w : World) : Calls Try.prog 28 #[.agg #[.int .i64 a, .int .i64 b], .int .i64 s, .int .i64 t] w fun e w' => e = .returned (.bool (decide (s ≤ t) && (hasB a b s && hasB a b t))) ∧ Below w.heap.size w w' := by
  have HB := hideg (gal w (.cells #[.int .i64 a, .int .i64 b] 55))
  by_cases g1 : s ≤ t
  · have HD : Hid (decide (s ≤ t) = true) := by show _ = _; simpa using g1
    have h1 := fun W => jalive_any a b s W
    have h2 := fun W => jalive_any a b t W
    cases e1 : hasB a b s with
    | false =>
      rw [e1] at h1
      go_enter Try.func28, Try.ntmps28
      go_wp2_with (go_at_call 25; refine (h1 _).mono ?_; rintro e w1 ⟨rfl, hb1⟩)
      go_ret
      exact ⟨by rw [HD.out]; rfl, ptg HB.out (by assumption)⟩
    | true =>
      rw [e1] at h1
      cases e2 : hasB a b t <;> rw [e2] at h2
      all_goals
        go_enter Try.func28, Try.ntmps28
        go_wp2_with fail
        refine (h1 _).mono ?_
        rintro e w1 ⟨rfl, hb1⟩
        have c0 : w1.cell? ⟨w.heap.size, 0, none⟩ = some (.int .i64 a) := by rw [hb1.cell (p := ⟨w.heap.size, 0, none⟩) (by simp)]; simp
        have c1 : w1.cell? ⟨w.heap.size, 1, none⟩ = some (.int .i64 b) := by rw [hb1.cell (p := ⟨w.heap.size, 1, none⟩) (by simp)]; simp
        have hbb := ptg HB.out hb1
        clear hb1 h1
        go_wp2_with fail
        refine (h2 _).mono ?_
        rintro e w2 ⟨rfl, hb2⟩
        have hbF := ptg hbb hb2
        clear hb2 h2
        go_wp2
        go_ret
        exact ⟨by rw [HD.out]; rfl, hbF⟩
  · have HD : Hid (decide (s ≤ t) = false) := by show _ = _; simpa using g1
    go_enter Try.func28, Try.ntmps28
    go_wp2
    go_ret
    exact ⟨by rw [HD.out]; rfl, HB.out⟩

/-- a graph in a box of the program -/
structure GBx (w W : World) (B : Nat) (g : Gr) (la ea : Option Addr) (lc ec : Nat) : Prop where
  c0 : W.cell? ⟨B, 0, none⟩ = some (.int .i64 g.hor)
  c1 : W.cell? ⟨B, 1, none⟩ = some (.slice la g.lives.length lc)
  c2 : W.cell? ⟨B, 2, none⟩ = some (.slice ea g.edges.length ec)
  bel : Below w.heap.size w W
  lt : B < W.heap.size
theorem gbx_start (w : World) (g : Gr) (la ea : Option Addr) (lc ec : Nat) (T : TypeId) : GBx w (w.alloc (.cells #[.int .i64 g.hor, .slice la g.lives.length lc, .slice ea g.edges.length ec] T)) w.heap.size g la ea lc ec :=
  ⟨by simp, by simp, by simp, gal w _, by simp⟩
theorem GBx.below {w W W' : World} {B : Nat} {g : Gr} {la ea : Option Addr} {lc ec : Nat} (h : GBx w W B g la ea lc ec) (hb : Below W.heap.size W W') : GBx w W' B g la ea lc ec :=
  ⟨(hb.cell (p := ⟨B, 0, none⟩) h.lt).trans h.c0, (hb.cell (p := ⟨B, 1, none⟩) h.lt).trans h.c1, (hb.cell (p := ⟨B, 2, none⟩) h.lt).trans h.c2, ptg h.bel hb, Nat.lt_of_lt_of_le h.lt hb.size⟩

theorem placeE_chk {g : Gr} {v t : Int} (h : gChk g ≠ 0) : placeE g v t = gChk g := by unfold placeE; rw [if_neg h]
theorem placeE_none {g : Gr} {v t : Int} (h : gChk g = 0) (k : ¬ (0 ≤ v ∧ v < g.lives.length)) : placeE g v t = 4 := by unfold placeE; rw [if_pos h, if_neg (by rw [inR_iff]; omega)]
theorem placeE_arg {g : Gr} {v t : Int} (h : gChk g = 0) (k : 0 ≤ v ∧ v < g.lives.length) (k2 : ¬ (0 ≤ t ∧ t < g.hor)) : placeE g v t = 1 := by unfold placeE; rw [if_pos h, if_pos (by rw [inR_iff]; omega), if_neg (by rw [inR_iff]; omega)]
theorem placeE_ok {g : Gr} {v t : Int} (h : gChk g = 0) (k : 0 ≤ v ∧ v < g.lives.length) (k2 : 0 ≤ t ∧ t < g.hor) : placeE g v t = 0 := by unfold placeE; rw [if_pos h, if_pos (by rw [inR_iff]; omega), if_pos (by rw [inR_iff]; omega)]

set_option maxRecDepth 100000 in
set_option maxHeartbeats 2000000 in
theorem jcheck_any (g : Gr) (la ea : Option Addr) (lc ec : Nat) (v t : Int) (w : World) (hG : GAt w la ea g) :
    Calls Try.prog 24 #[.agg #[.int .i64 g.hor, .slice la g.lives.length lc, .slice ea g.edges.length ec], .int .i64 v, .int .i64 t] w fun r w' => r = .returned (.int .i64 (placeE g v t)) ∧ Below w.heap.size w w' := by
  have B0 := gbx_start w g la ea lc ec 25
  have h1 := gCheck_any g la ea lc ec _ (hG.below B0.bel)
  by_cases e1 : gChk g = 0
  · have hR := gChk_right e1
    have hl12 := hR.lvs
    have hh := hR.hor
    have hv := fun W => gHasV_any g.hor la ea g.lives.length lc g.edges.length ec v W hl12
    have ht := fun W => gHasT_any g.hor la ea g.lives.length lc g.edges.length ec t W hh.1 hh.2
    have HQ : Hid (placeE g v t = if inR v 0 ((g.lives.length : Int) - 1) = true then if inR t 0 (g.hor - 1) = true then 0 else 1 else 4) := by show _ = _; unfold placeE; rw [if_pos e1]
    rw [e1] at h1
    clear hG e1 hR hh
    cases bv : inR v 0 ((g.lives.length : Int) - 1) with
    | false =>
      rw [bv] at hv HQ
      clear bv ht
      go_enter Try.func24, Try.ntmps24
      go_wp2_with fail
      refine h1.mono ?_
      rintro e w1 ⟨rfl, hb1⟩
      have B1 := B0.below hb1
      have cc0 := B1.c0
      have cc1 := B1.c1
      have cc2 := B1.c2
      clear h1 hb1 B0
      go_wp2_with fail
      refine (hv _).mono ?_
      rintro e w2 ⟨rfl, hb2⟩
      have hbF := (B1.below hb2).bel
      clear hv hb2 B1 cc0 cc1 cc2
      go_wp2
      go_ret
      exact ⟨ret_int HQ.out.symm, by assumption⟩
    | true =>
      rw [bv] at hv HQ
      cases bt : inR t 0 (g.hor - 1) <;> rw [bt] at ht HQ
      all_goals
        clear bv bt
        go_enter Try.func24, Try.ntmps24
        go_wp2_with fail
        refine h1.mono ?_
        rintro e w1 ⟨rfl, hb1⟩
        have B1 := B0.below hb1
        have cc0 := B1.c0
        have cc1 := B1.c1
        have cc2 := B1.c2
        clear h1 hb1 B0
        go_wp2_with fail
        refine (hv _).mono ?_
        rintro e w2 ⟨rfl, hb2⟩
        have B2 := B1.below hb2
        clear hv hb2 B1 cc0 cc1 cc2
        have cc0 := B2.c0
        have cc1 := B2.c1
        have cc2 := B2.c2
        go_wp2_with fail
        refine (ht _).mono ?_
        rintro e w3 ⟨rfl, hb3⟩
        have hbF := (B2.below hb3).bel
        clear ht hb3 B2 cc0 cc1 cc2
        go_wp2
        go_ret
        exact ⟨ret_int HQ.out.symm, by assumption⟩
  · have HP := hideg (placeE_chk (v := v) (t := t) e1)
    have d1 : (gChk g != 0) = true := by simpa using e1
    generalize gChk g = n at *
    clear hG e1
    go_enter Try.func24, Try.ntmps24
    go_wp2_with fail
    refine h1.mono ?_
    rintro e w1 ⟨rfl, hb1⟩
    have hbF := (B0.below hb1).bel
    clear h1 hb1 B0
    go_wp2
    go_ret
    exact ⟨ret_int HP.out.symm, hbF⟩

end Go.Proofs.Ythgelfnflafoiaf

namespace Go.Proofs.Ythgelfnflafoiaf
open Go.RowKit

theorem wrap_nj (n : Int) (h0 : -9223372036854775808 ≤ n) (h1 : n < 9223372036854775808) : IntKind.i64.wrap n = n := by
  simp only [IntKind.wrap, IntKind.bits, IntKind.signed]
  simp
  omega
theorem set3 {w W : World} (h : Below w.heap.size w W) {b : Nat} (hb : w.heap.size ≤ b) (x y z : Value) : Below w.heap.size w (((W.setCell ⟨b, 0, none⟩ x).setCell ⟨b, 1, none⟩ y).setCell ⟨b, 2, none⟩ z) :=
  ((h.setCell (p := ⟨b, 0, none⟩) hb _).setCell (p := ⟨b, 1, none⟩) hb _).setCell (p := ⟨b, 2, none⟩) hb _
/-- what next hands back -/
def nextV (q : Int × Int × Int) (b : Bool) : Value := .tuple #[.agg #[.int .i64 q.1, .int .i64 q.2.1, .int .i64 q.2.2], .bool b]

theorem new_cell {W : World} {cs : Array Value} {T : TypeId} {b j : Nat} {x : Value} (hb : b = W.heap.size) (hx : cs[j]? = some x) : (W.alloc (.cells cs T)).cell? ⟨b, j, none⟩ = some x := by subst hb; simp [hx]
theorem new_frozen {W : World} {cs : Array Value} {T : TypeId} {b j : Nat} (hb : b = W.heap.size) : (W.alloc (.cells cs T)).frozen? ⟨b, j, none⟩ = false := by subst hb; simp
/-- the boxes of a call of next -/
structure NB (w W : World) (N : Nat) (g : Gr) (la ea : Option Addr) (lc ec : Nat) (v t c E d A B : Int) : Prop where
  g0 : W.cell? ⟨N, 0, none⟩ = some (.int .i64 g.hor)
  g1 : W.cell? ⟨N, 1, none⟩ = some (.slice la g.lives.length lc)
  g2 : W.cell? ⟨N, 2, none⟩ = some (.slice ea g.edges.length ec)
  s0 : W.cell? ⟨N + 1, 0, none⟩ = some (.int .i64 v)
  s1 : W.cell? ⟨N + 1, 1, none⟩ = some (.int .i64 t)
  s2 : W.cell? ⟨N + 1, 2, none⟩ = some (.int .i64 c)
  h0 : W.cell? ⟨N + 1 + 1, 0, none⟩ = some (.int .i64 E)
  h1 : W.cell? ⟨N + 1 + 1, 1, none⟩ = some (.int .i64 d)
  r0 : W.cell? ⟨N + 1 + 1 + 1, 0, none⟩ = some (.int .i64 0)
  r1 : W.cell? ⟨N + 1 + 1 + 1, 1, none⟩ = some (.int .i64 0)
  r2 : W.cell? ⟨N + 1 + 1 + 1, 2, none⟩ = some (.int .i64 0)
  fz : ∀ j, W.frozen? ⟨N + 1 + 1 + 1, j, none⟩ = false
  e0 : W.cell? ⟨N + 1 + 1 + 1 + 1, 0, none⟩ = some (.int .i64 A)
  e1 : W.cell? ⟨N + 1 + 1 + 1 + 1, 1, none⟩ = some (.int .i64 B)
  bel : Below w.heap.size w W
  lt : N + 1 + 1 + 1 + 1 < W.heap.size
theorem NB.below {w W W' : World} {N : Nat} {g : Gr} {la ea : Option Addr} {lc ec : Nat} {v t c E d A B : Int} (h : NB w W N g la ea lc ec v t c E d A B) (hb : Below W.heap.size W W') : NB w W' N g la ea lc ec v t c E d A B := by
  have hl := h.lt
  have hs := hb.size
  have q : ∀ b j x, b < W.heap.size → W.cell? ⟨b, j, none⟩ = some x → W'.cell? ⟨b, j, none⟩ = some x := fun b j x hlt hx => (hb.cell (p := ⟨b, j, none⟩) hlt).trans hx
  exact ⟨q _ _ _ (by omega) h.g0, q _ _ _ (by omega) h.g1, q _ _ _ (by omega) h.g2, q _ _ _ (by omega) h.s0, q _ _ _ (by omega) h.s1, q _ _ _ (by omega) h.s2, q _ _ _ (by omega) h.h0, q _ _ _ (by omega) h.h1, q _ _ _ (by omega) h.r0, q _ _ _ (by omega) h.r1, q _ _ _ (by omega) h.r2, fun j => (hb.frozen (p := ⟨N + 1 + 1 + 1, j, none⟩) (by simp only; omega)).trans (h.fz j), q _ _ _ (by omega) h.e0, q _ _ _ (by omega) h.e1, ptg h.bel hb, by omega⟩
theorem nb_start (w : World) (g : Gr) (la ea lo : Option Addr) (lc ec n lcap : Nat) (v t c E d A B : Int) (T1 T2 T3 T4 : TypeId) :
    NB w (((((w.alloc (.cells #[.int .i64 g.hor, .slice la g.lives.length lc, .slice ea g.edges.length ec] T1)).alloc (.cells #[.int .i64 v, .int .i64 t, .int .i64 c] T2)).alloc (.cells #[.int .i64 E, .int .i64 d] T3)).alloc (.cells #[.int .i64 0, .int .i64 0, .int .i64 0] T2)).alloc (.cells #[.int .i64 A, .int .i64 B, .slice lo n lcap] T4)) w.heap.size g la ea lc ec v t c E d A B :=
  ⟨by rw [(gal _ _).cell (by simp <;> omega)]; rw [(gal _ _).cell (by simp <;> omega)]; rw [(gal _ _).cell (by simp <;> omega)]; rw [(gal _ _).cell (by simp <;> omega)]; exact new_cell (by simp) rfl, by rw [(gal _ _).cell (by simp <;> omega)]; rw [(gal _ _).cell (by simp <;> omega)]; rw [(gal _ _).cell (by simp <;> omega)]; rw [(gal _ _).cell (by simp <;> omega)]; exact new_cell (by simp) rfl, by rw [(gal _ _).cell (by simp <;> omega)]; rw [(gal _ _).cell (by simp <;> omega)]; rw [(gal _ _).cell (by simp <;> omega)]; rw [(gal _ _).cell (by simp <;> omega)]; exact new_cell (by simp) rfl, by rw [(gal _ _).cell (by simp <;> omega)]; rw [(gal _ _).cell (by simp <;> omega)]; rw [(gal _ _).cell (by simp <;> omega)]; exact new_cell (by simp) rfl, by rw [(gal _ _).cell (by simp <;> omega)]; rw [(gal _ _).cell (by simp <;> omega)]; rw [(gal _ _).cell (by simp <;> omega)]; exact new_cell (by simp) rfl, by rw [(gal _ _).cell (by simp <;> omega)]; rw [(gal _ _).cell (by simp <;> omega)]; rw [(gal _ _).cell (by simp <;> omega)]; exact new_cell (by simp) rfl, by rw [(gal _ _).cell (by simp <;> omega)]; rw [(gal _ _).cell (by simp <;> omega)]; exact new_cell (by simp) rfl, by rw [(gal _ _).cell (by simp <;> omega)]; rw [(gal _ _).cell (by simp <;> omega)]; exact new_cell (by simp) rfl, by rw [(gal _ _).cell (by simp <;> omega)]; exact new_cell (by simp) rfl, by rw [(gal _ _).cell (by simp <;> omega)]; exact new_cell (by simp) rfl, by rw [(gal _ _).cell (by simp <;> omega)]; exact new_cell (by simp) rfl, fun j => by rw [(gal _ _).frozen (by simp <;> omega)]; exact new_frozen (by simp), by exact new_cell (by simp) rfl, by exact new_cell (by simp) rfl, ptg (ptg (ptg (ptg (gal _ _) (gal _ _)) (gal _ _)) (gal _ _)) (gal _ _), by simp⟩

set_option maxRecDepth 100000 in
set_option maxHeartbeats 8000000 in
theorem next_any (g : Gr) (la ea : Option Addr) (lc ec : Nat) (s : Int × Int × Int) (h : Hp) (R : Right g) (hv0 : 0 ≤ s.1) (hv1 : s.1 < g.lives.length) (hc0 : 0 ≤ s.2.2) (hc1 : s.2.2 ≤ 1000000) :
    ∃ q : Int × Int × Int, (∀ s', nextF g s h = some s' → q = s') ∧ ∀ w : World, GAt w la ea g →
      Calls Try.prog 26 #[.agg #[.int .i64 g.hor, .slice la g.lives.length lc, .slice ea g.edges.length ec], .agg #[.int .i64 s.1, .int .i64 s.2.1, .int .i64 s.2.2], .agg #[.int .i64 h.1, .int .i64 h.2]] w fun r w' => r = .returned (nextV q (nextF g s h).isSome) ∧ Below w.heap.size w w' := by
  have HB : Hid (∀ (w : World) o1 o2 o3 o4, Below w.heap.size w ((((w.alloc o1).alloc o2).alloc o3).alloc o4)) := fun w o1 o2 o3 o4 => ptg (ptg (ptg (gal w o1) (gal _ o2)) (gal _ o3)) (gal _ o4)
  by_cases k0 : 0 ≤ h.1 ∧ h.1 < g.edges.length
  case neg =>
    have HN := hideg (nextF_out (s := s) k0)
    refine ⟨(0, 0, 0), fun s' e => (by rw [HN.out] at e; cases e), fun w hG => ?_⟩
    rw [HN.out]
    have hor : h.1 < 0 ∨ (¬ h.1 < 0 ∧ (g.edges.length : Int) ≤ h.1) := by omega
    clear k0 hG R
    rcases hor with k1 | ⟨k1, k2⟩
    all_goals
      go_enter Try.func26, Try.ntmps26
      go_wp2
      refine bodyPost_ret (v := nextV (0, 0, 0) false) (by simp [results, Try.results26, go_sem, nextV]) rfl ⟨rfl, ?_⟩
      exact HB.out _ _ _ _ _
  obtain ⟨E, eE⟩ : ∃ E : Nat, h.1 = (E : Int) := ⟨h.1.toNat, by omega⟩
  have hE : E < g.edges.length := by omega
  have hk0 : ¬ h.1 < 0 := by omega
  have hk1 : ¬ (g.edges.length : Int) ≤ h.1 := by omega
  have hem : g.edges[E] ∈ g.edges := List.getElem_mem hE
  obtain ⟨hA, hBe, hln⟩ := R.ends _ hem
  have hed := R.eds
  have hlv := R.lvs
  have hhor := R.hor
  have HNo := hideg (fun k => nextF_no (g := g) (s := s) eE hE k)
  have HLeg := hideg (fun l k1 k2 k3 k4 k5 => nextF_leg R (s := s) (h := h) (l := l) eE hE k1 k2 k3 k4 k5)
  have HFit : Hid (∀ l, lgFind h.2 g.edges[E].2.2 = some l → (0 ≤ h.2 ∧ h.2 < 100) ∧ (0 ≤ l.2.2.1 ∧ l.2.2.1 ≤ 50) ∧ 0 ≤ l.2.2.2 ∧ l.2.2.2 ≤ 1000) := by
    intro l hl
    obtain ⟨h1, h2, h3⟩ := lgFind_mem hl
    have := (fitB_iff _ _).1 (R.legs _ hem l h1)
    omega
  have HEd : Hid (∀ w, GAt w la ea g → ∃ b off lo lcap, ea = some ⟨b, off, none⟩ ∧ b < w.heap.size ∧ w.cell? ⟨b, off + E * 3, none⟩ = some (.int .i64 g.edges[E].1) ∧ w.cell? ⟨b, off + E * 3 + 1, none⟩ = some (.int .i64 g.edges[E].2.1) ∧ w.cell? ⟨b, off + E * 3 + 2, none⟩ = some (.slice lo g.edges[E].2.2.length lcap) ∧ LgAt w lo g.edges[E].2.2) := by
    intro w hG
    rcases hG.ed with h0 | ⟨b, off, rfl, hbr, hc⟩
    · rw [h0] at hE; simp at hE
    obtain ⟨c0, c1, lo, lcap, c2, hL, _, _⟩ := hc E hE
    exact ⟨b, off, lo, lcap, rfl, hbr, c0, c1, c2, hL⟩
  have hEi : (E : Int) < (g.edges.length : Int) := by omega
  have hE0 : (0 : Int) ≤ (E : Int) := by omega
  generalize hed' : g.edges[E] = ed at *
  clear hed' hem
  obtain ⟨A, B, legs⟩ := ed
  simp only at hA hBe hln HNo HLeg HFit HEd
  rw [eE] at hk0 hk1
  obtain ⟨h1, ht⟩ := h
  simp only at eE
  subst eE
  obtain ⟨v, t0, c0⟩ := s
  simp only at hv0 hv1 hc0 hc1 HNo HLeg HFit HEd ⊢
  clear k0
  cases hf : lgFind ht legs with
  | none =>
    have HN := hideg (HNo.out (.inl hf))
    refine ⟨(0, 0, 0), fun s' e => (by rw [HN.out] at e; cases e), fun w hG => ?_⟩
    rw [HN.out]
    have hB4 := HB.out w (.cells #[.int .i64 g.hor, .slice la g.lives.length lc, .slice ea g.edges.length ec] 25) (.cells #[.int .i64 v, .int .i64 t0, .int .i64 c0] 52) (.cells #[.int .i64 (E : Int), .int .i64 ht] 37) (.cells #[.int .i64 0, .int .i64 0, .int .i64 0] 52)
    obtain ⟨b, off, lo, lcap, rfl, hbr, c0', c1', c2', hL⟩ := HEd.out _ (hG.below hB4)
    have hLg := fun W (hb : Below _ _ W) => legAt_any A B lo lcap legs ht W (hL.below hb) (by omega)
    simp only [hf] at hLg
    unfold legV at hLg
    simp only [Option.getD_none, Option.isSome_none] at hLg
    clear hf hG R HNo HLeg HFit HEd
    go_enter Try.func26, Try.ntmps26
    go_wp2_with fail
    refine (hLg _ (gal _ _)).mono ?_
    rintro r w1 ⟨rfl, hb1⟩
    have N2 := ((nb_start w g la (some ⟨b, off, none⟩) lo lc ec legs.length lcap v t0 c0 E ht A B 25 52 37 73).below hb1).below (gal w1 (.cells #[.int .i64 0, .int .i64 0, .int .i64 0, .int .i64 0] 70))
    have r0 := N2.r0
    have r1 := N2.r1
    have r2 := N2.r2
    have fz := N2.fz
    have lt := N2.lt
    have hbF := N2.bel
    clear hLg hb1 c0' c1' c2' hL hB4 N2
    go_wp2
    go_quiet (fail)
    go_wp2
    refine bodyPost_ret (v := nextV (0, 0, 0) false) (by simp [results, Try.results26, go_sem, nextV, r0, r1, r2]) rfl ⟨rfl, ?_⟩
    exact set3 (below_drewN hbF _) (by omega) _ _ _
  | some l =>
    obtain ⟨⟨hd0, hd1⟩, ⟨hl0, hl1⟩, hl2, hl3⟩ := HFit.out l hf
    obtain ⟨V, rfl⟩ : ∃ V : Nat, v = (V : Int) := ⟨v.toNat, by omega⟩
    obtain ⟨Bn, rfl⟩ : ∃ V : Nat, B = (V : Int) := ⟨B.toNat, by omega⟩
    have hV : V < g.lives.length := by omega
    have hBn : Bn < g.lives.length := by omega
    have HLv : Hid (∀ (k : Nat) (hk : k < g.lives.length) w, GAt w la ea g → ∃ b off, la = some ⟨b, off, none⟩ ∧ b < w.heap.size ∧ w.cell? ⟨b, off + k * 2, none⟩ = some (.int .i64 g.lives[k].1) ∧ w.cell? ⟨b, off + k * 2 + 1, none⟩ = some (.int .i64 g.lives[k].2)) := by
      intro k hk w hG
      rcases hG.lv with h0 | ⟨b, off, rfl, hbr, hc⟩
      · rw [h0] at hk; simp at hk
      exact ⟨b, off, rfl, hbr, IvAt.get hk hc⟩
    have hAV := fun x => aliveB_at x g.lives V hV
    have hAB := fun x => aliveB_at x g.lives Bn hBn
    have HLV := hideg (HLv.out V hV)
    have HLB := hideg (HLv.out Bn hBn)
    generalize g.lives[V] = p1 at *
    generalize g.lives[Bn] = p2 at *
    obtain ⟨a1, b1⟩ := p1
    obtain ⟨a2, b2⟩ := p2
    simp only at hAV hAB HLV HLB
    have hVi : (V : Int) < (g.lives.length : Int) := by omega
    have hV0 : (0 : Int) ≤ (V : Int) := by omega
    have hBi : (Bn : Int) < (g.lives.length : Int) := by omega
    have hB0 : (0 : Int) ≤ (Bn : Int) := by omega
    by_cases hav : A = (V : Int)
    case neg =>
      have HN := hideg (HNo.out (.inr (.inl hav)))
      have d1 : (A != (V : Int)) = true := by simpa using hav
      refine ⟨(0, 0, 0), fun s' e => (by rw [HN.out] at e; cases e), fun w hG => ?_⟩
      rw [HN.out]
      have hB4 := HB.out w (.cells #[.int .i64 g.hor, .slice la g.lives.length lc, .slice ea g.edges.length ec] 25) (.cells #[.int .i64 (V : Int), .int .i64 t0, .int .i64 c0] 52) (.cells #[.int .i64 (E : Int), .int .i64 ht] 37) (.cells #[.int .i64 0, .int .i64 0, .int .i64 0] 52)
      obtain ⟨b, off, lo, lcap, rfl, hbr, c0', c1', c2', hL⟩ := HEd.out _ (hG.below hB4)
      have hLg := fun W (hb : Below _ _ W) => legAt_any A Bn lo lcap legs ht W (hL.below hb) (by omega)
      simp only [hf] at hLg
      unfold legV at hLg
      simp only [Option.getD_some, Option.isSome_some] at hLg
      clear hf R HNo HLeg HFit HEd
      go_enter Try.func26, Try.ntmps26
      go_wp2_with fail
      refine (hLg _ (gal _ _)).mono ?_
      rintro r w1 ⟨rfl, hb1⟩
      have N2 := ((nb_start w g la (some ⟨b, off, none⟩) lo lc ec legs.length lcap V t0 c0 E ht A Bn 25 52 37 73).below hb1).below (gal w1 (.cells #[.int .i64 l.1, .int .i64 l.2.1, .int .i64 l.2.2.1, .int .i64 l.2.2.2] 70))
      have lg2 : (w1.alloc (.cells #[.int .i64 l.1, .int .i64 l.2.1, .int .i64 l.2.2.1, .int .i64 l.2.2.2] 70)).cell? ⟨w1.heap.size, 2, none⟩ = some (.int .i64 l.2.2.1) := new_cell rfl rfl
      have lg3 : (w1.alloc (.cells #[.int .i64 l.1, .int .i64 l.2.1, .int .i64 l.2.2.1, .int .i64 l.2.2.2] 70)).cell? ⟨w1.heap.size, 3, none⟩ = some (.int .i64 l.2.2.2) := new_cell rfl rfl
      have ltL : w1.heap.size < (w1.alloc (.cells #[.int .i64 l.1, .int .i64 l.2.1, .int .i64 l.2.2.1, .int .i64 l.2.2.2] 70)).heap.size := by simp
      clear hLg hb1 c0' c1' c2' hL hB4
      have N3 := N2
      have hbF := N3.bel
      have r0 := N3.r0
      have r1 := N3.r1
      have r2 := N3.r2
      have fz := N3.fz
      have lt := N3.lt
      have e0 := N2.e0
      have s0 := N2.s0
      clear N2 N3 HLV HLB HLv
      go_wp2
      go_quiet (fail)
      go_wp2
      refine bodyPost_ret (v := nextV (0, 0, 0) false) (by simp [results, Try.results26, go_sem, nextV, r0, r1, r2]) rfl ⟨rfl, ?_⟩
      exact set3 (below_drewN hbF _) (by omega) _ _ _
    subst hav
    cases hW : (decide (t0 ≤ ht) && (hasB a1 b1 t0 && hasB a1 b1 ht)) with
    | false =>
      have HN : Hid (nextF g ((V : Int), t0, c0) ((E : Int), ht) = none) := by
        refine HNo.out (.inr (.inr ?_))
        rw [hAV, hAV]
        by_cases k1 : t0 ≤ ht
        · rw [decide_eq_true k1, Bool.true_and, Bool.and_eq_false_iff] at hW
          exact .inr hW
        · exact .inl k1
      refine ⟨(0, 0, 0), fun s' e => (by rw [HN.out] at e; cases e), fun w hG => ?_⟩
      rw [HN.out]
      have hWt := fun W => jwaits_any a1 b1 t0 ht W
      rw [hW] at hWt
      have hB4 := HB.out w (.cells #[.int .i64 g.hor, .slice la g.lives.length lc, .slice ea g.edges.length ec] 25) (.cells #[.int .i64 (V : Int), .int .i64 t0, .int .i64 c0] 52) (.cells #[.int .i64 (E : Int), .int .i64 ht] 37) (.cells #[.int .i64 0, .int .i64 0, .int .i64 0] 52)
      obtain ⟨b, off, lo, lcap, rfl, hbr, c0', c1', c2', hL⟩ := HEd.out _ (hG.below hB4)
      have hLg := fun W (hb : Below _ _ W) => legAt_any V Bn lo lcap legs ht W (hL.below hb) (by omega)
      simp only [hf] at hLg
      unfold legV at hLg
      simp only [Option.getD_some, Option.isSome_some] at hLg
      clear hf R HNo HLeg HFit HEd
      go_enter Try.func26, Try.ntmps26
      go_wp2_with fail
      refine (hLg _ (gal _ _)).mono ?_
      rintro r w1 ⟨rfl, hb1⟩
      have N2 := ((nb_start w g la (some ⟨b, off, none⟩) lo lc ec legs.length lcap V t0 c0 E ht V Bn 25 52 37 73).below hb1).below (gal w1 (.cells #[.int .i64 l.1, .int .i64 l.2.1, .int .i64 l.2.2.1, .int .i64 l.2.2.2] 70))
      have lg2 : (w1.alloc (.cells #[.int .i64 l.1, .int .i64 l.2.1, .int .i64 l.2.2.1, .int .i64 l.2.2.2] 70)).cell? ⟨w1.heap.size, 2, none⟩ = some (.int .i64 l.2.2.1) := new_cell rfl rfl
      have lg3 : (w1.alloc (.cells #[.int .i64 l.1, .int .i64 l.2.1, .int .i64 l.2.2.1, .int .i64 l.2.2.2] 70)).cell? ⟨w1.heap.size, 3, none⟩ = some (.int .i64 l.2.2.2) := new_cell rfl rfl
      have ltL : w1.heap.size < (w1.alloc (.cells #[.int .i64 l.1, .int .i64 l.2.1, .int .i64 l.2.2.1, .int .i64 l.2.2.2] 70)).heap.size := by simp
      clear hLg hb1 c0' c1' c2' hL hB4
      go_wp2_with fail
      generalize w1.alloc (.cells #[.int .i64 l.1, .int .i64 l.2.1, .int .i64 l.2.2.1, .int .i64 l.2.2.2] 70) = W0 at *
      obtain ⟨lb, lof, rfl, hlb, lv0, lv1⟩ := HLV.out W0 (hG.below N2.bel)
      have hne : Nonempty (HeldIn W0) := ⟨⟨W0, Below.refl _ _⟩⟩
      have f0 : ∀ s : HeldIn W0, s.w.cell? ⟨w.heap.size, 1, none⟩ = some (.slice (some ⟨lb, lof, none⟩) g.lives.length lc) := fun s => (N2.below s.h).g1
      have f1 : ∀ s : HeldIn W0, s.w.cell? ⟨w.heap.size + 1, 0, none⟩ = some (.int .i64 V) := fun s => (N2.below s.h).s0
      have f2 : ∀ s : HeldIn W0, s.w.cell? ⟨w.heap.size + 1, 1, none⟩ = some (.int .i64 t0) := fun s => (N2.below s.h).s1
      have f3 : ∀ s : HeldIn W0, s.w.cell? ⟨w.heap.size + 1 + 1, 1, none⟩ = some (.int .i64 ht) := fun s => (N2.below s.h).h1
      have f4 : ∀ s : HeldIn W0, s.w.cell? ⟨w.heap.size + 1 + 1 + 1 + 1, 0, none⟩ = some (.int .i64 V) := fun s => (N2.below s.h).e0
      have f5 : ∀ s : HeldIn W0, s.w.cell? ⟨lb, lof + V * 2, none⟩ = some (.int .i64 a1) := fun s => (s.h.cell (p := ⟨lb, lof + V * 2, none⟩) hlb).trans lv0
      have f6 : ∀ s : HeldIn W0, s.w.cell? ⟨lb, lof + V * 2 + 1, none⟩ = some (.int .i64 b1) := fun s => (s.h.cell (p := ⟨lb, lof + V * 2 + 1, none⟩) hlb).trans lv1
      have HN2 := hideg N2
      clear N2 HLV HLB HLv hG lg2 lg3 ltL lv0 lv1
      refine wp_region_held W0 (Below.refl _ _) (by kernel_rfl) (by kernel_rfl) ?_
      repeat (go_big_quiet_step ((go_at_call 28; exact held_of (hWt _))))
      refine wpQuiet_nil ?_
      rintro _ ⟨s, rfl⟩
      have N3 := HN2.out.below s.h
      clear f0 f1 f2 f3 f4 f5 f6 hne
      generalize s.w = w3 at N3 ⊢
      have hbF := N3.bel
      have r0 := N3.r0
      have r1 := N3.r1
      have r2 := N3.r2
      have fz := N3.fz
      have lt := N3.lt
      clear N3 HN2
      go_wp2
      refine bodyPost_ret (v := nextV (0, 0, 0) false) (by simp [results, Try.results26, go_sem, nextV, r0, r1, r2]) rfl ⟨rfl, ?_⟩
      exact set3 hbF (by omega) _ _ _
    | true =>
      obtain ⟨hW1, hW2⟩ : t0 ≤ ht ∧ (hasB a1 b1 t0 = true ∧ hasB a1 b1 ht = true) := by
        rw [Bool.and_eq_true, Bool.and_eq_true, decide_eq_true_eq] at hW; exact hW
      have HN := hideg (HLeg.out l hf rfl hW1 (by rw [hAV]; exact hW2.1) (by rw [hAV]; exact hW2.2))
      rw [hAB] at HN
      refine ⟨((Bn : Int), ht + l.2.2.1, c0 + l.2.2.2), fun s' e => (by rw [HN.out] at e; split at e <;> cases e; rfl), fun w hG => ?_⟩
      have HQ : Hid ((nextF g ((V : Int), t0, c0) ((E : Int), ht)).isSome = hasB a2 b2 (ht + l.2.2.1)) := by
        show _ = _
        rw [HN.out]
        cases hasB a2 b2 (ht + l.2.2.1) <;> rfl
      rw [HQ.out]
      have hAl := fun W => jalive_any a2 b2 (ht + l.2.2.1) W
      generalize hasB a2 b2 (ht + l.2.2.1) = bF at *
      have hw1 : IntKind.i64.wrap (ht + l.2.2.1) = ht + l.2.2.1 := wrap_nj _ (by omega) (by omega)
      have hw2 : IntKind.i64.wrap (c0 + l.2.2.2) = c0 + l.2.2.2 := wrap_nj _ (by omega) (by omega)
      clear HN HQ hW1 hW2
      have hWt := fun W => jwaits_any a1 b1 t0 ht W
      rw [hW] at hWt
      have hB4 := HB.out w (.cells #[.int .i64 g.hor, .slice la g.lives.length lc, .slice ea g.edges.length ec] 25) (.cells #[.int .i64 (V : Int), .int .i64 t0, .int .i64 c0] 52) (.cells #[.int .i64 (E : Int), .int .i64 ht] 37) (.cells #[.int .i64 0, .int .i64 0, .int .i64 0] 52)
      obtain ⟨b, off, lo, lcap, rfl, hbr, c0', c1', c2', hL⟩ := HEd.out _ (hG.below hB4)
      have hLg := fun W (hb : Below _ _ W) => legAt_any V Bn lo lcap legs ht W (hL.below hb) (by omega)
      simp only [hf] at hLg
      unfold legV at hLg
      simp only [Option.getD_some, Option.isSome_some] at hLg
      clear hf R HNo HLeg HFit HEd
      go_enter Try.func26, Try.ntmps26
      go_wp2_with fail
      refine (hLg _ (gal _ _)).mono ?_
      rintro r w1 ⟨rfl, hb1⟩
      have N2 := ((nb_start w g la (some ⟨b, off, none⟩) lo lc ec legs.length lcap V t0 c0 E ht V Bn 25 52 37 73).below hb1).below (gal w1 (.cells #[.int .i64 l.1, .int .i64 l.2.1, .int .i64 l.2.2.1, .int .i64 l.2.2.2] 70))
      have lg2 : (w1.alloc (.cells #[.int .i64 l.1, .int .i64 l.2.1, .int .i64 l.2.2.1, .int .i64 l.2.2.2] 70)).cell? ⟨w1.heap.size, 2, none⟩ = some (.int .i64 l.2.2.1) := new_cell rfl rfl
      have lg3 : (w1.alloc (.cells #[.int .i64 l.1, .int .i64 l.2.1, .int .i64 l.2.2.1, .int .i64 l.2.2.2] 70)).cell? ⟨w1.heap.size, 3, none⟩ = some (.int .i64 l.2.2.2) := new_cell rfl rfl
      have ltL : w1.heap.size < (w1.alloc (.cells #[.int .i64 l.1, .int .i64 l.2.1, .int .i64 l.2.2.1, .int .i64 l.2.2.2] 70)).heap.size := by simp
      clear hLg hb1 c0' c1' c2' hL hB4
      go_wp2_with fail
      generalize w1.alloc (.cells #[.int .i64 l.1, .int .i64 l.2.1, .int .i64 l.2.2.1, .int .i64 l.2.2.2] 70) = W0 at *
      obtain ⟨lb, lof, rfl, hlb, lv0, lv1⟩ := HLV.out W0 (hG.below N2.bel)
      have hne : Nonempty (HeldIn W0) := ⟨⟨W0, Below.refl _ _⟩⟩
      have f0 : ∀ s : HeldIn W0, s.w.cell? ⟨w.heap.size, 1, none⟩ = some (.slice (some ⟨lb, lof, none⟩) g.lives.length lc) := fun s => (N2.below s.h).g1
      have f1 : ∀ s : HeldIn W0, s.w.cell? ⟨w.heap.size + 1, 0, none⟩ = some (.int .i64 V) := fun s => (N2.below s.h).s0
      have f2 : ∀ s : HeldIn W0, s.w.cell? ⟨w.heap.size + 1, 1, none⟩ = some (.int .i64 t0) := fun s => (N2.below s.h).s1
      have f3 : ∀ s : HeldIn W0, s.w.cell? ⟨w.heap.size + 1 + 1, 1, none⟩ = some (.int .i64 ht) := fun s => (N2.below s.h).h1
      have f4 : ∀ s : HeldIn W0, s.w.cell? ⟨w.heap.size + 1 + 1 + 1 + 1, 0, none⟩ = some (.int .i64 V) := fun s => (N2.below s.h).e0
      have f5 : ∀ s : HeldIn W0, s.w.cell? ⟨lb, lof + V * 2, none⟩ = some (.int .i64 a1) := fun s => (s.h.cell (p := ⟨lb, lof + V * 2, none⟩) hlb).trans lv0
      have f6 : ∀ s : HeldIn W0, s.w.cell? ⟨lb, lof + V * 2 + 1, none⟩ = some (.int .i64 b1) := fun s => (s.h.cell (p := ⟨lb, lof + V * 2 + 1, none⟩) hlb).trans lv1
      have HN2 := hideg N2
      have HLg : Hid (∀ W, Below W0.heap.size W0 W → W.cell? ⟨w1.heap.size, 2, none⟩ = some (.int .i64 l.2.2.1) ∧ W.cell? ⟨w1.heap.size, 3, none⟩ = some (.int .i64 l.2.2.2) ∧ w1.heap.size < W.heap.size) := fun W hb => ⟨(hb.cell (p := ⟨w1.heap.size, 2, none⟩) ltL).trans lg2, (hb.cell (p := ⟨w1.heap.size, 3, none⟩) ltL).trans lg3, Nat.lt_of_lt_of_le ltL hb.size⟩
      have HLB0 := hideg (HLB.out W0 (hG.below N2.bel))
      clear N2 HLV HLB HLv hG lg2 lg3 ltL lv0 lv1
      refine wp_region_held W0 (Below.refl _ _) (by kernel_rfl) (by kernel_rfl) ?_
      repeat (go_big_quiet_step ((go_at_call 28; exact held_of (hWt _))))
      refine wpQuiet_nil ?_
      rintro _ ⟨s, rfl⟩
      have N3 := HN2.out.below s.h
      obtain ⟨q2, q3, ltq⟩ := HLg.out _ s.h
      obtain ⟨lb2, lof2, elb, hlb2, lw0, lw1⟩ := HLB0.out
      simp only [Option.some.injEq, Addr.mk.injEq] at elb
      obtain ⟨rfl, rfl, _⟩ := elb
      have x0 := (s.h.cell (p := ⟨lb, lof + Bn * 2, none⟩) hlb2).trans lw0
      have x1 := (s.h.cell (p := ⟨lb, lof + Bn * 2 + 1, none⟩) hlb2).trans lw1
      have hlb3 := Nat.lt_of_lt_of_le hlb2 s.h.size
      clear f0 f1 f2 f3 f4 f5 f6 hne
      generalize s.w = w3 at N3 q2 q3 ltq x0 x1 hlb3 ⊢
      have g1 := N3.g1
      have s2 := N3.s2
      have h1 := N3.h1
      have e1 := N3.e1
      have lt := N3.lt
      clear HN2 HLg HLB0 lw0 lw1 hlb2 hWt
      go_wp2_with fail
      have N4 := N3.below (gal w3 (.cells #[.int .i64 Bn, .int .i64 (ht + l.2.2.1), .int .i64 (c0 + l.2.2.2)] 52))
      have t0' : (w3.alloc (.cells #[.int .i64 (Bn : Int), .int .i64 (ht + l.2.2.1), .int .i64 (c0 + l.2.2.2)] 52)).cell? ⟨w3.heap.size, 0, none⟩ = some (.int .i64 Bn) := new_cell rfl rfl
      have t1' : (w3.alloc (.cells #[.int .i64 (Bn : Int), .int .i64 (ht + l.2.2.1), .int .i64 (c0 + l.2.2.2)] 52)).cell? ⟨w3.heap.size, 1, none⟩ = some (.int .i64 (ht + l.2.2.1)) := new_cell rfl rfl
      have t2' : (w3.alloc (.cells #[.int .i64 (Bn : Int), .int .i64 (ht + l.2.2.1), .int .i64 (c0 + l.2.2.2)] 52)).cell? ⟨w3.heap.size, 2, none⟩ = some (.int .i64 (c0 + l.2.2.2)) := new_cell rfl rfl
      have y0 := ((gal w3 (.cells #[.int .i64 Bn, .int .i64 (ht + l.2.2.1), .int .i64 (c0 + l.2.2.2)] 52)).cell (p := ⟨lb, lof + Bn * 2, none⟩) hlb3).trans x0
      have y1 := ((gal w3 (.cells #[.int .i64 Bn, .int .i64 (ht + l.2.2.1), .int .i64 (c0 + l.2.2.2)] 52)).cell (p := ⟨lb, lof + Bn * 2 + 1, none⟩) hlb3).trans x1
      have hlb4 : lb < (w3.alloc (.cells #[.int .i64 (Bn : Int), .int .i64 (ht + l.2.2.1), .int .i64 (c0 + l.2.2.2)] 52)).heap.size := by simp; omega
      have ltT : w3.heap.size < (w3.alloc (.cells #[.int .i64 (Bn : Int), .int .i64 (ht + l.2.2.1), .int .i64 (c0 + l.2.2.2)] 52)).heap.size := by simp
      generalize w3.alloc (.cells #[.int .i64 (Bn : Int), .int .i64 (ht + l.2.2.1), .int .i64 (c0 + l.2.2.2)] 52) = W5 at *
      have hne5 : Nonempty (HeldIn W5) := ⟨⟨W5, Below.refl _ _⟩⟩
      have f0 : ∀ s : HeldIn W5, s.w.cell? ⟨w.heap.size, 1, none⟩ = some (.slice (some ⟨lb, lof, none⟩) g.lives.length lc) := fun s => (N4.below s.h).g1
      have f1 : ∀ s : HeldIn W5, s.w.cell? ⟨w3.heap.size, 0, none⟩ = some (.int .i64 Bn) := fun s => (s.h.cell (p := ⟨w3.heap.size, 0, none⟩) ltT).trans t0'
      have f2 : ∀ s : HeldIn W5, s.w.cell? ⟨w3.heap.size, 1, none⟩ = some (.int .i64 (ht + l.2.2.1)) := fun s => (s.h.cell (p := ⟨w3.heap.size, 1, none⟩) ltT).trans t1'
      have f3 : ∀ s : HeldIn W5, s.w.cell? ⟨w3.heap.size, 2, none⟩ = some (.int .i64 (c0 + l.2.2.2)) := fun s => (s.h.cell (p := ⟨w3.heap.size, 2, none⟩) ltT).trans t2'
      have f5 : ∀ s : HeldIn W5, s.w.cell? ⟨lb, lof + Bn * 2, none⟩ = some (.int .i64 a2) := fun s => (s.h.cell (p := ⟨lb, lof + Bn * 2, none⟩) hlb4).trans y0
      have f6 : ∀ s : HeldIn W5, s.w.cell? ⟨lb, lof + Bn * 2 + 1, none⟩ = some (.int .i64 b2) := fun s => (s.h.cell (p := ⟨lb, lof + Bn * 2 + 1, none⟩) hlb4).trans y1
      have HN4 := hideg N4
      clear N4 N3 t0' t1' t2' y0 y1 x0 x1 q2 q3 ltq g1 s2 h1 e1 lt
      refine wp_region_held_back2 W5 (Below.refl _ _) (by kernel_rfl) (by simp) (by kernel_rfl) (by kernel_rfl) (by kernel_rfl) (by kernel_rfl) (by kernel_rfl) ?_
      simp only [List.pop_toArray, List.dropLast, List.back!_toArray, List.getLast!]
      repeat (go_big_quiet_step ((go_at_call 25; exact held_of (hAl _))))
      refine wpQuiet_nil ?_
      rintro _ ⟨s, rfl⟩
      refine back_last (fun K hK => ?_)
      have N6 := HN4.out.below s.h
      have z0 := f1 s
      have z1 := f2 s
      have z2 := f3 s
      clear f0 f1 f2 f3 f5 f6 hne5
      generalize s.w = w6 at *
      have hbF := N6.bel
      have r0 := N6.r0
      have r1 := N6.r1
      have r2 := N6.r2
      have fz := N6.fz
      have lt := N6.lt
      clear N6 HN4
      go_simp
      refine hK.out _ _ ?_
      clear hK K
      refine back_last (fun K hK => ?_)
      go_simp
      refine hK.out _ _ ?_
      clear hK K
      go_wp2
      refine bodyPost_ret (v := nextV ((Bn : Int), ht + l.2.2.1, c0 + l.2.2.2) bF) (by simp [results, Try.results26, go_sem, nextV, r0, r1, r2]; done) rfl ⟨rfl, ?_⟩
      exact set3 hbF (by omega) _ _ _

end Go.Proofs.Ythgelfnflafoiaf

namespace Go.Proofs.Ythgelfnflafoiaf
open Go.RowKit

theorem Try.infoRide : (Try.prog.info? 61).map (fun i => (i.zero, i.size, i.bytes)) = some (some (.agg #[.int .i64 0, .int .i64 0, .int .i64 0, .int .i64 0, .int .i64 0, .int .i64 0]), 6, 48) := by kernel_rfl
theorem stopHereR {p : Prop} (h : Hid p) : p := h

/-- the values of a ride -/
def encR (c : Ri) : List Value := [.int .i64 c.1, .int .i64 c.2.1, .int .i64 c.2.2.1, .int .i64 c.2.2.2.1, .int .i64 c.2.2.2.2.1, .int .i64 c.2.2.2.2.2]
def encRs (l : List Ri) : List Value := l.flatMap encR
theorem encRs_append (a b : List Ri) : encRs (a ++ b) = encRs a ++ encRs b := by simp [encRs]
theorem encRs_length (l : List Ri) : (encRs l).length = l.length * 6 := by
  induction l with
  | nil => rfl
  | cons c l ih => simp only [encRs, List.flatMap_cons, List.length_append, List.length_cons] at ih ⊢; rw [ih]; simp [encR]; omega
def ri0 : Ri := (0, 0, 0, 0, 0, 0)
theorem encRs_get (l : List Ri) (j : Nat) (h : j < l.length) : (encRs l)[j * 6]? = some (.int .i64 (l.getD j ri0).1) ∧ (encRs l)[j * 6 + 1]? = some (.int .i64 (l.getD j ri0).2.1) ∧ (encRs l)[j * 6 + 2]? = some (.int .i64 (l.getD j ri0).2.2.1) ∧ (encRs l)[j * 6 + 3]? = some (.int .i64 (l.getD j ri0).2.2.2.1) ∧ (encRs l)[j * 6 + 4]? = some (.int .i64 (l.getD j ri0).2.2.2.2.1) ∧ (encRs l)[j * 6 + 5]? = some (.int .i64 (l.getD j ri0).2.2.2.2.2) := by
  induction l generalizing j with
  | nil => simp at h
  | cons c l ih =>
    have e : encRs (c :: l) = .int .i64 c.1 :: .int .i64 c.2.1 :: .int .i64 c.2.2.1 :: .int .i64 c.2.2.2.1 :: .int .i64 c.2.2.2.2.1 :: .int .i64 c.2.2.2.2.2 :: encRs l := by simp [encRs, encR]
    rw [e]
    cases j with
    | zero => exact ⟨rfl, rfl, rfl, rfl, rfl, rfl⟩
    | succ j =>
      have := ih j (by simpa using h)
      rw [show (j + 1) * 6 = j * 6 + 1 + 1 + 1 + 1 + 1 + 1 by omega]
      simpa using this
/-- one ride in six cells -/
structure RdOne (w : World) (b o : Nat) (r : Ri) : Prop where
  c0 : w.cell? ⟨b, o, none⟩ = some (.int .i64 r.1)
  c1 : w.cell? ⟨b, o + 1, none⟩ = some (.int .i64 r.2.1)
  c2 : w.cell? ⟨b, o + 2, none⟩ = some (.int .i64 r.2.2.1)
  c3 : w.cell? ⟨b, o + 3, none⟩ = some (.int .i64 r.2.2.2.1)
  c4 : w.cell? ⟨b, o + 4, none⟩ = some (.int .i64 r.2.2.2.2.1)
  c5 : w.cell? ⟨b, o + 5, none⟩ = some (.int .i64 r.2.2.2.2.2)
theorem RdOne.below {w w' : World} {b o : Nat} {r : Ri} (h : RdOne w b o r) (hlt : b < w.heap.size) (hb : Below w.heap.size w w') : RdOne w' b o r :=
  ⟨(hb.cell (p := ⟨b, o, none⟩) hlt).trans h.c0, (hb.cell (p := ⟨b, o + 1, none⟩) hlt).trans h.c1, (hb.cell (p := ⟨b, o + 2, none⟩) hlt).trans h.c2, (hb.cell (p := ⟨b, o + 3, none⟩) hlt).trans h.c3, (hb.cell (p := ⟨b, o + 4, none⟩) hlt).trans h.c4, (hb.cell (p := ⟨b, o + 5, none⟩) hlt).trans h.c5⟩
/-- the rides of l lie at ao, six cells each -/
def RdAt (w : World) (ao : Option Addr) (l : List Ri) : Prop :=
  l = [] ∨ ∃ b off, ao = some ⟨b, off, none⟩ ∧ b < w.heap.size ∧ ∀ j, j < l.length → RdOne w b (off + j * 6) (l.getD j ri0)
theorem RdAt.below {w w' : World} {ao : Option Addr} {l : List Ri} (h : RdAt w ao l) (hb : Below w.heap.size w w') : RdAt w' ao l := by
  rcases h with h | ⟨b, off, rfl, hlt, hc⟩
  · exact .inl h
  · exact .inr ⟨b, off, rfl, Nat.lt_of_lt_of_le hlt hb.size, fun j hj => (hc j hj).below hlt hb⟩
theorem rdAt_of_owns {w : World} {base e : Nat} {v : Value} {n : Nat} {l : List Ri} (h : w.ownsRow base e 6 v n (encRs l)) : ∃ ao cap, v = .slice ao l.length cap ∧ RdAt w ao l := by
  obtain ⟨h1, h2⟩ := h
  simp only [encRs_length] at h1
  have hn : n = l.length := by omega
  subst hn
  rcases h2 with ⟨rfl, h0⟩ | ⟨g, cap, cur, rfl, hb, hh, h3, h4, h5, h6⟩
  · exact ⟨none, 0, by rw [h0], .inl (List.eq_nil_of_length_eq_zero h0)⟩
  · have hown : w.ownsRow base e 6 (.slice (some ⟨g, 0, none⟩) l.length cap) l.length (encRs l) := ⟨by simp [encRs_length], .inr ⟨g, cap, cur, rfl, hb, hh, h3, h4, h5, h6⟩⟩
    refine ⟨_, cap, rfl, .inr ⟨g, 0, rfl, (Array.getElem?_eq_some_iff.1 hh).1, fun j hj => ?_⟩⟩
    obtain ⟨f0, f1, f2, f3, f4, f5⟩ := encRs_get l j hj
    refine ⟨?_, ?_, ?_, ?_, ?_, ?_⟩
    · rw [Nat.zero_add, hown.cellAt (j * 6) (by omega)]; exact f0
    · rw [Nat.zero_add, hown.cellAt (j * 6 + 1) (by omega)]; exact f1
    · rw [Nat.zero_add, hown.cellAt (j * 6 + 2) (by omega)]; exact f2
    · rw [Nat.zero_add, hown.cellAt (j * 6 + 3) (by omega)]; exact f3
    · rw [Nat.zero_add, hown.cellAt (j * 6 + 4) (by omega)]; exact f4
    · rw [Nat.zero_add, hown.cellAt (j * 6 + 5) (by omega)]; exact f5
/-- six cells in a new block -/
theorem cells_six_newR (w : World) (B : Nat) (t : TypeId) (x y z u v s : Value) (hB : B = w.heap.size) : ∀ j q, [x, y, z, u, v, s][j]? = some q → (w.alloc (.cells #[x, y, z, u, v, s] t)).cell? ((⟨B, 0, none⟩ : Addr).add j) = some q := by
  subst hB
  intro j q hj
  match j, hj with
  | 0, hj => simp at hj; subst hj; simp [Addr.add]
  | 1, hj => simp at hj; subst hj; simp [Addr.add]
  | 2, hj => simp at hj; subst hj; simp [Addr.add]
  | 3, hj => simp at hj; subst hj; simp [Addr.add]
  | 4, hj => simp at hj; subst hj; simp [Addr.add]
  | 5, hj => simp at hj; subst hj; simp [Addr.add]

theorem nextF_own {g : Gr} (R : Right g) {j : Nat} (hj : j < g.edges.length) (d : Int) : nextF g (g.edges[j].1, d, 0) ((j : Int), d) = (lands g g.edges[j] d).map fun q => (g.edges[j].2.1, q.1, q.2) := by
  rw [nextF_at (h := ((j : Int), d)) rfl hj]
  cases hl : lands g g.edges[j] d with
  | none => split <;> simp
  | some q => rw [if_pos ⟨(lands_lt R hj hl).2.1, rfl, by simp only; omega⟩]; simp
theorem ridesAt_none {g : Gr} {d : Int} {j : Nat} (hj : j < g.edges.length) (h : lands g g.edges[j] d = none) : ridesAt g d (j + 1) = ridesAt g d j := by rw [ridesAt, edge_getD hj, h]; simp
theorem ridesAt_some {g : Gr} {d : Int} {j : Nat} (hj : j < g.edges.length) {q : Int × Int} (h : lands g g.edges[j] d = some q) : ridesAt g d (j + 1) = ridesAt g d j ++ [((j : Int), d, g.edges[j].1, g.edges[j].2.1, q.1, q.2)] := by rw [ridesAt, edge_getD hj, h]

set_option maxRecDepth 100000 in
set_option maxHeartbeats 8000000 in
theorem Rides_any (g : Gr) (la ea : Option Addr) (lc ec : Nat) (w : World) (hG : GAt w la ea g) (hR : Right g) :
    Calls Try.prog 27 #[.agg #[.int .i64 g.hor, .slice la g.lives.length lc, .slice ea g.edges.length ec]] w fun r w' => ∃ u, r = .returned u ∧ w'.ownsRow w.heap.size 61 6 u (ridesF g).length (encRs (ridesF g)) ∧ Below w.heap.size w w' := by
  obtain ⟨i0, hi, hz0, hz1, hz2⟩ := info_parts Try.infoRide
  obtain ⟨w1, hw1⟩ : ∃ x, x = w.alloc (.cells #[.int .i64 g.hor, .slice la g.lives.length lc, .slice ea g.edges.length ec] 25) := ⟨_, rfl⟩
  have B0 : GBx w w1 w.heap.size g la ea lc ec := by rw [hw1]; exact gbx_start w g la ea lc ec 25
  have hhor := hR.hor
  have hed := hR.eds
  have HRt := hideg hR
  have HG := hideg hG
  have HB1 := hideg B0
  have g0 := B0.c0
  have g2 := B0.c2
  have hw1s := hw1.symm
  have hH : Hid (ridesF g = ridesTo g g.hor.toNat) := rfl
  clear hR hG B0 hw1
  go_enter Try.func27, Try.ntmps27
  go_wp2_with fail
  clear hw1s
  go_loopw [3, 12] (fun u d wr => ∃ k : Nat, (k : Int) ≤ g.hor ∧ d = .int .i64 (k : Int) ∧ wr.ownsRow w1.heap.size 61 6 u (ridesTo g k).length (encRs (ridesTo g k)) ∧ Below w1.heap.size w1 wr) (fun _ d _ => (g.hor - intOf d).toNat)
  case atStart => exact ⟨0, by omega, by simp, World.ownsRow_nil _ _ _ _, Below.refl _ _⟩
  case round =>
    clear g0 g2
    obtain ⟨k, hk, rfl, hown, hb⟩ := hrel
    have BR := HB1.out.below hb
    have g0 := BR.c0
    have g2 := BR.c2
    have hol := ridesTo_len g k
    have hk100 : k ≤ 100 := by omega
    have hol' : (ridesTo g k).length ≤ 3000 := Nat.le_trans hol (Nat.le_trans (Nat.mul_le_mul hk100 hed) (by omega))
    by_cases hlt : (k : Int) < g.hor
    · obtain ⟨out, hout⟩ : ∃ o, o = ridesTo g k := ⟨_, rfl⟩
      rw [← hout] at hown hol'
      have HSucc : Hid (ridesTo g (k + 1) = out ++ ridesAt g (k : Int) g.edges.length) := by show _ = _; rw [hout]; rfl
      clear hout hol
      obtain ⟨wo, hwo⟩ : ∃ x, x = wr := ⟨_, rfl⟩
      have hown0 : wo.ownsRow w1.heap.size 61 6 u3 out.length (encRs out) := by rw [hwo]; exact hown
      have hbo : Below w1.heap.size w1 wo := by rw [hwo]; exact hb
      rw [← hwo] at g0 g2 ⊢
      clear hown hb hwo BR
      have hw1' : IntKind.i64.wrap ((k : Int) + 1) = (k : Int) + 1 := wrap_nj _ (by omega) (by omega)
      go_wp2_with fail
      go_loopw [3, 18] (fun u i wr => ∃ j : Nat, j ≤ g.edges.length ∧ i = .int .i64 j ∧ wr.ownsRow w1.heap.size 61 6 u (out ++ ridesAt g (k : Int) j).length (encRs (out ++ ridesAt g (k : Int) j)) ∧ Below w1.heap.size w1 wr) (fun _ i _ => g.edges.length - (intOf i).toNat)
      case atStart => exact ⟨0, Nat.zero_le _, rfl, by simpa [ridesAt] using hown0, hbo⟩
      case round =>
        clear hown0 hbo g0 g2
        obtain ⟨j, hj, rfl, hown, hb⟩ := hrel
        have BR := HB1.out.below hb
        have hoa := ridesAt_len g (k : Int) j
        by_cases hjl : j < g.edges.length
        · obtain ⟨b, off, lo, lcap, rfl, hbr, e0, e1, e2, _⟩ : ∃ b off lo lcap, ea = some ⟨b, off, none⟩ ∧ b < wr.heap.size ∧ wr.cell? ⟨b, off + j * 3, none⟩ = some (.int .i64 g.edges[j].1) ∧ wr.cell? ⟨b, off + j * 3 + 1, none⟩ = some (.int .i64 g.edges[j].2.1) ∧ wr.cell? ⟨b, off + j * 3 + 2, none⟩ = some (.slice lo g.edges[j].2.2.length lcap) ∧ LgAt wr lo g.edges[j].2.2 := by
            rcases (HG.out.below BR.bel).ed with h0 | ⟨b, off, rfl, hbr, hc⟩
            · rw [h0] at hjl; simp at hjl
            obtain ⟨c0, c1, lo, lcap, c2, hL, _, _⟩ := hc j hjl
            exact ⟨b, off, lo, lcap, rfl, hbr, c0, c1, c2, hL⟩
          obtain ⟨hA, hBe, _⟩ := HRt.out.ends _ (List.getElem_mem hjl)
          obtain ⟨p, hp, hNx⟩ := next_any g la (some ⟨b, off, none⟩) lc ec (g.edges[j].1, (k : Int), 0) ((j : Int), (k : Int)) HRt.out hA.1 hA.2 (by simp) (by simp)
          rw [nextF_own HRt.out hjl] at hp hNx
          simp only at hNx
          unfold nextV at hNx
          obtain ⟨wb, hwb⟩ : ∃ x, x = (wr.alloc (.cells #[.int .i64 g.edges[j].1, .int .i64 g.edges[j].2.1, .slice lo g.edges[j].2.2.length lcap] 73)).alloc (.cells #[.int .i64 (j : Int), .int .i64 (k : Int)] 37) := ⟨_, rfl⟩
          have hbw : Below wr.heap.size wr wb := by rw [hwb]; exact ptg (gal _ _) (gal _ _)
          have hBb := BR.below hbw
          have hNw := hNx wb (HG.out.below hBb.bel)
          have ga0 := hBb.c0
          have ga1 := hBb.c1
          have ga2 := hBb.c2
          have gb0 := BR.c2
          have f0 : wb.cell? ⟨wr.heap.size, 0, none⟩ = some (.int .i64 g.edges[j].1) := by rw [hwb, (gal _ _).cell (by simp)]; exact new_cell rfl rfl
          have f1 : wb.cell? ⟨wr.heap.size + 1, 0, none⟩ = some (.int .i64 (j : Int)) := by rw [hwb]; exact new_cell (by simp) rfl
          have f2 : wb.cell? ⟨wr.heap.size + 1, 1, none⟩ = some (.int .i64 (k : Int)) := by rw [hwb]; exact new_cell (by simp) rfl
          have hwbs : wr.heap.size + 1 < wb.heap.size := by rw [hwb]; simp
          have hll : (out ++ ridesAt g (k : Int) j).length ≤ 4000 := by rw [List.length_append]; omega
          have HOW : Hid (∀ W, Below wb.heap.size wb W → W.ownsRow w1.heap.size 61 6 u3 (out ++ ridesAt g (k : Int) j).length (encRs (out ++ ridesAt g (k : Int) j)) ∧ Below w1.heap.size w1 W) := fun W h => ⟨ownsRow_below hown (ptg hbw h), hb.trans ((ptg hbw h).mono hb.size)⟩
          have HN := hideg (ridesAt_none (g := g) (d := (k : Int)) hjl)
          have HY := hideg (fun q => ridesAt_some (g := g) (d := (k : Int)) hjl (q := q))
          clear hown hb hNx hBb
          generalize hcur : out ++ ridesAt g (k : Int) j = cur at *
          have HCur := hideg hcur
          have hwbs' := hwb.symm
          clear hcur BR hwb
          cases hs : lands g g.edges[j] (k : Int) with
          | none =>
            rw [hs] at hNw
            simp only [Option.map_none, Option.isSome_none] at hNw
            have HE := hideg (HN.out hs)
            clear hs hp HN HY hA hBe
            generalize g.edges[j] = ed at *
            go_wp2_with fail
            refine hNw.mono ?_
            rintro r w3 ⟨rfl, hb3⟩
            have HO2 := hideg (fun o => HOW.out (w3.alloc o) (ptg hb3 (gal w3 o)))
            clear hNw hb3 e0 e1 e2 ga0 ga1 ga2 gb0 HOW f0 f1 f2 hbw
            go_wp2
            go_roundw
            case rel => exact ⟨j + 1, by omega, by go_num, by rw [HE.out, HCur.out]; exact (HO2.out _).1, (HO2.out _).2⟩
            case measure => simp [intOf]; omega
          | some q =>
            rw [hs] at hNw hp
            simp only [Option.map_some, Option.isSome_some] at hNw
            have hp := hp _ rfl
            subst hp
            simp only at hNw
            have HE := hideg (HY.out q hs)
            clear hs HN HY hA hBe
            generalize g.edges[j] = ed at *
            go_wp2_with fail
            refine hNw.mono ?_
            rintro r w3 ⟨rfl, hb3⟩
            obtain ⟨w4, hw4⟩ : ∃ x, x = w3.alloc (.cells #[.int .i64 ed.2.1, .int .i64 q.1, .int .i64 q.2] 52) := ⟨_, rfl⟩
            have hb4 : Below wb.heap.size wb w4 := by rw [hw4]; exact ptg hb3 (gal w3 _)
            obtain ⟨o1, o2⟩ := HOW.out w4 hb4
            have x0 := (hb4.cell (p := ⟨wr.heap.size, 0, none⟩) (by simp only; omega)).trans f0
            have x1 := (hb4.cell (p := ⟨wr.heap.size + 1, 0, none⟩) (by simp only; omega)).trans f1
            have x2 := (hb4.cell (p := ⟨wr.heap.size + 1, 1, none⟩) (by simp only; omega)).trans f2
            have x3 : w4.cell? ⟨w3.heap.size, 0, none⟩ = some (.int .i64 ed.2.1) := by rw [hw4]; exact new_cell rfl rfl
            have x4 : w4.cell? ⟨w3.heap.size, 1, none⟩ = some (.int .i64 q.1) := by rw [hw4]; exact new_cell rfl rfl
            have x5 : w4.cell? ⟨w3.heap.size, 2, none⟩ = some (.int .i64 q.2) := by rw [hw4]; exact new_cell rfl rfl
            have hs4 := hb4.size
            have hs5 := o2.size
            have hs6 : w3.heap.size < w4.heap.size := by rw [hw4]; simp
            have HBg : Hid (∀ (o : Obj) (w5 : World), (w4.alloc o).grownBy w5 u3.ownBlock → Below w1.heap.size w1 w5) := fun o w5 hgr => (o2.alloc o2.size o).grown hgr (by have := o2.size; simp at this ⊢; omega) (fun k hk => (o1.lt k hk).1)
            have hw4s := hw4.symm
            clear hNw hb3 e0 e1 e2 ga0 ga1 ga2 gb0 HOW f0 f1 f2 hbw hb4 hw4 hwbs'
            go_wp2_with (at_builtin; refine stopHereR ?_)
            refine hideg ?_
            refine wpList_append_own _ rfl _ _ 58 rfl w1.heap.size 61 i0 _ 6 48 Try.underlying58 hi hz0 hz1 hz2 rfl (by decide) _ _ _ rfl (World.ownsRow.alloc (w := w4) o1 _) ⟨w4.heap.size, 0, none⟩ 1 1 [.int .i64 j, .int .i64 k, .int .i64 ed.1, .int .i64 ed.2.1, .int .i64 q.1, .int .i64 q.2] rfl rfl (cells_six_newR _ _ _ _ _ _ _ _ _ (by simp)) (by intro u hu; simp at hu; rcases hu with rfl | rfl | rfl | rfl | rfl | rfl <;> rfl) (by unfold maxLen; omega) (by omega) (by simp; omega) ?_
            intro v' w5 hown5 hgrow _
            have hb' := HBg.out _ _ hgrow
            have R : w5.ownsRow w1.heap.size 61 6 v' (out ++ ridesAt g (k : Int) (j + 1)).length (encRs (out ++ ridesAt g (k : Int) (j + 1))) := by
              rw [HE.out, ← List.append_assoc, HCur.out, encRs_append, List.length_append]; exact hown5
            clear hgrow o1 hown5 x0 x1 x2 x3 x4 x5 hw4s
            go_wp2
            go_roundw
            case rel => exact ⟨j + 1, by omega, by go_num, R, hb'⟩
            case measure => simp [intOf]; omega
        · have hjn : j = g.edges.length := by omega
          subst hjn
          rw [← HSucc.out] at hown
          clear BR
          go_wp2
          go_roundw
          case rel => exact ⟨k + 1, by omega, by go_num, hown, hb⟩
          case measure => simp [intOf]; omega
    · have hke : k = g.hor.toNat := by omega
      rw [hke, ← hH.out] at hown
      have R := owns_base2 hown HB1.out.bel.size
      have hbF := BR.bel
      clear hown hke BR
      go_wp2
      go_ret
      exact ⟨_, rfl, R, hbF⟩

end Go.Proofs.Ythgelfnflafoiaf

namespace Go.Proofs.Ythgelfnflafoiaf
open Go.RowKit

/-- a ride as a value -/
def rideV (r : Ri) : Value := .agg #[.int .i64 r.1, .int .i64 r.2.1, .int .i64 r.2.2.1, .int .i64 r.2.2.2.1, .int .i64 r.2.2.2.2.1, .int .i64 r.2.2.2.2.2]
theorem costOf_any (r : Ri) (w : World) : Calls Try.prog 33 #[rideV r] w fun res w' => res = .returned (.int .i64 r.2.2.2.2.2) ∧ Below w.heap.size w w' := by
  obtain ⟨E, d, a, e, ar, c⟩ := r
  simp only [rideV]
  go_enter Try.func33, Try.ntmps33
  go_wp2
  go_ret
  exact ⟨rfl, gal w _⟩
theorem oneEach_any (r : Ri) (w : World) : Calls Try.prog 34 #[rideV r] w fun res w' => res = .returned (.int .i64 1) ∧ Below w.heap.size w w' := by
  obtain ⟨E, d, a, e, ar, c⟩ := r
  simp only [rideV]
  go_enter Try.func34, Try.ntmps34
  go_wp2
  go_ret
  exact ⟨rfl, gal w _⟩
theorem encV_mk (p E d a e ar c : Int) : encV (p, E, d, a, e, ar, c) = .agg #[.int .i64 p, .int .i64 E, .int .i64 d, .int .i64 a, .int .i64 e, .int .i64 ar, .int .i64 c] := rfl
set_option maxRecDepth 100000 in
set_option maxHeartbeats 1000000 in
theorem take_any (b n : Nat) (M : Mp) (r : Ri) (p : Int) (w : World) (hM : MapAt w b n M) (hn : n < 100000) (hr : Wi r.2.1 ∧ Wi r.2.2.1 ∧ Wi r.2.2.2.1 ∧ Wi r.2.2.2.2.1) (hp : 0 ≤ p ∧ p ≤ 1000) (hx : ∀ x, M r.2.2.1 r.2.1 = some x → -1000000 ≤ x.1 ∧ x.1 ≤ 1000000) :
    Calls Try.prog 52 #[.map (some b), rideV r, .int .i64 p] w fun res w' => (∃ v, res = .returned v) ∧ MapAt w' b (n + 1) (takeM M r p) ∧ w.grownBy w' (some b) := by
  obtain ⟨E, d, a, e, ar, c⟩ := r
  simp only [rideV]
  simp only at hr hx
  obtain ⟨hd, ha, he, har⟩ := hr
  obtain ⟨w1, hw1⟩ : ∃ x, x = w.alloc (.cells #[.int .i64 E, .int .i64 d, .int .i64 a, .int .i64 e, .int .i64 ar, .int .i64 c] 61) := ⟨_, rfl⟩
  have b1 : Below w.heap.size w w1 := by rw [hw1]; exact gal w _
  have M1 := hM.below b1
  have k1 := M1.look ha hd
  have y1 : w1.cell? ⟨w.heap.size, 1, none⟩ = some (.int .i64 d) := by rw [hw1]; exact new_cell rfl rfl
  have y2 : w1.cell? ⟨w.heap.size, 2, none⟩ = some (.int .i64 a) := by rw [hw1]; exact new_cell rfl rfl
  have hw1s := hw1.symm
  cases h1 : M a d with
  | none =>
    have HT : Hid (takeM M (E, d, a, e, ar, c) p = M) := by show _ = _; unfold takeM; simp only; rw [h1]
    rw [h1] at k1
    simp only [keyV, Option.getD_none, encV_mk, Option.isSome_none] at k1
    clear h1 hw1
    go_enter Try.func52, Try.ntmps52
    go_wp2
    refine bodyPost_ret (results_none rfl _ _ _) rfl ⟨⟨_, rfl⟩, ?_, ?_⟩
    · rw [HT.out]; exact (M1.alloc _).mono (by omega)
    · exact gby_of_below (ptg b1 (gal w1 _)) _
  | some x =>
    obtain ⟨q, E2, d2, a2, e2, ar2, c2⟩ := x
    have hq := hx _ h1
    simp only at hq
    rw [h1] at k1
    simp only [keyV, Option.getD_some, encV_mk, Option.isSome_some] at k1
    have hw2 : IntKind.i64.wrap (q + p) = q + p := wrap_nj _ (by omega) (by omega)
    obtain ⟨w3, hw3⟩ : ∃ x, x = (w1.alloc (.cells #[.int .i64 q, .int .i64 E2, .int .i64 d2, .int .i64 a2, .int .i64 e2, .int .i64 ar2, .int .i64 c2] 84)).alloc (.cells #[.int .i64 e, .int .i64 ar] 87) := ⟨_, rfl⟩
    have b3 : Below w1.heap.size w1 w3 := by rw [hw3]; exact ptg (gal _ _) (gal _ _)
    have s3 : w3.heap.size = w1.heap.size + 1 + 1 := by rw [hw3]; simp
    have s1 : w1.heap.size = w.heap.size + 1 := by rw [hw1]; simp
    have M3 := M1.below b3
    have k2 := M3.look he har
    have z0 : w3.cell? ⟨w1.heap.size, 0, none⟩ = some (.int .i64 q) := by rw [hw3, (gal _ _).cell (by simp)]; exact new_cell rfl rfl
    have z1 : w3.cell? ⟨w1.heap.size + 1, 0, none⟩ = some (.int .i64 e) := by rw [hw3]; exact new_cell (by simp) rfl
    have z2 : w3.cell? ⟨w1.heap.size + 1, 1, none⟩ = some (.int .i64 ar) := by rw [hw3]; exact new_cell (by simp) rfl
    have y3 : w1.cell? ⟨w.heap.size, 3, none⟩ = some (.int .i64 e) := by rw [hw1]; exact new_cell rfl rfl
    have y4 : w1.cell? ⟨w.heap.size, 4, none⟩ = some (.int .i64 ar) := by rw [hw1]; exact new_cell rfl rfl
    have y3' : (w1.alloc (.cells #[.int .i64 q, .int .i64 E2, .int .i64 d2, .int .i64 a2, .int .i64 e2, .int .i64 ar2, .int .i64 c2] 84)).cell? ⟨w.heap.size, 3, none⟩ = some (.int .i64 e) := ((gal w1 _).cell (p := ⟨w.heap.size, 3, none⟩) (by simp only; omega)).trans y3
    have y4' : (w1.alloc (.cells #[.int .i64 q, .int .i64 E2, .int .i64 d2, .int .i64 a2, .int .i64 e2, .int .i64 ar2, .int .i64 c2] 84)).cell? ⟨w.heap.size, 4, none⟩ = some (.int .i64 ar) := ((gal w1 _).cell (p := ⟨w.heap.size, 4, none⟩) (by simp only; omega)).trans y4
    have hw3s := hw3.symm
    have no : ∀ W, Below w3.heap.size w3 W → takeM M (E, d, a, e, ar, c) p = M → MapAt W b (n + 1) (takeM M (E, d, a, e, ar, c) p) ∧ w.grownBy W (some b) := fun W h h' => by
      rw [h']; exact ⟨(M3.below h).mono (by omega), gby_of_below (ptg b1 (ptg b3 h)) _⟩
    have yes : ∀ W, Below w3.heap.size w3 W → takeM M (E, d, a, e, ar, c) p = mset M e ar (q + p, E, d, a, e, ar, c) → ∃ w', (Instr.mapUpdate 81 (.map (some b)) (.agg #[.int .i64 e, .int .i64 ar]) (.agg #[.int .i64 (q + p), .int .i64 E, .int .i64 d, .int .i64 a, .int .i64 e, .int .i64 ar, .int .i64 c])).run Try.prog W = .ok () w' ∧ Hid (MapAt w' b (n + 1) (takeM M (E, d, a, e, ar, c) p) ∧ w.grownBy w' (some b)) := fun W h h' => by
      obtain ⟨w', r1, r2, r3⟩ := (M3.below h).store (by unfold maxLen; omega) he har (q + p, E, d, a, e, ar, c)
      exact ⟨w', r1, by rw [h']; exact r2, gby_trans (gby_of_below (ptg b1 (ptg b3 h)) _) r3⟩
    have HNo := hideg no
    have HYes := hideg yes
    have cY : ∀ W, Below w3.heap.size w3 W → ∀ j x, w1.cell? ⟨w.heap.size, j, none⟩ = some x → W.cell? ⟨w.heap.size, j, none⟩ = some x := fun W h j x hx => ((ptg b3 h).cell (p := ⟨w.heap.size, j, none⟩) (by simp only; omega)).trans hx
    have HC := hideg cY
    have y0 : w1.cell? ⟨w.heap.size, 0, none⟩ = some (.int .i64 E) := by rw [hw1]; exact new_cell rfl rfl
    have y5 : w1.cell? ⟨w.heap.size, 5, none⟩ = some (.int .i64 c) := by rw [hw1]; exact new_cell rfl rfl
    have HTk : Hid (takeM M (E, d, a, e, ar, c) p = if lessB (M e ar) (q + p) = true then mset M e ar (q + p, E, d, a, e, ar, c) else M) := by show _ = _; unfold takeM; simp only; rw [h1]
    have HSz : Hid (w3.heap.size = w1.heap.size + 1 + 1) := s3
    clear no yes hM M1 M3 hx h1 cY hw1 hw3 s1 s3
    cases h2 : M e ar with
    | none =>
      rw [h2] at k2
      simp only [keyV, Option.getD_none, encV_mk, Option.isSome_none] at k2
      have HT : Hid (takeM M (E, d, a, e, ar, c) p = mset M e ar (q + p, E, d, a, e, ar, c)) := by show _ = _; rw [HTk.out, h2]; rfl
      obtain ⟨w', hup, HF⟩ := HYes.out (w3.alloc (.cells #[.int .i64 0, .int .i64 0, .int .i64 0, .int .i64 0, .int .i64 0, .int .i64 0, .int .i64 0] 84)) (gal w3 _) HT.out
      clear HTk h2
      have z0' := ((gal w3 (.cells #[.int .i64 0, .int .i64 0, .int .i64 0, .int .i64 0, .int .i64 0, .int .i64 0, .int .i64 0] 84)).cell (p := ⟨w1.heap.size, 0, none⟩) (by simp only; have := HSz.out; omega)).trans z0
      have z1' := ((gal w3 (.cells #[.int .i64 0, .int .i64 0, .int .i64 0, .int .i64 0, .int .i64 0, .int .i64 0, .int .i64 0] 84)).cell (p := ⟨w1.heap.size + 1, 0, none⟩) (by simp only; have := HSz.out; omega)).trans z1
      have z2' := ((gal w3 (.cells #[.int .i64 0, .int .i64 0, .int .i64 0, .int .i64 0, .int .i64 0, .int .i64 0, .int .i64 0] 84)).cell (p := ⟨w1.heap.size + 1, 1, none⟩) (by simp only; have := HSz.out; omega)).trans z2
      have c0 := HC.out _ (gal w3 (.cells #[.int .i64 0, .int .i64 0, .int .i64 0, .int .i64 0, .int .i64 0, .int .i64 0, .int .i64 0] 84)) 0 _ y0
      have c1 := HC.out _ (gal w3 (.cells #[.int .i64 0, .int .i64 0, .int .i64 0, .int .i64 0, .int .i64 0, .int .i64 0, .int .i64 0] 84)) 1 _ y1
      have c2' := HC.out _ (gal w3 (.cells #[.int .i64 0, .int .i64 0, .int .i64 0, .int .i64 0, .int .i64 0, .int .i64 0, .int .i64 0] 84)) 2 _ y2
      have c3 := HC.out _ (gal w3 (.cells #[.int .i64 0, .int .i64 0, .int .i64 0, .int .i64 0, .int .i64 0, .int .i64 0, .int .i64 0] 84)) 3 _ y3
      have c4 := HC.out _ (gal w3 (.cells #[.int .i64 0, .int .i64 0, .int .i64 0, .int .i64 0, .int .i64 0, .int .i64 0, .int .i64 0] 84)) 4 _ y4
      have c5 := HC.out _ (gal w3 (.cells #[.int .i64 0, .int .i64 0, .int .i64 0, .int .i64 0, .int .i64 0, .int .i64 0, .int .i64 0] 84)) 5 _ y5
      go_enter Try.func52, Try.ntmps52
      go_wp2
      refine bodyPost_end (results_none rfl _ _ _) rfl ⟨⟨_, rfl⟩, HF.out.1, HF.out.2⟩
    | some y =>
      obtain ⟨q2, E3, d3, a3, e3, ar3, c3⟩ := y
      rw [h2] at k2
      simp only [keyV, Option.getD_some, encV_mk, Option.isSome_some] at k2
      by_cases hl : q + p < q2
      · have HT : Hid (takeM M (E, d, a, e, ar, c) p = mset M e ar (q + p, E, d, a, e, ar, c)) := by
          show _ = _; rw [HTk.out, h2, if_pos (by simp [lessB, hl])]
        obtain ⟨w', hup, HF⟩ := HYes.out (w3.alloc (.cells #[.int .i64 q2, .int .i64 E3, .int .i64 d3, .int .i64 a3, .int .i64 e3, .int .i64 ar3, .int .i64 c3] 84)) (gal w3 _) HT.out
        clear HTk h2
        have z0' := ((gal w3 (.cells #[.int .i64 q2, .int .i64 E3, .int .i64 d3, .int .i64 a3, .int .i64 e3, .int .i64 ar3, .int .i64 c3] 84)).cell (p := ⟨w1.heap.size, 0, none⟩) (by simp only; have := HSz.out; omega)).trans z0
        have z1' := ((gal w3 (.cells #[.int .i64 q2, .int .i64 E3, .int .i64 d3, .int .i64 a3, .int .i64 e3, .int .i64 ar3, .int .i64 c3] 84)).cell (p := ⟨w1.heap.size + 1, 0, none⟩) (by simp only; have := HSz.out; omega)).trans z1
        have z2' := ((gal w3 (.cells #[.int .i64 q2, .int .i64 E3, .int .i64 d3, .int .i64 a3, .int .i64 e3, .int .i64 ar3, .int .i64 c3] 84)).cell (p := ⟨w1.heap.size + 1, 1, none⟩) (by simp only; have := HSz.out; omega)).trans z2
        have c0 := HC.out _ (gal w3 (.cells #[.int .i64 q2, .int .i64 E3, .int .i64 d3, .int .i64 a3, .int .i64 e3, .int .i64 ar3, .int .i64 c3] 84)) 0 _ y0
        have c1 := HC.out _ (gal w3 (.cells #[.int .i64 q2, .int .i64 E3, .int .i64 d3, .int .i64 a3, .int .i64 e3, .int .i64 ar3, .int .i64 c3] 84)) 1 _ y1
        have c2' := HC.out _ (gal w3 (.cells #[.int .i64 q2, .int .i64 E3, .int .i64 d3, .int .i64 a3, .int .i64 e3, .int .i64 ar3, .int .i64 c3] 84)) 2 _ y2
        have c3' := HC.out _ (gal w3 (.cells #[.int .i64 q2, .int .i64 E3, .int .i64 d3, .int .i64 a3, .int .i64 e3, .int .i64 ar3, .int .i64 c3] 84)) 3 _ y3
        have c4 := HC.out _ (gal w3 (.cells #[.int .i64 q2, .int .i64 E3, .int .i64 d3, .int .i64 a3, .int .i64 e3, .int .i64 ar3, .int .i64 c3] 84)) 4 _ y4
        have c5 := HC.out _ (gal w3 (.cells #[.int .i64 q2, .int .i64 E3, .int .i64 d3, .int .i64 a3, .int .i64 e3, .int .i64 ar3, .int .i64 c3] 84)) 5 _ y5
        go_enter Try.func52, Try.ntmps52
        go_wp2
        refine bodyPost_end (results_none rfl _ _ _) rfl ⟨⟨_, rfl⟩, HF.out.1, HF.out.2⟩
      · have HT : Hid (takeM M (E, d, a, e, ar, c) p = M) := by
          show _ = _; rw [HTk.out, h2, if_neg (by simp [lessB]; omega)]
        have z0' := ((gal w3 (.cells #[.int .i64 q2, .int .i64 E3, .int .i64 d3, .int .i64 a3, .int .i64 e3, .int .i64 ar3, .int .i64 c3] 84)).cell (p := ⟨w1.heap.size, 0, none⟩) (by simp only; have := HSz.out; omega)).trans z0
        clear HTk h2 HYes
        go_enter Try.func52, Try.ntmps52
        go_wp2
        refine bodyPost_end (results_none rfl _ _ _) rfl ⟨⟨_, rfl⟩, (HNo.out _ (gal w3 _) HT.out).1, (HNo.out _ (gal w3 _) HT.out).2⟩

end Go.Proofs.Ythgelfnflafoiaf

namespace Go.Proofs.Ythgelfnflafoiaf
open Go.RowKit

/-- memory that is no map stays while a map is written -/
theorem MapAt.cell {w w' : World} {b n : Nat} {M : Mp} (h : MapAt w b n M) (hg : w.grownBy w' (some b)) {a : Addr} {x : Value} (hx : w.cell? a = some x) : w'.cell? a = some x := by
  refine hg.cell hx (fun e => ?_)
  obtain ⟨D, ⟨es, clock, hb, _⟩, _⟩ := h
  have e : a.block = b := by simpa using e
  unfold World.cell? at hx
  rw [e, hb] at hx
  cases hx
theorem gat_keep {w w' : World} {la ea : Option Addr} {g : Gr} (h : GAt w la ea g) (hs : w.heap.size ≤ w'.heap.size) (hc : ∀ a x, w.cell? a = some x → w'.cell? a = some x) : GAt w' la ea g := by
  refine ⟨?_, ?_, h.nl, h.ne⟩
  · rcases h.lv with h | ⟨b, off, rfl, hlt, hk⟩
    · exact .inl h
    · exact .inr ⟨b, off, rfl, Nat.lt_of_lt_of_le hlt hs, fun j hj => ⟨hc _ _ (hk j hj).1, hc _ _ (hk j hj).2⟩⟩
  · rcases h.ed with h | ⟨b, off, rfl, hlt, hk⟩
    · exact .inl h
    · refine .inr ⟨b, off, rfl, Nat.lt_of_lt_of_le hlt hs, fun j hj => ?_⟩
      obtain ⟨c0, c1, lo, lc, c2, hl, n1, n2⟩ := hk j hj
      refine ⟨hc _ _ c0, hc _ _ c1, lo, lc, hc _ _ c2, ?_, n1, n2⟩
      rcases hl with hl | ⟨b', off', rfl, hlt', hk'⟩
      · exact .inl hl
      · exact .inr ⟨b', off', rfl, Nat.lt_of_lt_of_le hlt' hs, fun i hi => ⟨hc _ _ (hk' i hi).1, hc _ _ (hk' i hi).2.1, hc _ _ (hk' i hi).2.2.1, hc _ _ (hk' i hi).2.2.2⟩⟩
theorem MapAt.gat {w w' : World} {b n : Nat} {M : Mp} (h : MapAt w b n M) (hg : w.grownBy w' (some b)) {la ea : Option Addr} {g : Gr} (hG : GAt w la ea g) : GAt w' la ea g := gat_keep hG hg.size (fun _ _ hx => h.cell hg hx)
theorem wi_small {n : Int} (h0 : -1000000 ≤ n) (h1 : n ≤ 1000000) : Wi n := by unfold Wi; omega

theorem waitV_none {g : Gr} {now : Int} {M : Mp} {v : Int} (h : M v (now - 1) = none) : waitV g now M v = M := by unfold waitV; rw [h]
theorem waitV_dead {g : Gr} {now : Int} {M : Mp} {v : Int} (h : aliveB now g.lives v = false) : waitV g now M v = M := by
  unfold waitV
  cases M v (now - 1) with
  | none => rfl
  | some x => simp [h]
theorem waitV_some {g : Gr} {now : Int} {M : Mp} {v : Int} {x : Vs} (h : M v (now - 1) = some x) (ha : aliveB now g.lives v = true) : waitV g now M v = if leqB (M v now) x.1 = true then mset M v now x else M := by
  unfold waitV; rw [h]; simp only; rw [if_pos ha]

set_option maxRecDepth 100000 in
set_option maxHeartbeats 1000000 in
theorem waitTill_any (g : Gr) (la ea : Option Addr) (lc ec : Nat) (b n : Nat) (M : Mp) (now : Int) (w : World) (hG : GAt w la ea g) (hR : Right g) (hM : MapAt w b n M) (hn : n < 50000) (h0 : 0 ≤ now ∧ now < 1000) :
    Calls Try.prog 51 #[.map (some b), .agg #[.int .i64 g.hor, .slice la g.lives.length lc, .slice ea g.edges.length ec], .int .i64 now] w fun res w' => (∃ v, res = .returned v) ∧ MapAt w' b (n + g.lives.length) (waitM g now M g.lives.length) ∧ w.grownBy w' (some b) := by
  obtain ⟨w1, hw1⟩ : ∃ x, x = w.alloc (.cells #[.int .i64 g.hor, .slice la g.lives.length lc, .slice ea g.edges.length ec] 25) := ⟨_, rfl⟩
  have B0 : GBx w w1 w.heap.size g la ea lc ec := by rw [hw1]; exact gbx_start w g la ea lc ec 25
  have M1 := hM.below B0.bel
  have hG1 := hG.below B0.bel
  have hlv := hR.lvs
  have g1 := B0.c1
  have hw1s := hw1.symm
  have HB0 := hideg B0.bel
  have HM1 := hideg M1
  have HG1 := hideg hG1
  have hnow1 : IntKind.i64.wrap (now - 1) = now - 1 := wrap_nj _ (by omega) (by omega)
  clear hM hG hR hw1 B0 M1 hG1
  go_enter Try.func51, Try.ntmps51
  go_wp2_with fail
  clear hw1s
  go_loopw [15] (fun i wr => ∃ k : Nat, k ≤ g.lives.length ∧ i = .int .i64 k ∧ MapAt wr b (n + k) (waitM g now M k) ∧ w1.grownBy wr (some b)) (fun i _ => g.lives.length - (intOf i).toNat)
  case atStart => exact ⟨0, Nat.zero_le _, rfl, HM1.out, gby_refl _ _⟩
  case round =>
    clear g1
    obtain ⟨k, hk, rfl, hMk, hg⟩ := hrel
    by_cases hkl : k < g.lives.length
    · have hki : (k : Int) < (g.lives.length : Int) := by omega
      have hkw : IntKind.i64.wrap ((k : Int) + 1) = (k : Int) + 1 := wrap_nj _ (by omega) (by omega)
      obtain ⟨lb, lof, rfl, hlb, l0, l1⟩ : ∃ b off, la = some ⟨b, off, none⟩ ∧ b < wr.heap.size ∧ (wr.cell? ⟨b, off + k * 2, none⟩ = some (.int .i64 g.lives[k].1) ∧ wr.cell? ⟨b, off + k * 2 + 1, none⟩ = some (.int .i64 g.lives[k].2)) := by
        rcases (HM1.out.gat hg HG1.out).lv with h0 | ⟨b, off, rfl, hbr, hc⟩
        · rw [h0] at hkl; simp at hkl
        exact ⟨b, off, rfl, hbr, IvAt.get hkl hc⟩
      have hal := fun W => jalive_any g.lives[k].1 g.lives[k].2 now W
      rw [← aliveB_at now g.lives k hkl] at hal
      obtain ⟨wa, hwa⟩ : ∃ x, x = wr.alloc (.cells #[.int .i64 g.lives[k].1, .int .i64 g.lives[k].2] 55) := ⟨_, rfl⟩
      have ba : Below wr.heap.size wr wa := by rw [hwa]; exact gal wr _
      have y0 : wa.cell? ⟨wr.heap.size, 0, none⟩ = some (.int .i64 g.lives[k].1) := by rw [hwa]; exact new_cell rfl rfl
      have y1 : wa.cell? ⟨wr.heap.size, 1, none⟩ = some (.int .i64 g.lives[k].2) := by rw [hwa]; exact new_cell rfl rfl
      have sa : wr.heap.size < wa.heap.size := by rw [hwa]; simp
      have Ma := hMk.below ba
      have k1 := Ma.look (v := (k : Int)) (t := now - 1) (wi_small (by omega) (by omega)) (wi_small (by omega) (by omega))
      have HSu : Hid (waitM g now M (k + 1) = waitV g now (waitM g now M k) (k : Int)) := rfl
      generalize waitM g now M k = Mk at *
      have HGa : Hid (∀ W, Below wa.heap.size wa W → w1.grownBy W (some b)) := fun W h => gby_trans hg (gby_of_below (ptg ba h) _)
      have HMa : Hid (∀ W, Below wa.heap.size wa W → MapAt W b (n + k) Mk) := fun W h => Ma.below h
      have hwas := hwa.symm
      clear hwa hMk hg ba Ma
      have NO : Hid (waitM g now M (k + 1) = Mk → ∀ W, Below wa.heap.size wa W → MapAt W b (n + (k + 1)) (waitM g now M (k + 1)) ∧ w1.grownBy W (some b)) := fun h W hW => by rw [h]; exact ⟨(HMa.out W hW).mono (by omega), HGa.out W hW⟩
      cases h1 : Mk (k : Int) (now - 1) with
      | none =>
        have HE := hideg (NO.out (HSu.out.trans (waitV_none h1)))
        rw [h1] at k1
        simp only [keyV, Option.getD_none, encV_mk, Option.isSome_none] at k1
        clear h1 hal HSu NO
        generalize g.lives[k] = lf at *
        go_wp2
        go_roundw
        case rel => exact ⟨k + 1, by omega, by go_num, (HE.out _ (gal wa _)).1, (HE.out _ (gal wa _)).2⟩
        case measure => simp [intOf]; omega
      | some x =>
        obtain ⟨q, E2, d2, a2, e2, ar2, c2⟩ := x
        rw [h1] at k1
        simp only [keyV, Option.getD_some, encV_mk, Option.isSome_some] at k1
        obtain ⟨wb, hwb⟩ : ∃ x, x = wa.alloc (.cells #[.int .i64 q, .int .i64 E2, .int .i64 d2, .int .i64 a2, .int .i64 e2, .int .i64 ar2, .int .i64 c2] 84) := ⟨_, rfl⟩
        have bb : Below wa.heap.size wa wb := by rw [hwb]; exact gal wa _
        have z0 : ∀ j x, #[Value.int .i64 q, .int .i64 E2, .int .i64 d2, .int .i64 a2, .int .i64 e2, .int .i64 ar2, .int .i64 c2][j]? = some x → wb.cell? ⟨wa.heap.size, j, none⟩ = some x := fun j x hx => by rw [hwb]; exact new_cell rfl hx
        have y0b := (bb.cell (p := ⟨wr.heap.size, 0, none⟩) sa).trans y0
        have y1b := (bb.cell (p := ⟨wr.heap.size, 1, none⟩) sa).trans y1
        have sb : wa.heap.size < wb.heap.size := by rw [hwb]; simp
        have hwbs := hwb.symm
        clear hwb
        cases ha : aliveB now g.lives (k : Int) with
        | false =>
          rw [ha] at hal
          have HE := hideg (fun W h => NO.out (HSu.out.trans (waitV_dead ha)) W (ptg bb h))
          clear h1 HSu NO ha z0
          generalize g.lives[k] = lf at *
          go_wp2_with fail
          refine (hal _).mono ?_
          rintro r w5 ⟨rfl, hb5⟩
          have HE5 := hideg (HE.out _ hb5)
          clear hal hb5 HE
          go_wp2
          go_roundw
          case rel => exact ⟨k + 1, by omega, by go_num, HE5.out.1, HE5.out.2⟩
          case measure => simp [intOf]; omega
        | true =>
          rw [ha] at hal
          have HV : Hid (waitM g now M (k + 1) = if leqB (Mk (k : Int) now) q = true then mset Mk (k : Int) now (q, E2, d2, a2, e2, ar2, c2) else Mk) := HSu.out.trans (waitV_some h1 ha)
          have HZ := hideg z0
          clear h1 HSu ha z0
          generalize g.lives[k] = lf at *
          go_wp2_with fail
          refine (hal _).mono ?_
          rintro r w5 ⟨rfl, hb5⟩
          have M5 := HMa.out w5 (ptg bb hb5)
          have k2 := M5.look (v := (k : Int)) (t := now) (wi_small (by omega) (by omega)) (wi_small (by omega) (by omega))
          have YES : Hid (waitM g now M (k + 1) = mset Mk (k : Int) now (q, E2, d2, a2, e2, ar2, c2) → ∀ W, Below w5.heap.size w5 W → ∃ w', (Instr.mapUpdate 81 (.map (some b)) (.agg #[.int .i64 (k : Int), .int .i64 now]) (.agg #[.int .i64 q, .int .i64 E2, .int .i64 d2, .int .i64 a2, .int .i64 e2, .int .i64 ar2, .int .i64 c2])).run Try.prog W = .ok () w' ∧ Hid (MapAt w' b (n + (k + 1)) (waitM g now M (k + 1)) ∧ w1.grownBy w' (some b))) := fun h W hW => by
            obtain ⟨w', r1, r2, r3⟩ := (M5.below hW).store (by unfold maxLen; omega) (v := (k : Int)) (t := now) (wi_small (by omega) (by omega)) (wi_small (by omega) (by omega)) (q, E2, d2, a2, e2, ar2, c2)
            exact ⟨w', r1, by rw [h]; exact r2, gby_trans (HGa.out W (ptg bb (ptg hb5 hW))) r3⟩
          have HC : Hid (∀ W, Below w5.heap.size w5 W → ∀ j x, #[Value.int .i64 q, .int .i64 E2, .int .i64 d2, .int .i64 a2, .int .i64 e2, .int .i64 ar2, .int .i64 c2][j]? = some x → W.cell? ⟨wa.heap.size, j, none⟩ = some x) := fun W hW j x hx => ((ptg hb5 hW).cell (p := ⟨wa.heap.size, j, none⟩) sb).trans (HZ.out j x hx)
          have HNO5 : Hid (waitM g now M (k + 1) = Mk → ∀ W, Below w5.heap.size w5 W → MapAt W b (n + (k + 1)) (waitM g now M (k + 1)) ∧ w1.grownBy W (some b)) := fun h W hW => NO.out h W (ptg bb (ptg hb5 hW))
          clear hal M5 NO HMa HGa hwas hwbs k1 y0 y1 y0b y1b bb hb5 HZ l0 l1
          cases h2 : Mk (k : Int) now with
          | none =>
            rw [h2] at k2
            simp only [keyV, Option.getD_none, encV_mk, Option.isSome_none] at k2
            have HT := hideg (YES.out (by rw [HV.out, h2]; rfl))
            clear h2 HV YES
            obtain ⟨o, ho⟩ : ∃ o : Obj, o = .cells #[.int .i64 0, .int .i64 0, .int .i64 0, .int .i64 0, .int .i64 0, .int .i64 0, .int .i64 0] 84 := ⟨_, rfl⟩
            obtain ⟨w', hup, HF⟩ := HT.out _ (gal w5 o)
            have c0 := HC.out _ (gal w5 o) 0 _ rfl
            have c1 := HC.out _ (gal w5 o) 1 _ rfl
            have c2' := HC.out _ (gal w5 o) 2 _ rfl
            have c3 := HC.out _ (gal w5 o) 3 _ rfl
            have c4 := HC.out _ (gal w5 o) 4 _ rfl
            have c5 := HC.out _ (gal w5 o) 5 _ rfl
            have c6 := HC.out _ (gal w5 o) 6 _ rfl
            subst ho
            clear HT HC
            go_wp2
            go_roundw
            case rel => exact ⟨k + 1, by omega, by go_num, HF.out.1, HF.out.2⟩
            case measure => simp [intOf]; omega
          | some y =>
            obtain ⟨q2, E3, d3, a3, e3, ar3, c3⟩ := y
            rw [h2] at k2
            simp only [keyV, Option.getD_some, encV_mk, Option.isSome_some] at k2
            obtain ⟨w6, hw6⟩ : ∃ x, x = w5.alloc (.cells #[.int .i64 q2, .int .i64 E3, .int .i64 d3, .int .i64 a3, .int .i64 e3, .int .i64 ar3, .int .i64 c3] 84) := ⟨_, rfl⟩
            have b6 : Below w5.heap.size w5 w6 := by rw [hw6]; exact gal w5 _
            have v0 : w6.cell? ⟨w5.heap.size, 0, none⟩ = some (.int .i64 q2) := by rw [hw6]; exact new_cell rfl rfl
            have c0 := HC.out w6 b6 0 _ rfl
            have c1 := HC.out w6 b6 1 _ rfl
            have c2' := HC.out w6 b6 2 _ rfl
            have c3' := HC.out w6 b6 3 _ rfl
            have c4 := HC.out w6 b6 4 _ rfl
            have c5 := HC.out w6 b6 5 _ rfl
            have c6 := HC.out w6 b6 6 _ rfl
            have hw6s := hw6.symm
            clear hw6 HC
            by_cases hl : q ≤ q2
            · have HT := hideg (YES.out (by rw [HV.out, h2, if_pos (by simp [leqB, hl])]))
              obtain ⟨w', hup, HF⟩ := HT.out w6 b6
              clear h2 HV YES HT HNO5
              go_wp2
              go_roundw
              case rel => exact ⟨k + 1, by omega, by go_num, HF.out.1, HF.out.2⟩
              case measure => simp [intOf]; omega
            · have HT := hideg (HNO5.out (by rw [HV.out, h2, if_neg (by simp [leqB]; omega)]) w6 b6)
              clear h2 HV YES HNO5
              go_wp2
              go_roundw
              case rel => exact ⟨k + 1, by omega, by go_num, HT.out.1, HT.out.2⟩
              case measure => simp [intOf]; omega
    · have hke : k = g.lives.length := by omega
      subst hke
      have HF := hideg hMk
      have HG := hideg (gby_trans (gby_of_below HB0.out (some b)) hg)
      clear hMk hg
      go_wp2_with fail
      refine bodyPost_end (results_none rfl _ _ _) rfl ⟨⟨_, rfl⟩, HF.out, HG.out⟩

end Go.Proofs.Ythgelfnflafoiaf

namespace Go.Proofs.Ythgelfnflafoiaf
open Go.RowKit

theorem RdOne.gby {w w' : World} {b n : Nat} {M : Mp} (hM : MapAt w b n M) (hg : w.grownBy w' (some b)) {rb o : Nat} {r : Ri} (h : RdOne w rb o r) : RdOne w' rb o r :=
  ⟨hM.cell hg h.c0, hM.cell hg h.c1, hM.cell hg h.c2, hM.cell hg h.c3, hM.cell hg h.c4, hM.cell hg h.c5⟩
theorem GBx.gby {w W W' : World} {B b n : Nat} {M : Mp} {g : Gr} {la ea : Option Addr} {lc ec : Nat} (hM : MapAt W b n M) (hg : W.grownBy W' (some b)) (h : GBx w W B g la ea lc ec) : W'.cell? ⟨B, 0, none⟩ = some (.int .i64 g.hor) ∧ W'.cell? ⟨B, 1, none⟩ = some (.slice la g.lives.length lc) ∧ W'.cell? ⟨B, 2, none⟩ = some (.slice ea g.edges.length ec) := ⟨hM.cell hg h.c0, hM.cell hg h.c1, hM.cell hg h.c2⟩

/-- the rides that are left, in a slot: i taken, m left -/
def RSl (rb cap : Nat) (l : List Ri) (u : Value) (i m : Nat) : Prop := i + m = l.length ∧ ∃ c ao, u = .slice ao m c ∧ i + c = cap ∧ (0 < m → ao = some ⟨rb, i * 6, none⟩)

theorem rides_lie {w : World} {base : Nat} {v : Value} {l : List Ri} (h : w.ownsRow base 61 6 v l.length (encRs l)) : ∃ rb cap, RSl rb cap l v 0 l.length ∧ l.length ≤ cap ∧ cap ≤ maxLen ∧ (l ≠ [] → rb < w.heap.size) ∧ ∀ j, j < l.length → RdOne w rb (j * 6) (l.getD j ri0) := by
  have h' := h
  rcases h.2 with ⟨rfl, h0⟩ | ⟨g, cap, cur, rfl, hb, hh, h3, h4, h5, h6⟩
  · have : l = [] := List.eq_nil_of_length_eq_zero h0
    subst this
    exact ⟨0, 0, ⟨rfl, 0, none, rfl, rfl, fun h => by simp at h⟩, Nat.le_refl _, Nat.zero_le _, fun h => absurd rfl h, fun j hj => by simp at hj⟩
  · refine ⟨g, cap, ⟨by omega, cap, _, rfl, by omega, fun _ => by simp⟩, h3, h4, fun _ => (Array.getElem?_eq_some_iff.1 hh).1, fun j hj => ?_⟩
    obtain ⟨f0, f1, f2, f3, f4, f5⟩ := encRs_get l j hj
    refine ⟨?_, ?_, ?_, ?_, ?_, ?_⟩
    · rw [h'.cellAt (j * 6) (by omega)]; exact f0
    · rw [h'.cellAt (j * 6 + 1) (by omega)]; exact f1
    · rw [h'.cellAt (j * 6 + 2) (by omega)]; exact f2
    · rw [h'.cellAt (j * 6 + 3) (by omega)]; exact f3
    · rw [h'.cellAt (j * 6 + 4) (by omega)]; exact f4
    · rw [h'.cellAt (j * 6 + 5) (by omega)]; exact f5

set_option maxRecDepth 100000 in
set_option maxHeartbeats 1000000 in
theorem spread_any (g : Gr) (la ea : Option Addr) (lc ec : Nat) (F : Int → Int → Option Int) (pr : Ri → Int) (s0 : Int) (fv : FuncId) (eg : ∀ args w, (callFunc fv args).run Try.prog w = .ok (.enter fv args) w) (b n : Nat) (M0 : Mp) (w : World) (hG : GAt w la ea g) (hR : Right g) (hF : FOk g F s0) (hM : MapAt w b n M0) (hn : n ≤ 200) (hs0 : 0 ≤ s0 ∧ s0 < g.hor)
    (hM0 : ∀ v t, (M0 v t).map (·.1) = F v t) (hpr : PrOk g pr) (hPb : ∀ v t p, Pd g F pr v t p → -1000000 ≤ p ∧ p ≤ 1000000)
    (hfv : ∀ r W, Calls Try.prog fv #[rideV r] W fun res w' => res = .returned (.int .i64 (pr r)) ∧ Below W.heap.size W w') :
    Calls Try.prog 47 #[.map (some b), .agg #[.int .i64 g.hor, .slice la g.lives.length lc, .slice ea g.edges.length ec], .int .i64 s0, .func (.func fv) #[] #[]] w fun res w' => (∃ v, res = .returned v) ∧ (∃ n' M, MapAt w' b n' M ∧ SpE g F pr M) ∧ w.grownBy w' (some b) := by
  obtain ⟨w1, hw1⟩ : ∃ x, x = w.alloc (.cells #[.int .i64 g.hor, .slice la g.lives.length lc, .slice ea g.edges.length ec] 25) := ⟨_, rfl⟩
  have B0 : GBx w w1 w.heap.size g la ea lc ec := by rw [hw1]; exact gbx_start w g la ea lc ec 25
  have hhor := hR.hor
  have hlv := hR.lvs
  have g0 := B0.c0
  have g1 := B0.c1
  have g2 := B0.c2
  have hw1s := hw1.symm
  have hRd := Rides_any g la ea lc ec w1 (hG.below B0.bel) hR
  have hll : (ridesF g).length ≤ 3000 := Nat.le_trans (ridesTo_len g _) (Nat.le_trans (Nat.mul_le_mul (show g.hor.toNat ≤ 100 by omega) hR.eds) (by omega))
  have HRt := hideg hR
  have HF := hideg hF
  have HPr := hideg hpr
  have HPb := hideg hPb
  have HFv := hideg hfv
  have HG0 := hideg hG
  have HM0 := hideg hM
  have HI0 : Hid (SpI g F pr s0 s0 (s0 - 1) 0 0 M0) := SpI.start hF hM0
  have HB0 := hideg B0
  clear hR hF hpr hPb hfv hG hM hM0 hw1 B0
  go_enter Try.func47, Try.ntmps47
  go_wp2_with fail
  refine hRd.mono ?_
  rintro r w2 ⟨u, rfl, hu2, hb2⟩
  have HB2 := hideg (HB0.out.below hb2)
  obtain ⟨rb, cap, hRS, hcap, hcapM, hrb, hRo⟩ := rides_lie hu2
  have HRo := hideg hRo
  have HG2 := hideg (HG0.out.below HB2.out.bel)
  have HM2 := hideg (HM0.out.below HB2.out.bel)
  have HOk : Hid (∀ r ∈ ridesF g, RideOk g r) := fun r hr => mem_rides HRt.out hr
  have HTk := hideg (fun now (k i : Nat) M (h : SpI g F pr s0 now now k i M) (hi : i < (ridesF g).length) hd => h.take HRt.out HF.out hi hd)
  have HNx := hideg (fun now (i : Nat) M (h : SpI g F pr s0 now now g.lives.length i M) hd => h.next HRt.out HF.out hd)
  have HMem : Hid (∀ (i : Nat) (hi : i < (ridesF g).length), (ridesF g)[i] ∈ ridesF g) := fun i hi => List.getElem_mem hi
  generalize hrl : ridesF g = rides at hRS hcap hRo HRo HOk HTk HNx HMem hll hrb
  clear hRd hb2 hu2 hRo g0 g1 g2 HB0 HM0 HG0 hw1s
  have HRl := hideg hrl
  clear hrl
  go_wp2_with fail
  go_loopw [8, 9] (fun u x wr => ∃ (i m nn : Nat) (now : Int) (M : Mp), RSl rb cap rides u i m ∧ x = .int .i64 now ∧ s0 ≤ now ∧ now ≤ g.hor ∧ nn ≤ n + 12 * (now - s0).toNat + i ∧ MapAt wr b nn M ∧ SpI g F pr s0 now (now - 1) 0 i M ∧ w2.grownBy wr (some b)) (fun _ x _ => (g.hor - intOf x).toNat)
  case atStart => exact ⟨0, rides.length, n, s0, M0, hRS, rfl, by omega, by omega, by omega, HM2.out, HI0.out, gby_refl _ _⟩
  case round =>
    clear hRS
    obtain ⟨i, m, nn, now, M, hRS, rfl, hnow0, hnow1, hnn, hMk, hI, hg⟩ := hrel
    obtain ⟨him, c, ao, rfl, hic, hao⟩ := hRS
    obtain ⟨g0, g1, g2⟩ := GBx.gby HM2.out hg HB2.out
    by_cases hlt : now < g.hor
    · have hww : IntKind.i64.wrap (now + 1) = now + 1 := wrap_nj _ (by omega) (by omega)
      have hWt := waitTill_any g la ea lc ec b nn M now wr (HM2.out.gat hg HG2.out) HRt.out hMk (by omega) (by omega)
      have HI := hideg (hI.waits g.lives.length).turn
      have HGr := hideg hg
      clear hI hMk hg
      generalize waitM g now M g.lives.length = M1 at HI hWt
      clear M
      go_wp2_with fail
      refine hWt.mono ?_
      rintro r w3 ⟨⟨vv, rfl⟩, hM3, hg3⟩
      have HG3 := hideg (gby_trans HGr.out hg3)
      have HM3 := hideg (hM3.mono (show nn + g.lives.length ≤ n + 12 * (now + 1 - s0).toNat + i by omega))
      clear hWt hM3 hg3 g0 g1 g2 HGr
      go_wp2_with fail
      go_loopw [8] (fun u wq => ∃ (i m : Nat) (M : Mp), RSl rb cap rides u i m ∧ MapAt wq b (n + 12 * (now + 1 - s0).toNat + i) M ∧ SpI g F pr s0 now now g.lives.length i M ∧ w2.grownBy wq (some b)) (fun u _ => match u with | .slice _ m _ => m | _ => 0)
      case atStart => exact ⟨i, m, M1, ⟨him, c, ao, rfl, hic, hao⟩, HM3.out, HI.out, HG3.out⟩
      case round =>
        clear hao hic him HM3 HI HG3 hnn
        obtain ⟨i, m, M, ⟨him, c, ao, rfl, hic, hao⟩, hMq, hI, hg⟩ := hrel
        by_cases hm : 0 < m
        · have hi : i < rides.length := by omega
          have e := hao hm
          subst e
          have hgd : rides.getD i ri0 = rides[i] := by rw [List.getD_eq_getElem?_getD, List.getElem?_eq_getElem hi]; rfl
          have hRo := RdOne.gby HM2.out hg (HRo.out i hi)
          rw [hgd] at hRo
          have hok := HOk.out _ (HMem.out i hi)
          have hprr := HPr.out _ (by rw [HRl.out]; exact HMem.out i hi)
          have hTk := HTk.out now g.lives.length i M hI hi
          have HNx1 := hideg (fun (h : now < rides[i].2.1) => HNx.out now i M hI (fun _ => h))
          have hmi : ((m : Int) > 0) := by omega
          clear hgd hao
          generalize rides[i] = rr at *
          obtain ⟨E, d, a, e, ar, cc⟩ := rr
          have ha0 := hok.a0
          have hb0 := hok.b0
          have hd0 := hok.d0
          have hd1 := hok.lt
          have hd2 := hok.hor
          simp only at ha0 hb0 hd0 hd1 hd2 hTk hRo
          have c0 := hRo.c0
          have c1 := hRo.c1
          have c2 := hRo.c2
          have c3 := hRo.c3
          have c4 := hRo.c4
          have c5 := hRo.c5
          simp only at c0 c1 c2 c3 c4 c5
          clear hok hRo
          by_cases hdn : d ≤ now
          · have ddn : decide (d ≤ now) = true := by simpa using hdn
            have hT := hTk hdn
            have hcl := fun W => HFv.out (E, d, a, e, ar, cc) W
            simp only [rideV] at hcl
            have hxb : ∀ x, M a d = some x → -1000000 ≤ x.1 ∧ x.1 ≤ 1000000 := fun x hx => HPb.out _ _ _ (hI.snd _ _ _ hx)
            have hCt : ∀ W, Below wr.heap.size wr W → True := fun _ _ => trivial
            generalize pr (E, d, a, e, ar, cc) = pp at *
            have HTa := hideg (fun W (h : Below wr.heap.size wr W) => take_any b _ M (E, d, a, e, ar, cc) pp W (hMq.below h) (by omega) ⟨wi_small (by simp only; omega) (by simp only; omega), wi_small (by simp only; omega) (by simp only; omega), wi_small (by simp only; omega) (by simp only; omega), wi_small (by simp only; omega) (by simp only; omega)⟩ hprr hxb)
            have HGr : Hid (∀ W W', Below wr.heap.size wr W → W.grownBy W' (some b) → w2.grownBy W' (some b)) := fun W W' h h' => gby_trans (gby_trans hg (gby_of_below h _)) h'
            have HT := hideg hT
            have hne : Nonempty (HeldIn wr) := ⟨⟨_, Below.refl _ _⟩⟩
            have lrb : rb < wr.heap.size := Nat.lt_of_lt_of_le (hrb (fun h => by rw [h] at hi; simp at hi)) hg.size
            have f0 := fun s : HeldIn wr => (s.h.cell (p := ⟨rb, i * 6, none⟩) lrb).trans c0
            have f1 := fun s : HeldIn wr => (s.h.cell (p := ⟨rb, i * 6 + 1, none⟩) lrb).trans c1
            have f2 := fun s : HeldIn wr => (s.h.cell (p := ⟨rb, i * 6 + 2, none⟩) lrb).trans c2
            have f3 := fun s : HeldIn wr => (s.h.cell (p := ⟨rb, i * 6 + 3, none⟩) lrb).trans c3
            have f4 := fun s : HeldIn wr => (s.h.cell (p := ⟨rb, i * 6 + 4, none⟩) lrb).trans c4
            have f5 := fun s : HeldIn wr => (s.h.cell (p := ⟨rb, i * 6 + 5, none⟩) lrb).trans c5
            clear hTk hT hI hMq hg hxb HNx1 hprr
            go_wp2_with fail
            refine wp_region_held_back _ (Below.refl _ _) (by kernel_rfl) (by simp) (by kernel_rfl) (by kernel_rfl) (by kernel_rfl) ?_
            simp only [List.pop_toArray, List.dropLast, List.back!_toArray, List.getLast!]
            repeat (go_big_quiet_step ((go_at_fn fv; exact held_of (hcl _))))
            refine wpQuiet_nil ?_
            rintro _ ⟨s, rfl⟩
            refine back_last (fun K hK => ?_)
            go_simp
            refine (HTa.out s.w s.h).mono ?_
            rintro r w5 ⟨⟨v5, rfl⟩, hM5, hg5⟩
            refine hK.out _ _ ?_
            have HM5 := hideg hM5
            have HG5 := hideg (HGr.out _ _ s.h hg5)
            clear hM5 hg5 hK K f0 f1 f2 f3 f4 f5 hne c0 c1 c2 c3 c4 c5 HTa HGr hcl hCt
            clear s
            by_cases hc1 : c = 1
            · have hm1 : m = 1 := by omega
              subst hc1
              subst hm1
              go_wp2
              go_roundw
              case rel => exact ⟨i + 1, 0, _, ⟨by omega, 0, _, rfl, by omega, fun h => absurd h (Nat.lt_irrefl _)⟩, HM5.out.mono (by omega), HT.out, HG5.out⟩
              case measure => simp
            · have hcm : m ≤ c := by omega
              have hc1' : ¬ (c : Int) = 1 := by omega
              go_wp2
              go_roundw
              case rel => exact ⟨i + 1, m - 1, _, ⟨by omega, c - 1, _, rfl, by omega, fun _ => by simp⟩, HM5.out.mono (by omega), HT.out, HG5.out⟩
              case measure => simp; omega
          · have ddn : decide (d ≤ now) = false := by simpa using hdn
            have HN := hideg (HNx1.out (by simp only; omega))
            have HM5 := hideg hMq
            have HG5 := hideg hg
            clear hTk hI hMq hg HNx1 hprr HTk
            go_wp2
            go_roundw
            case rel => exact ⟨i, m, _, now + 1, M, ⟨him, c, _, rfl, hic, fun _ => rfl⟩, rfl, by omega, by omega, Nat.le_refl _, HM5.out, HN.out, HG5.out⟩
            case measure => simp [intOf]; omega
        · have hm0 : m = 0 := by omega
          subst hm0
          have HN := hideg (HNx.out now i M hI (fun hi => by omega))
          have HM5 := hideg hMq
          have HG5 := hideg hg
          clear hI hMq hg HTk hao
          go_wp2
          go_roundw
          case rel => exact ⟨i, 0, _, now + 1, M, ⟨him, c, _, rfl, hic, fun h => absurd h (Nat.lt_irrefl _)⟩, rfl, by omega, by omega, Nat.le_refl _, HM5.out, HN.out, HG5.out⟩
          case measure => simp [intOf]; omega
    · have e : now = g.hor := by omega
      subst e
      have HE := hideg (hI.fin HRt.out HF.out)
      have HM5 := hideg hMk
      have HG5 := hideg (gby_trans (gby_of_below HB2.out.bel (some b)) hg)
      clear hI hMk hg
      go_wp2_with fail
      refine bodyPost_end (results_none rfl _ _ _) rfl ⟨⟨_, rfl⟩, ⟨nn, M, HM5.out, HE.out⟩, HG5.out⟩

end Go.Proofs.Ythgelfnflafoiaf

namespace Go.Proofs.Ythgelfnflafoiaf
open Go.RowKit

theorem stopHereP {p : Prop} (h : Hid p) : p := h
theorem wrap_rp (n : Int) (h0 : -9223372036854775808 ≤ n) (h1 : n < 9223372036854775808) : IntKind.i64.wrap n = n := by
  simp only [IntKind.wrap, IntKind.bits, IntKind.signed]
  simp
  omega
theorem run_copy_splice {P : Program} (w : World) (dT sT ty elem : TypeId) (hu : P.underlying dT = some (.slice elem)) (hsz : (P.info? elem).map (·.size) = some 1)
    (dp sp : Option Addr) (dLen dCap sLen sCap : Nat) (g off : Nat) (cur : List Value) (t : TypeId) (hg : w.heap[g]? = some (.cells cur.toArray t (0, 0))) (cs : List Value) (hn : cs.length = Nat.min sLen dLen)
    (hpos : 0 < cs.length → dp = some ⟨g, off, none⟩ ∧ ∃ ad, sp = some ad ∧ ∀ j v, cs[j]? = some v → w.cell? (ad.add j) = some v)
    (hfit : off + cs.length ≤ cur.length) (h1 : ∀ v ∈ cs, v.oneCell' = true) (B : Nat) (w0 : World) (hb : Below B w0 w) (hBg : B ≤ g) :
    ∃ w', (Builtin.copy_ #[dT, sT] ty #[.slice dp dLen dCap, .slice sp sLen sCap]).run P w = .ok (goInt cs.length) w' ∧ Hid (w'.heap[g]? = some (.cells (splice cur off cs).toArray t (0, 0))) ∧ Below B w0 w' := by
  by_cases h0 : cs.length = 0
  · obtain rfl : cs = [] := List.eq_nil_of_length_eq_zero h0
    exact ⟨w, run_copy_none (P := P) w dT sT ty elem dp sp dLen dCap sLen sCap hu hsz (by simpa using hn.symm), (show _ = _ by simpa [splice] using hg), hb⟩
  · obtain ⟨rfl, ad, rfl, hsrc⟩ := hpos (by omega)
    refine ⟨_, run_copy_row (P := P) w dT sT ty elem g off dLen dCap ad sLen sCap cur.toArray t cs hu hsz hg hn hsrc (by simpa using hfit) h1, ?_, below_setRow hb hBg _⟩
    exact (show _ = _ by simpa [splice] using setRow_heap w g _ _ t _ hg)
theorem splice_rep {N k m : Nat} {x : Int} {cur : List Value} (hl : cur.length = N) (hc : cur.take k = (List.replicate k x).map (Value.int .i64)) (hm : k + m ≤ N) :
    (splice cur k ((List.replicate m x).map (Value.int .i64))).length = N ∧ (splice cur k ((List.replicate m x).map (Value.int .i64))).take (k + m) = (List.replicate (k + m) x).map (Value.int .i64) := by
  refine ⟨by rw [length_splice _ _ _ (by simp; omega), hl], ?_⟩
  unfold splice
  rw [hc, ← List.append_assoc, ← List.map_append, List.replicate_append_replicate, List.take_append_of_le_length (by simp)]
  exact List.take_of_length_le (by simp)

set_option maxRecDepth 100000 in
set_option maxHeartbeats 4000000 in
theorem Repeat_any (x : Int) (ab ao cap N : Nat) (hN : N ≤ 100) (w : World) (hx : w.cell? ⟨ab, ao, none⟩ = some (.int .i64 x)) (hab : ab < w.heap.size) :
    Calls Try.prog 40 #[.slice (some ⟨ab, ao, none⟩) 1 cap, .int .i64 N] w fun e w' => e = .returned (.slice (some ⟨w.heap.size, 0, none⟩) N N) ∧ Zo w' w.heap.size w.heap.size N N (List.replicate N x) ∧ Below w.heap.size w w' := by
  obtain ⟨i0, hi, hz0, hz1, hz2⟩ := info_parts Try.infoInt
  have hMul := fun W => Try.bits_Mul 1 N (by omega) (by omega) W
  have e1 : (1 * N / 18446744073709551616 : Nat) = 0 := by omega
  have e2 : (1 * N % 18446744073709551616 : Nat) = N := by omega
  rw [e1, e2] at hMul
  have hszI : (Try.prog.info? 3).map (·.size) = some 1 := by rw [hi]; simp [hz1]
  have hN0 : ¬ (N : Int) < 0 := by omega
  have hwu : IntKind.u64.wrap (N : Int) = (N : Int) := by simp only [IntKind.wrap, IntKind.bits, IntKind.signed]; simp; omega
  have hwi : IntKind.i64.wrap (N : Int) = (N : Int) := wrap_rp _ (by omega) (by omega)
  have HX := hidep hx
  clear hx e1 e2
  go_enter Try.func40, Try.ntmps40
  go_wp2_with fail
  refine (hMul _).mono ?_
  rintro e w' ⟨rfl, hw'⟩
  rw [hw']
  clear hw' hMul
  go_wp2_with (at_make; refine wpList_make_full _ rfl _ _ 26 rfl w.heap.size 3 i0 (.int .i64 0) 1 Try.underlying26 hi hz0 hz1 .i64 .i64 _ _ N rfl rfl rfl rfl (by rw [hz2]; omega) (by unfold maxLen; omega) (by simp) ?_; intro w0 hown0 hgrow0)
  have hb0 : Below w.heap.size w w0 := (Below.refl _ _).grown hgrow0 (Nat.le_refl _) (fun k hk => by cases hk)
  have hx0 : w0.cell? ⟨ab, ao, none⟩ = some (.int .i64 x) := (hb0.cell (p := ⟨ab, ao, none⟩) hab).trans HX.out
  have e1 : (madeCells (Value.int .i64 0).cells (N * 1)).toList = (List.replicate N 0).map (Value.int .i64) := by
    rw [Nat.mul_one]
    show (madeCells #[Value.int .i64 0] N).toList = _
    rw [toList_madeCells_one, List.map_replicate]
  rw [e1] at hown0
  obtain ⟨cur0, hcl0, hg0⟩ : ∃ cur0 : List Value, cur0.length = N ∧ w0.heap[w.heap.size]? = some (.cells cur0.toArray 3 (0, 0)) := by
    rcases hown0.2 with ⟨h, _⟩ | ⟨g, cap', cur, e, _, hg, _, _, hcs, _⟩
    · cases h
    · cases e; exact ⟨cur.toList, by simpa using hcs, by simpa using hg⟩
  clear hown0 hgrow0 e1
  obtain ⟨m, hm⟩ : ∃ m, m = Nat.min 1 N := ⟨_, rfl⟩
  have hm1 : m ≤ 1 ∧ m ≤ N ∧ (N = 0 ∨ 1 ≤ m) := by
    have hm' : m = min 1 N := hm
    omega
  obtain ⟨cs, hcs⟩ : ∃ cs, cs = (List.replicate m x).map (Value.int .i64) := ⟨_, rfl⟩
  have hcl : cs.length = m := by rw [hcs]; simp
  have hc1 : ∀ v ∈ cs, v.oneCell' = true := by rw [hcs]; intro v hv; simp at hv; rw [hv.2]; rfl
  have hcg : ∀ j v, cs[j]? = some v → w0.cell? ((⟨ab, ao, none⟩ : Addr).add j) = some v := by
    intro j v hv
    rw [hcs] at hv
    have h0 : j = 0 := by
      have := (List.getElem?_eq_some_iff.1 hv).1
      simp at this; omega
    subst h0
    have := (List.getElem?_eq_some_iff.1 hv).2
    simp at this
    rw [← this]; simpa [Addr.add] using hx0
  have HCs := hidep hcs
  have HS := hidep (splice_rep (k := 0) (m := m) (x := x) hcl0 (by simp) (by omega))
  have HM := hidep hm
  have hm1i : (m : Int) ≤ N := by omega
  clear hcs hm
  obtain ⟨w1, hrun, hg1, hb1⟩ := run_copy_splice (P := Try.prog) w0 26 26 3 3 Try.underlying26 hszI (some ⟨w.heap.size, 0, none⟩) (some ⟨ab, ao, none⟩) N N 1 cap w.heap.size 0 cur0 3 hg0 cs (by rw [hcl, HM.out]) (fun _ => ⟨rfl, _, rfl, hcg⟩) (by omega) hc1 w.heap.size w hb0 (Nat.le_refl _)
  rw [hrun, hcl]
  clear hrun hc1 hcg hcl hg0 hb0 hx0
  simp only [Result.andThen]
  go_wp2_with fail
  go_loopw [8] (fun n wr => ∃ (k : Nat) (cur : List Value), k ≤ N ∧ (N = 0 ∨ 1 ≤ k) ∧ n = .int .i64 k ∧ cur.length = N ∧ cur.take k = (List.replicate k x).map (Value.int .i64) ∧ Hid (wr.heap[w.heap.size]? = some (.cells cur.toArray 3 (0, 0))) ∧ Below w.heap.size w wr) (fun n _ => N - (intOf n).toNat)
  case atStart =>
    refine ⟨m, splice cur0 0 cs, by omega, by omega, rfl, ?_, ?_, hg1, hb1⟩
    · rw [HCs.out]; exact HS.out.1
    · rw [HCs.out]; have := HS.out.2; rwa [Nat.zero_add] at this
  case round =>
    clear hg1 hb1 HCs HS HM
    obtain ⟨k, cur, hk, hk1, rfl, hcl, hct, hg, hb⟩ := hrel
    by_cases hkN : k < N
    · have hkNi : (k : Int) < (N : Int) := by omega
      have hne : ¬ N = k := by omega
      obtain ⟨m2, hm2⟩ : ∃ m, m = Nat.min k (N - k) := ⟨_, rfl⟩
      have hm2' : m2 ≤ k ∧ k + m2 ≤ N ∧ 1 ≤ m2 := by
        have hm' : m2 = min k (N - k) := hm2
        omega
      obtain ⟨cs2, hcs2⟩ : ∃ cs, cs = (List.replicate m2 x).map (Value.int .i64) := ⟨_, rfl⟩
      have hcl2 : cs2.length = m2 := by rw [hcs2]; simp
      have hc12 : ∀ v ∈ cs2, v.oneCell' = true := by rw [hcs2]; intro v hv; simp at hv; rw [hv.2]; rfl
      have hcg2 : ∀ j v, cs2[j]? = some v → wr.cell? ((⟨w.heap.size, 0, none⟩ : Addr).add j) = some v := by
        intro j v hv
        have hj := (List.getElem?_eq_some_iff.1 hv).1
        rw [hcl2] at hj
        rw [hcs2] at hv
        have h1 : (cur.take k)[j]? = some v := by
          rw [hct]
          simp [show j < k by omega, show j < m2 by omega] at hv ⊢
          exact hv
        rw [List.getElem?_take_of_lt (by omega)] at h1
        have hgo := hg.out
        have ea : (⟨w.heap.size, 0, none⟩ : Addr).add j = ⟨w.heap.size, j, none⟩ := by unfold Addr.add; split <;> simp_all
        rw [ea]
        simp [World.cell?, hgo, h1]
      have HE2 : Hid ((splice cur k cs2).length = N ∧ (splice cur k cs2).take (k + m2) = (List.replicate (k + m2) x).map (Value.int .i64)) := by
        rw [hcs2]; exact splice_rep hcl hct hm2'.2.1
      have hfit2 : k + cs2.length ≤ cur.length := by omega
      have hwk : IntKind.i64.wrap ((k : Int) + (m2 : Int)) = (k : Int) + (m2 : Int) := wrap_rp _ (by omega) (by omega)
      have HM2 := hidep hm2
      have hsub : ((N : Int) - (k : Int)).toNat = N - k := by omega
      clear hcs2 hm2 hct
      go_wp2_with fail
      refine Go.wp_region_held (S := fun _ => True) (by kernel_rfl) ?_
      have hSw : True := trivial
      refine take_lit (i := 0) (v := ?_) rfl (by kernel_rfl) (by kernel_rfl) (by kernel_rfl) (fun _ _ _ h => h) (Or.inl ⟨by rfl, ?hy0⟩) (by assumption) ?_
      case hy0 => (intro w hSw; (try dsimp only at hSw); go_simp; try with_reducible rfl)
      try simp only [Act.put, List.setIfInBounds_toArray, List.set_cons_zero, List.set_cons_succ]
      refine take_lit (i := 1) (v := ?_) rfl (by kernel_rfl) (by kernel_rfl) (by kernel_rfl) (fun _ _ _ h => h) (Or.inl ⟨by rfl, ?hy1⟩) (by assumption) ?_
      case hy1 => (intro w hSw; (try dsimp only at hSw); go_simp; try with_reducible rfl)
      try simp only [Act.put, List.setIfInBounds_toArray, List.set_cons_zero, List.set_cons_succ]
      refine take_lit (i := 2) (v := ?_) rfl (by kernel_rfl) (by kernel_rfl) (by kernel_rfl) (fun _ _ _ h => h) (Or.inl ⟨by rfl, ?hy2⟩) (by assumption) ?_
      case hy2 => (intro w hSw; (try dsimp only at hSw); go_simp; try with_reducible rfl)
      try simp only [Act.put, List.setIfInBounds_toArray, List.set_cons_zero, List.set_cons_succ]
      refine take_lit (i := 3) (v := ?_) rfl (by kernel_rfl) (by kernel_rfl) (by kernel_rfl) (fun _ _ _ h => h) (Or.inl ⟨by rfl, ?hy3⟩) (by assumption) ?_
      case hy3 => (intro w hSw; (try dsimp only at hSw); go_simp; try with_reducible rfl)
      try simp only [Act.put, List.setIfInBounds_toArray, List.set_cons_zero, List.set_cons_succ]
      refine take_lit (i := 4) (v := ?_) rfl (by kernel_rfl) (by kernel_rfl) (by kernel_rfl) (fun _ _ _ h => h) (Or.inl ⟨by rfl, ?hy4⟩) (by assumption) ?_
      case hy4 => (intro w hSw; (try dsimp only at hSw); go_simp; try with_reducible rfl)
      try simp only [Act.put, List.setIfInBounds_toArray, List.set_cons_zero, List.set_cons_succ]
      refine take_lit (i := 5) (v := ?_) rfl (by kernel_rfl) (by kernel_rfl) (by kernel_rfl) (fun _ _ _ h => h) (Or.inl ⟨by rfl, ?hy5⟩) (by assumption) ?_
      case hy5 => (intro w hSw; (try dsimp only at hSw); go_simp; try with_reducible rfl)
      try simp only [Act.put, List.setIfInBounds_toArray, List.set_cons_zero, List.set_cons_succ]
      refine take_lit (i := 6) (v := ?_) rfl (by kernel_rfl) (by kernel_rfl) (by kernel_rfl) (fun _ _ _ h => h) (Or.inl ⟨by rfl, ?hy6⟩) (by assumption) ?_
      case hy6 => (intro w hSw; (try dsimp only at hSw); go_simp; try with_reducible rfl)
      try simp only [Act.put, List.setIfInBounds_toArray, List.set_cons_zero, List.set_cons_succ]
      refine next_lit (i := 7) rfl (by kernel_rfl) (fun K hK => ?_)
      go_simp
      obtain ⟨w4, hrun, hg4, hb4⟩ := run_copy_splice (P := Try.prog) wr.drew 26 26 3 3 Try.underlying26 hszI (some ⟨w.heap.size, k, none⟩) (some ⟨w.heap.size, 0, none⟩) (N - k) (N - k) k N w.heap.size k cur 3 hg.out cs2 (by rw [hcl2, HM2.out]) (fun _ => ⟨rfl, _, rfl, hcg2⟩) hfit2 hc12 w.heap.size w (below_drewN hb 1) (Nat.le_refl _)
      rw [hrun, hcl2]
      clear hrun
      simp only [Result.andThen]
      go_simp
      refine hK.out _ _ trivial (fun _ => ?_)
      clear hK K
      try simp only [Act.put, List.setIfInBounds_toArray, List.set_cons_zero, List.set_cons_succ]
      refine take_lit (i := 8) (v := ?_) rfl (by kernel_rfl) (by kernel_rfl) (by kernel_rfl) (fun _ _ _ h => h) (Or.inl ⟨by rfl, ?hy8⟩) (by assumption) ?_
      case hy8 => (intro w hSw; (try dsimp only at hSw); go_simp; try with_reducible rfl)
      try simp only [Act.put, List.setIfInBounds_toArray, List.set_cons_zero, List.set_cons_succ]
      refine take_lit (i := 9) (v := ?_) rfl (by kernel_rfl) (by kernel_rfl) (by kernel_rfl) (fun _ _ _ h => h) (Or.inl ⟨by rfl, ?hy9⟩) (by assumption) ?_
      case hy9 => (intro w hSw; (try dsimp only at hSw); go_simp; try with_reducible rfl)
      try simp only [Act.put, List.setIfInBounds_toArray, List.set_cons_zero, List.set_cons_succ]
      refine wpAnyH_done (by kernel_rfl) ?_ _
      go_wp2
      go_roundw
      case rel => exact ⟨k + m2, splice cur k cs2, by omega, by omega, by go_num, HE2.out.1, HE2.out.2, hg4, hb4⟩
      case measure => simp [intOf]; omega
    · have hke : N = k := by omega
      subst hke
      have HZ : Hid (Zo wr w.heap.size w.heap.size N N (List.replicate N x)) := by
        refine ⟨by simp, .inr ⟨w.heap.size, N, cur.toArray, rfl, Nat.le_refl _, hg.out, Nat.le_refl _, by unfold maxLen; omega, by simp [hcl], by simpa using hct⟩⟩
      clear hct hg hcl
      go_wp2
      go_ret
      exact ⟨rfl, HZ.out, hb⟩

end Go.Proofs.Ythgelfnflafoiaf

namespace Go.Proofs.Ythgelfnflafoiaf
open Go.RowKit

set_option maxRecDepth 100000 in
set_option maxHeartbeats 1000000 in
theorem Alive_any (h : Int) (la ea : Option Addr) (lc ne ec : Nat) (lives : List (Int × Int)) (v : Nat) (t : Int) (w : World) (hl : IvAt w la lives) (hv : v < lives.length) (hn : lives.length ≤ 9223372036854775807) :
    Calls Try.prog 17 #[.agg #[.int .i64 h, .slice la lives.length lc, .slice ea ne ec], .int .i64 v, .int .i64 t] w fun r w' => r = .returned (.bool (aliveB t lives v)) ∧ Below w.heap.size w w' := by
  have HB := hideg (gal w)
  rcases hl with h0 | ⟨b, off, rfl, hbr, hc⟩
  · subst h0; simp at hv
  obtain ⟨c0, c1⟩ := IvAt.get hv hc
  have HA := hideg (aliveB_at t lives v hv)
  clear hc
  have i1 : (v : Int) < (lives.length : Int) := by omega
  have i2 : (0 : Int) ≤ (v : Int) := by omega
  by_cases g1 : lives[v].1 ≤ t
  · by_cases g2 : t < lives[v].2
    · have HR := hideg ((hasB_iff _ _ _).2 ⟨g1, g2⟩)
      go_enter Try.func17, Try.ntmps17
      go_wp2
      go_ret
      exact ⟨ret_bool (by rw [HA.out, HR.out]), HB.out _⟩
    · have HR := hideg (hasB_no (a := lives[v].1) (b := lives[v].2) (t := t) (by omega))
      go_enter Try.func17, Try.ntmps17
      go_wp2
      go_ret
      exact ⟨ret_bool (by rw [HA.out, HR.out]), HB.out _⟩
  · have HR := hideg (hasB_no (a := lives[v].1) (b := lives[v].2) (t := t) (by omega))
    go_enter Try.func17, Try.ntmps17
    go_wp2
    go_ret
    exact ⟨ret_bool (by rw [HA.out, HR.out]), HB.out _⟩

end Go.Proofs.Ythgelfnflafoiaf

namespace Go.Proofs.Ythgelfnflafoiaf
open Go.RowKit

theorem wrap_nr (n : Int) (h0 : -9223372036854775808 ≤ n) (h1 : n < 9223372036854775808) : IntKind.i64.wrap n = n := by
  simp only [IntKind.wrap, IntKind.bits, IntKind.signed]
  simp
  omega

/-- a graph in a box -/
structure GBox (w W : World) (B : Nat) (g : Gr) (la ea : Option Addr) (lc ec : Nat) : Prop where
  c0 : W.cell? ⟨B, 0, none⟩ = some (.int .i64 g.hor)
  c1 : W.cell? ⟨B, 1, none⟩ = some (.slice la g.lives.length lc)
  c2 : W.cell? ⟨B, 2, none⟩ = some (.slice ea g.edges.length ec)
  bel : Below w.heap.size w W
  lt : B < W.heap.size
theorem gbox_start (w : World) (g : Gr) (la ea : Option Addr) (lc ec : Nat) (T : TypeId) : GBox w (w.alloc (.cells #[.int .i64 g.hor, .slice la g.lives.length lc, .slice ea g.edges.length ec] T)) w.heap.size g la ea lc ec :=
  ⟨by simp, by simp, by simp, gal w _, by simp⟩
theorem GBox.below {w W W' : World} {B : Nat} {g : Gr} {la ea : Option Addr} {lc ec : Nat} (h : GBox w W B g la ea lc ec) (hb : Below W.heap.size W W') : GBox w W' B g la ea lc ec :=
  ⟨(hb.cell (p := ⟨B, 0, none⟩) h.lt).trans h.c0, (hb.cell (p := ⟨B, 1, none⟩) h.lt).trans h.c1, (hb.cell (p := ⟨B, 2, none⟩) h.lt).trans h.c2, ptg h.bel hb, Nat.lt_of_lt_of_le h.lt hb.size⟩
theorem GBox.drewN {w W : World} {B : Nat} {g : Gr} {la ea : Option Addr} {lc ec : Nat} (h : GBox w W B g la ea lc ec) (n : Nat) : GBox w (W.drewN n) B g la ea lc ec := ⟨h.c0, h.c1, h.c2, below_drewN h.bel n, h.lt⟩

/-- a graph, an edge and a leg in boxes -/
structure LBox (w W : World) (B E K : Nat) (g : Gr) (la ea : Option Addr) (lc ec : Nat) (e : Ed) (l : Lg) : Prop where
  gb : GBox w W B g la ea lc ec
  e0 : W.cell? ⟨E, 0, none⟩ = some (.int .i64 e.1)
  e1 : W.cell? ⟨E, 1, none⟩ = some (.int .i64 e.2.1)
  l2 : W.cell? ⟨K, 2, none⟩ = some (.int .i64 l.2.2.1)
  l3 : W.cell? ⟨K, 3, none⟩ = some (.int .i64 l.2.2.2)
  ltE : E < W.heap.size
  ltK : K < W.heap.size
theorem LBox.below {w W W' : World} {B E K : Nat} {g : Gr} {la ea : Option Addr} {lc ec : Nat} {e : Ed} {l : Lg} (h : LBox w W B E K g la ea lc ec e l) (hb : Below W.heap.size W W') : LBox w W' B E K g la ea lc ec e l :=
  ⟨h.gb.below hb, (hb.cell (p := ⟨E, 0, none⟩) h.ltE).trans h.e0, (hb.cell (p := ⟨E, 1, none⟩) h.ltE).trans h.e1, (hb.cell (p := ⟨K, 2, none⟩) h.ltK).trans h.l2, (hb.cell (p := ⟨K, 3, none⟩) h.ltK).trans h.l3, Nat.lt_of_lt_of_le h.ltE hb.size, Nat.lt_of_lt_of_le h.ltK hb.size⟩

/-- what Lands tells -/
def landsV (o : Option (Int × Int)) : Value := .tuple #[.int .i64 (o.getD (0, 0)).1, .int .i64 (o.getD (0, 0)).2, .bool o.isSome]

end Go.Proofs.Ythgelfnflafoiaf

namespace Go.Proofs.Ythgelfnflafoiaf
open Go.RowKit

theorem results_two_e {fn : Func} {t u : Tmp} (h : fn.results = #[.tmp t, .tmp u]) (tmps : Array Value) (P : Program) (w : World) :
    (results fn tmps).run P w = .ok (.tuple #[tmps.getD t undef, tmps.getD u undef]) w := by
  simp [results, h]
theorem made_six (n : Nat) : (madeCells (Value.agg #[.int .i64 0, .int .i64 0, .int .i64 0, .int .i64 0, .int .i64 0, .int .i64 0]).cells (n * 6)).toList = encRs (List.replicate n (0, 0, 0, 0, 0, 0)) := by
  apply List.ext_getElem?
  intro j
  have hl : (madeCells (Value.agg #[.int .i64 0, .int .i64 0, .int .i64 0, .int .i64 0, .int .i64 0, .int .i64 0]).cells (n * 6)).toList.length = n * 6 := by rw [Array.length_toList, size_madeCells]
  by_cases hj : j < n * 6
  · have e0 : ∀ x ∈ encRs (List.replicate n ((0 : Int), (0 : Int), (0 : Int), (0 : Int), (0 : Int), (0 : Int))), x = Value.int .i64 0 := by
      intro x hx
      unfold encRs at hx
      simp only [List.mem_flatMap, List.mem_replicate] at hx
      obtain ⟨y, ⟨_, rfl⟩, hy⟩ := hx
      simp [encR] at hy
      exact hy
    have hj2 : j < (encRs (List.replicate n ((0 : Int), (0 : Int), (0 : Int), (0 : Int), (0 : Int), (0 : Int)))).length := by rw [encRs_length, List.length_replicate]; exact hj
    rw [List.getElem?_eq_getElem (by omega), List.getElem?_eq_getElem hj2, e0 _ (List.getElem_mem hj2)]
    congr 1
    have h3 : (Value.agg #[.int .i64 0, .int .i64 0, .int .i64 0, .int .i64 0, .int .i64 0, .int .i64 0]).cells = #[Value.int .i64 0, .int .i64 0, .int .i64 0, .int .i64 0, .int .i64 0, .int .i64 0] := by rfl
    simp only [madeCells, h3, Array.getElem_toList, Array.getElem_map, Array.getElem_range]
    have : j % 6 = 0 ∨ j % 6 = 1 ∨ j % 6 = 2 ∨ j % 6 = 3 ∨ j % 6 = 4 ∨ j % 6 = 5 := by omega
    rcases this with e | e | e | e | e | e <;> simp [e]
  · rw [List.getElem?_eq_none (by omega), List.getElem?_eq_none (by rw [encRs_length, List.length_replicate]; omega)]
theorem encRs_cons (x : Ri) (l : List Ri) : encRs (x :: l) = .int .i64 x.1 :: .int .i64 x.2.1 :: .int .i64 x.2.2.1 :: .int .i64 x.2.2.2.1 :: .int .i64 x.2.2.2.2.1 :: .int .i64 x.2.2.2.2.2 :: encRs l := by simp [encRs, encR]
theorem encRs_set : ∀ (m : List Ri) (k : Nat) (q : Ri), k < m.length → ((((((encRs m).set (k * 6) (.int .i64 q.1)).set (k * 6 + 1) (.int .i64 q.2.1)).set (k * 6 + 2) (.int .i64 q.2.2.1)).set (k * 6 + 3) (.int .i64 q.2.2.2.1)).set (k * 6 + 4) (.int .i64 q.2.2.2.2.1)).set (k * 6 + 5) (.int .i64 q.2.2.2.2.2) = encRs (m.set k q)
  | [], k, q, h => by simp at h
  | x :: m, 0, q, _ => by
    have e : (x :: m).set 0 q = q :: m := rfl
    rw [e, encRs_cons, encRs_cons]; rfl
  | x :: m, k + 1, q, h => by
    have ih := encRs_set m k q (by simpa using h)
    have e : (x :: m).set (k + 1) q = x :: m.set k q := rfl
    rw [e, encRs_cons, encRs_cons, ← ih, show (k + 1) * 6 = k * 6 + 1 + 1 + 1 + 1 + 1 + 1 from by omega]
    rfl
/-- a row of rides, in memory of the call's own -/
abbrev Ro (w : World) (base gb n cap : Nat) (x : List Ri) : Prop := w.ownsRow base 61 6 (.slice (some ⟨gb, 0, none⟩) n cap) n (encRs x)
theorem Ro.len {w : World} {base gb n cap : Nat} {x : List Ri} (h : Ro w base gb n cap x) : x.length = n := by have := h.1; rw [encRs_length] at this; omega
theorem Ro.one {w : World} {base gb n cap : Nat} {x : List Ri} (h : Ro w base gb n cap x) {k : Nat} (hk : k < n) : RdOne w gb (k * 6) (x.getD k ri0) := by
  have hl := h.len
  obtain ⟨f0, f1, f2, f3, f4, f5⟩ := encRs_get x k (by omega)
  refine ⟨?_, ?_, ?_, ?_, ?_, ?_⟩
  · rw [World.ownsRow.cellAt h (k * 6) (by omega)]; exact f0
  · rw [World.ownsRow.cellAt h (k * 6 + 1) (by omega)]; exact f1
  · rw [World.ownsRow.cellAt h (k * 6 + 2) (by omega)]; exact f2
  · rw [World.ownsRow.cellAt h (k * 6 + 3) (by omega)]; exact f3
  · rw [World.ownsRow.cellAt h (k * 6 + 4) (by omega)]; exact f4
  · rw [World.ownsRow.cellAt h (k * 6 + 5) (by omega)]; exact f5
/-- a ride written into five cells -/
def setR (w : World) (gb k : Nat) (q : Ri) : World := (((((w.setCell ⟨gb, k * 6, none⟩ (.int .i64 q.1)).setCell ⟨gb, k * 6 + 1, none⟩ (.int .i64 q.2.1)).setCell ⟨gb, k * 6 + 2, none⟩ (.int .i64 q.2.2.1)).setCell ⟨gb, k * 6 + 3, none⟩ (.int .i64 q.2.2.2.1)).setCell ⟨gb, k * 6 + 4, none⟩ (.int .i64 q.2.2.2.2.1)).setCell ⟨gb, k * 6 + 5, none⟩ (.int .i64 q.2.2.2.2.2)
theorem Ro.set {w : World} {base gb n cap : Nat} {x : List Ri} (h : Ro w base gb n cap x) {k : Nat} (hk : k < n) (q : Ri) : Ro (setR w gb k q) base gb n cap (x.set k q) := by
  have hl := h.len
  have h5 := (World.ownsRow.stored ((World.ownsRow.stored ((World.ownsRow.stored ((World.ownsRow.stored ((World.ownsRow.stored ((World.ownsRow.stored h (k * 6) (.int .i64 q.1)).1) (k * 6 + 1) (.int .i64 q.2.1)).1) (k * 6 + 2) (.int .i64 q.2.2.1)).1) (k * 6 + 3) (.int .i64 q.2.2.2.1)).1) (k * 6 + 4) (.int .i64 q.2.2.2.2.1)).1) (k * 6 + 5) (.int .i64 q.2.2.2.2.2)).1
  rw [encRs_set x k q (by omega)] at h5
  exact h5
theorem setR_other {w : World} {base : Nat} {e : TypeId} {size : Nat} {v : Value} {n : Nat} {xs : List Value} (h : w.ownsRow base e size v n xs) {gb k : Nat} (ha : v.ownBlock ≠ some gb) (q : Ri) : (setR w gb k q).ownsRow base e size v n xs :=
  ownsRow_setCell_other (ownsRow_setCell_other (ownsRow_setCell_other (ownsRow_setCell_other (ownsRow_setCell_other (ownsRow_setCell_other h ha _) ha _) ha _) ha _) ha _) ha _
theorem setR_below {B : Nat} {w0 w : World} (h : Below B w0 w) {gb : Nat} (hg : B ≤ gb) (k : Nat) (q : Ri) : Below B w0 (setR w gb k q) :=
  (((((h.setCell (p := ⟨gb, k * 6, none⟩) hg _).setCell (p := ⟨gb, k * 6 + 1, none⟩) hg _).setCell (p := ⟨gb, k * 6 + 2, none⟩) hg _).setCell (p := ⟨gb, k * 6 + 3, none⟩) hg _).setCell (p := ⟨gb, k * 6 + 4, none⟩) hg _).setCell (p := ⟨gb, k * 6 + 5, none⟩) hg _
theorem cellFar {w : World} {b j b' j' : Nat} {v : Value} (h : b' ≠ b) : (w.setCell ⟨b, j, none⟩ v).cell? ⟨b', j', none⟩ = w.cell? ⟨b', j', none⟩ := by
  refine World.cell?_setCell_other _ _ _ _ (fun e => h ?_)
  have := congrArg Addr.block e
  exact this.symm
theorem own_none {v : Value} {b : Nat} (h : ∀ k, v.ownBlock = some k → b < k) : v.ownBlock ≠ some b := fun e => Nat.lt_irrefl _ (h b e)

/-- what earliest holds while it looks at the rides -/
structure ErSt (w0 w : World) (m1 m2 m3 n : Nat) (u : Value) (rides : List Ri) (T : List Int) (L : List Ri) : Prop where
  t : Zo w w0.heap.size m1 n n T
  l : Ro w w0.heap.size m2 n n L
  r : w.ownsRow m3 61 6 u rides.length (encRs rides)
  b : Below w0.heap.size w0 w
theorem ErSt.below {w0 w w' : World} {m1 m2 m3 n : Nat} {u : Value} {rides : List Ri} {T : List Int} {L : List Ri} (h : ErSt w0 w m1 m2 m3 n u rides T L) (hb : Below w.heap.size w w') : ErSt w0 w' m1 m2 m3 n u rides T L :=
  ⟨ownsRow_below h.t hb, ownsRow_below h.l hb, ownsRow_below h.r hb, h.b.trans (hb.mono h.b.size)⟩
theorem ErSt.set {w0 w : World} {m1 m2 m3 n : Nat} {u : Value} {rides : List Ri} {T : List Int} {L : List Ri} (h : ErSt w0 w m1 m2 m3 n u rides T L) (h12 : m1 < m2) (h23 : m2 < m3) {k : Nat} (hk : k < n) (x : Int) (q : Ri) :
    ErSt w0 (setR (w.setCell ⟨m1, k, none⟩ (.int .i64 x)) m2 k q) m1 m2 m3 n u rides (T.set k x) (L.set k q) := by
  have hm1 : w0.heap.size ≤ m1 := (h.t.lt m1 rfl).1
  have hu : ∀ b, b < m3 → u.ownBlock ≠ some b := fun b hb => own_none fun k hk => Nat.lt_of_lt_of_le hb (h.r.lt k hk).1
  refine ⟨setR_other (h.t.set k x) (by simp [Value.ownBlock]; omega) q, ?_, setR_other (ownsRow_setCell_other h.r (hu m1 (by omega)) _) (hu m2 h23) q, setR_below (h.b.setCell (p := ⟨m1, k, none⟩) hm1 _) (by omega) k q⟩
  exact Ro.set (ownsRow_setCell_other h.l (by simp [Value.ownBlock]; omega) _) hk q
theorem ErSt.ride {w0 w : World} {m1 m2 m3 n : Nat} {u : Value} {rides : List Ri} {T : List Int} {L : List Ri} (h : ErSt w0 w m1 m2 m3 n u rides T L) {k : Nat} (hk : k < rides.length) : ∃ rb cap, u = .slice (some ⟨rb, 0, none⟩) rides.length cap ∧ rb < w.heap.size ∧ RdOne w rb (k * 6) (rides.getD k ri0) := by
  have hr := h.r
  rcases hr.2 with ⟨_, h0⟩ | ⟨rb, cap, cur, e, _, hh, _⟩
  · omega
  · rw [e] at hr
    exact ⟨rb, cap, e, (Array.getElem?_eq_some_iff.1 hh).1, Ro.one hr hk⟩

set_option maxRecDepth 100000 in
set_option maxHeartbeats 400000 in
theorem earliest_any (g : Gr) (la ea : Option Addr) (lc ec : Nat) (v t : Int) (w : World) (hG : GAt w la ea g) (hpl : placeE g v t = 0) :
    Calls Try.prog 30 #[.agg #[.int .i64 g.hor, .slice la g.lives.length lc, .slice ea g.edges.length ec], .int .i64 v, .int .i64 t] w fun r w' => ∃ m1 m2, r = .returned (.tuple #[.slice (some ⟨m1, 0, none⟩) g.lives.length g.lives.length, .slice (some ⟨m2, 0, none⟩) g.lives.length g.lives.length]) ∧ Zo w' w.heap.size m1 g.lives.length g.lives.length (erF g v t).1 ∧ Ro w' w.heap.size m2 g.lives.length g.lives.length (erF g v t).2 ∧ Below w.heap.size w w' := by
  obtain ⟨i0, hi, hz0, hz1, hz2⟩ := info_parts Try.infoRide
  obtain ⟨hg0, ⟨hv0, hv1⟩, ht0, ht1⟩ := placeE_zero hpl
  have hR := gChk_right hg0
  have hn12 := hR.lvs
  obtain ⟨V, rfl⟩ : ∃ V : Nat, v = (V : Int) := ⟨v.toNat, by omega⟩
  have hVg : V < g.lives.length := by omega
  obtain ⟨w1, hw1⟩ : ∃ x, x = w.alloc (.cells #[.int .i64 g.hor, .slice la g.lives.length lc, .slice ea g.edges.length ec] 25) := ⟨_, rfl⟩
  have B1 : GBx w w1 w.heap.size g la ea lc ec := by rw [hw1]; exact gbx_start w g la ea lc ec 25
  obtain ⟨w2, hw2⟩ : ∃ x, x = w1.alloc (.cells #[.int .i64 1099511627776] 3) := ⟨_, rfl⟩
  have B2 : GBx w w2 w.heap.size g la ea lc ec := by rw [hw2]; exact B1.below (gal w1 _)
  have hs1 : w1.heap.size = w.heap.size + 1 := by rw [hw1]; simp
  have hs2 : w2.heap.size = w.heap.size + 1 + 1 := by rw [hw2]; simp [hs1]
  have hRep := Repeat_any 1099511627776 (w.heap.size + 1) 0 1 g.lives.length (by omega) w2 (by rw [hw2]; exact new_cell hs1.symm rfl) (by omega)
  have g1 := B2.c1
  have HG := hideg hG
  have HB2 := hideg B2
  have HRt := hideg hR
  have hw1s := hw1.symm
  have hw2s := hw2.symm
  clear hG hpl hg0 hR B1 B2 hw1 hw2
  go_enter Try.func30, Try.ntmps30
  go_wp2_with fail
  refine hRep.mono ?_
  rintro r w3 ⟨rfl, hZ3, hb3⟩
  have B3 := HB2.out.below hb3
  have g1' := B3.c1
  have hs3 := (World.ownsRow.lt hZ3 _ rfl).2
  clear hRep hw1s hw2s g1 HB2
  go_wp2_with (at_make; refine wpList_make_full _ rfl _ _ 58 rfl w.heap.size 61 i0 _ 6 Try.underlying58 hi hz0 hz1 .i64 .i64 _ _ g.lives.length rfl rfl rfl rfl (by rw [hz2]; omega) (by unfold maxLen; omega) (by omega) ?_; intro w4 hown4 hgrow4; refine stopHereR ?_)
  refine hideg ?_
  rw [made_six] at hown4
  have hb4 : Below w3.heap.size w3 w4 := (Below.refl _ _).grown hgrow4 (Nat.le_refl _) (fun k hk => by cases hk)
  have B4 := B3.below hb4
  have hZ4 := owns_base2 (ownsRow_below hZ3 hb4) (show w.heap.size ≤ w2.heap.size by omega)
  have hGA := HG.out.below B4.bel
  obtain ⟨lb, lof, rfl, hlb, hlc⟩ : ∃ b off, la = some ⟨b, off, none⟩ ∧ b < w4.heap.size ∧ (w4.cell? ⟨b, off + V * 2, none⟩ = some (.int .i64 g.lives[V].1) ∧ w4.cell? ⟨b, off + V * 2 + 1, none⟩ = some (.int .i64 g.lives[V].2)) := by
    rcases hGA.lv with h0 | ⟨b, off, rfl, hbr, hc⟩
    · rw [h0] at hVg; simp at hVg
    exact ⟨b, off, rfl, hbr, IvAt.get hVg hc⟩
  obtain ⟨lc0, lc1⟩ := hlc
  have g1 := B4.c1
  have hs4 := (World.ownsRow.lt hown4 _ rfl).2
  have hal := fun W => jalive_any g.lives[V].1 g.lives[V].2 t W
  rw [← aliveB_at t g.lives V hVg] at hal
  have HB4 := hideg B4
  clear hgrow4 hb4 B3 B4 hZ3 hb3 g1' hGA
  cases ha : aliveB t g.lives (V : Int) with
  | false =>
    rw [ha] at hal
    have HE : Hid (erF g (V : Int) t = (List.replicate g.lives.length 1099511627776, List.replicate g.lives.length (0, 0, 0, 0, 0, 0))) := by show _ = _; unfold erF; rw [if_neg (by rw [ha]; simp)]
    clear ha
    go_wp2_with fail
    refine (hal _).mono ?_
    rintro r w5 ⟨rfl, hb5⟩
    have hZ5 := ownsRow_below hZ4 hb5
    rw [hs2] at hZ5
    have HZ5 := hideg hZ5
    have HL5 := hideg (ownsRow_below hown4 hb5)
    have HB5 := hideg (HB4.out.below hb5).bel
    clear hal hb5 hZ4 hown4 HB4 lc0 lc1 g1 hZ5
    go_wp2
    (try simp only [Exit.inBlock, Exit.then]); refine bodyPost_ret (results_two_e rfl _ _ _) rfl ?_
    exact ⟨_, _, rfl, by rw [HE.out]; exact HZ5.out, by rw [HE.out]; exact HL5.out, HB5.out⟩
  | true =>
    rw [ha] at hal
    have HE : Hid (erF g (V : Int) t = erGo (er0 g (V : Int) t) (ridesF g)) := by show _ = _; unfold erF; rw [if_pos ha]
    clear ha
    go_wp2_with fail
    refine (hal _).mono ?_
    rintro r w5 ⟨rfl, hb5⟩
    have hZ5 := ownsRow_below hZ4 hb5
    have hL5 := ownsRow_below hown4 hb5
    have B5 := HB4.out.below hb5
    have hs5 := hb5.size
    have fz := World.ownsRow.frozenAt hZ5 V
    have cv := Zo.cell hZ5 hVg
    rw [hs2] at fz cv
    clear hal hb5 hZ4 hown4 HB4 lc0 lc1 g1
    obtain ⟨w6, hw6⟩ : ∃ x, x = w5.setCell ⟨w.heap.size + 1 + 1, V, none⟩ (.int .i64 t) := ⟨_, rfl⟩
    have hZ6 : Zo w6 w.heap.size (w.heap.size + 1 + 1) g.lives.length g.lives.length (er0 g (V : Int) t).1 := by
      rw [hw6]; rw [hs2] at hZ5
      have := Zo.set hZ5 V t
      simpa [er0] using this
    have hL6 : Ro w6 w.heap.size w3.heap.size g.lives.length g.lives.length (er0 g (V : Int) t).2 := by
      rw [hw6]; exact ownsRow_setCell_other hL5 (by simp [Value.ownBlock]; omega) _
    have hb6 : Below w.heap.size w w6 := by rw [hw6]; exact B5.bel.setCell (p := ⟨w.heap.size + 1 + 1, V, none⟩) (by simp only; omega) _
    have hs6 : w5.heap.size = w6.heap.size := by rw [hw6]; simp [World.setCell]
    have k0 : w6.cell? ⟨w.heap.size, 0, none⟩ = some (.int .i64 g.hor) := by rw [hw6, cellFar (by omega)]; exact B5.c0
    have k1 : w6.cell? ⟨w.heap.size, 1, none⟩ = some (.slice (some ⟨lb, lof, none⟩) g.lives.length lc) := by rw [hw6, cellFar (by omega)]; exact B5.c1
    have k2 : w6.cell? ⟨w.heap.size, 2, none⟩ = some (.slice ea g.edges.length ec) := by rw [hw6, cellFar (by omega)]; exact B5.c2
    have hRd := Rides_any g (some ⟨lb, lof, none⟩) ea lc ec w6 (HG.out.below hb6) HRt.out
    have hw6s := hw6.symm
    clear hw6 hZ5 hL5 B5
    obtain ⟨M1, hM1⟩ : ∃ M, M = w.heap.size + 1 + 1 := ⟨_, rfl⟩
    obtain ⟨M2, hM2⟩ : ∃ M, M = w3.heap.size := ⟨_, rfl⟩
    obtain ⟨M3, hM3⟩ : ∃ M, M = w6.heap.size := ⟨_, rfl⟩
    have h12 : M1 < M2 := by omega
    have h23 : M2 < M3 := by omega
    go_wp2_with fail
    refine hRd.mono ?_
    rintro r w7 ⟨u, rfl, hu7, hb7⟩
    rw [← hM1, ← hM2]
    rw [← hM1] at hZ6
    rw [← hM2] at hL6
    rw [← hM3] at hu7
    have S7 : ErSt w w7 M1 M2 M3 g.lives.length u (ridesF g) (erGo (er0 g (V : Int) t) ((ridesF g).take 0)).1 (erGo (er0 g (V : Int) t) ((ridesF g).take 0)).2 := ⟨ownsRow_below hZ6 hb7, ownsRow_below hL6 hb7, hu7, hb6.trans (hb7.mono hb6.size)⟩
    have hok : ∀ r ∈ ridesF g, RideOk g r := fun r hr => mem_rides HRt.out hr
    have hll : (ridesF g).length ≤ 3000 := Nat.le_trans (ridesTo_len g _) (Nat.le_trans (Nat.mul_le_mul (show g.hor.toNat ≤ 100 by have := HRt.out.hor; omega) HRt.out.eds) (by omega))
    obtain ⟨ao, cap, rfl, _⟩ := rdAt_of_owns hu7
    generalize ridesF g = rides at *
    have HOk := hideg hok
    clear hRd hw6s hZ6 hL6 hb6 hu7 hb7 k0 k1 k2 fz cv hM1 hM2 hM3 hs6 hs5 hs4 hs3 hs2 hs1 HG HRt hok hlb
    go_wp2_with fail
    go_loopw [38] (fun i wr => ∃ k : Nat, k ≤ rides.length ∧ i = .int .i64 k ∧ ErSt w wr M1 M2 M3 g.lives.length (.slice ao rides.length cap) rides (erGo (er0 g (V : Int) t) (rides.take k)).1 (erGo (er0 g (V : Int) t) (rides.take k)).2) (fun i _ => rides.length - (intOf i).toNat)
    case atStart => exact ⟨0, Nat.zero_le _, rfl, S7⟩
    case round =>
      clear S7
      obtain ⟨k, hk, rfl, S⟩ := hrel
      by_cases hkl : k < rides.length
      · have hkli : (k : Int) < (rides.length : Int) := by omega
        have hkw : IntKind.i64.wrap ((k : Int) + 1) = (k : Int) + 1 := wrap_nj _ (by omega) (by omega)
        obtain ⟨rb, cap', e, hrb, hRo⟩ := S.ride hkl
        simp only [Value.slice.injEq, true_and] at e
        obtain ⟨rfl, rfl⟩ := e
        have hmem := HOk.out rides[k] (List.getElem_mem hkl)
        have hgd : rides.getD k ri0 = rides[k] := by rw [List.getD_eq_getElem?_getD, List.getElem?_eq_getElem hkl]; rfl
        have HT := hideg (erGo_take (s := er0 g (V : Int) t) hkl)
        rw [hgd] at hRo
        generalize rides[k] = rr at *
        obtain ⟨E, d, a, b, ar, c⟩ := rr
        have ha0 := hmem.a0
        have hb0 := hmem.b0
        simp only at ha0 hb0
        obtain ⟨A, rfl⟩ : ∃ A : Nat, a = (A : Int) := ⟨a.toNat, by omega⟩
        obtain ⟨B, rfl⟩ : ∃ B : Nat, b = (B : Int) := ⟨b.toNat, by omega⟩
        have hA : A < g.lives.length := by omega
        have hB : B < g.lives.length := by omega
        generalize (erGo (er0 g (V : Int) t) (rides.take k)).1 = T at *
        generalize (erGo (er0 g (V : Int) t) (rides.take k)).2 = L at *
        obtain ⟨wa, hwa⟩ : ∃ x, x = wr.alloc (.cells #[.int .i64 E, .int .i64 d, .int .i64 (A : Int), .int .i64 (B : Int), .int .i64 ar, .int .i64 c] 61) := ⟨_, rfl⟩
        have c0 := hRo.c0
        have c1 := hRo.c1
        have c2 := hRo.c2
        have c3 := hRo.c3
        have c4 := hRo.c4
        have c5 := hRo.c5
        simp only at c0 c1 c2 c3 c4 c5
        have Sa : ErSt w wa M1 M2 M3 g.lives.length (.slice (some ⟨rb, 0, none⟩) rides.length cap) rides T L := by rw [hwa]; exact S.below (gal wr _)
        have xa := Zo.cell Sa.t hA
        have xb := Zo.cell Sa.t hB
        have y0 : wa.cell? ⟨wr.heap.size, 0, none⟩ = some (.int .i64 E) := by rw [hwa]; exact new_cell rfl rfl
        have y1 : wa.cell? ⟨wr.heap.size, 1, none⟩ = some (.int .i64 d) := by rw [hwa]; exact new_cell rfl rfl
        have y2 : wa.cell? ⟨wr.heap.size, 2, none⟩ = some (.int .i64 (A : Int)) := by rw [hwa]; exact new_cell rfl rfl
        have y3 : wa.cell? ⟨wr.heap.size, 3, none⟩ = some (.int .i64 (B : Int)) := by rw [hwa]; exact new_cell rfl rfl
        have y4 : wa.cell? ⟨wr.heap.size, 4, none⟩ = some (.int .i64 ar) := by rw [hwa]; exact new_cell rfl rfl
        have y5 : wa.cell? ⟨wr.heap.size, 5, none⟩ = some (.int .i64 c) := by rw [hwa]; exact new_cell rfl rfl
        have hwas := hwa.symm
        have HSa := hideg Sa
        have HS0 : Hid (M1 < wr.heap.size ∧ M2 < wr.heap.size) := ⟨(World.ownsRow.lt S.t _ rfl).2, (World.ownsRow.lt S.l _ rfl).2⟩
        clear hRo S Sa hmem hgd hwa
        obtain ⟨x1, hx1⟩ : ∃ x, x = T.getD A 0 := ⟨_, rfl⟩
        obtain ⟨x2, hx2⟩ : ∃ x, x = T.getD B 0 := ⟨_, rfl⟩
        rw [← hx1] at xa
        rw [← hx2] at xb
        have HX1 := hideg hx1
        have HX2 := hideg hx2
        have hAi : (A : Int) < (g.lives.length : Int) := by omega
        have hBi : (B : Int) < (g.lives.length : Int) := by omega
        have HNo : Hid (¬ (x1 ≤ d ∧ ar < x2) → erGo (er0 g (V : Int) t) (rides.take (k + 1)) = (T, L)) := by
          intro h
          rw [HT.out]
          unfold erT erL
          simp only [Int.toNat_natCast]
          rw [← HX1.out, ← HX2.out, if_neg h, if_neg h]
        have HYes : Hid (x1 ≤ d ∧ ar < x2 → erGo (er0 g (V : Int) t) (rides.take (k + 1)) = (T.set B ar, L.set B (E, d, (A : Int), (B : Int), ar, c))) := by
          intro h
          rw [HT.out]
          unfold erT erL
          simp only [Int.toNat_natCast]
          rw [← HX1.out, ← HX2.out, if_pos h, if_pos h]
        have HSn : Hid (¬ (x1 ≤ d ∧ ar < x2) → ∀ N, ErSt w (wa.drewN N) M1 M2 M3 g.lives.length (.slice (some ⟨rb, 0, none⟩) rides.length cap) rides (erGo (er0 g (V : Int) t) (rides.take (k + 1))).1 (erGo (er0 g (V : Int) t) (rides.take (k + 1))).2) := by
          intro h N
          rw [HNo.out h]
          exact HSa.out.below (below_drewN (Below.refl _ _) N)
        clear hx1 hx2 HT HNo
        by_cases q1 : x1 ≤ d
        · have d1 : decide (x1 ≤ d) = true := by simpa using q1
          by_cases q2 : ar < x2
          · have d2 : decide (ar < x2) = true := by simpa using q2
            have HE2 := hideg (HYes.out ⟨q1, q2⟩)
            have hne1 : wr.heap.size ≠ M1 := by have := HS0.out.1; omega
            have hne2 : wr.heap.size ≠ M2 := by have := HS0.out.2; omega
            have HSet := hideg (fun (W : World) (h : ErSt w W M1 M2 M3 g.lives.length (.slice (some ⟨rb, 0, none⟩) rides.length cap) rides T L) => h.set h12 h23 hB ar (E, d, (A : Int), (B : Int), ar, c))
            clear HSn HYes
            go_wp2_with fail
            go_quiet (fail)
            clear xa xb q1 q2 d1 d2 c0 c1 c2 c3 c4 c5
            go_wp2_with fail
            refine Go.wp_region_held (S := fun w3 => w3.cell? ⟨wr.heap.size, 0, none⟩ = some (.int .i64 E) ∧ w3.cell? ⟨wr.heap.size, 1, none⟩ = some (.int .i64 d) ∧ w3.cell? ⟨wr.heap.size, 2, none⟩ = some (.int .i64 (A : Int)) ∧ w3.cell? ⟨wr.heap.size, 3, none⟩ = some (.int .i64 (B : Int)) ∧ w3.cell? ⟨wr.heap.size, 4, none⟩ = some (.int .i64 ar) ∧ w3.cell? ⟨wr.heap.size, 5, none⟩ = some (.int .i64 c)) (by kernel_rfl) ?_
            generalize hw8 : ({ wa.drewN nq with drawn := (wa.drewN nq).drawn + 1 } : World) = w8
            have S8 : ErSt w w8 M1 M2 M3 g.lives.length (.slice (some ⟨rb, 0, none⟩) rides.length cap) rides T L := by rw [← hw8]; exact HSa.out.below (below_drewN (Below.refl _ _) (nq + 1))
            have hS0 : w8.cell? ⟨wr.heap.size, 0, none⟩ = some (.int .i64 E) ∧ w8.cell? ⟨wr.heap.size, 1, none⟩ = some (.int .i64 d) ∧ w8.cell? ⟨wr.heap.size, 2, none⟩ = some (.int .i64 (A : Int)) ∧ w8.cell? ⟨wr.heap.size, 3, none⟩ = some (.int .i64 (B : Int)) ∧ w8.cell? ⟨wr.heap.size, 4, none⟩ = some (.int .i64 ar) ∧ w8.cell? ⟨wr.heap.size, 5, none⟩ = some (.int .i64 c) := by rw [← hw8]; exact ⟨y0, y1, y2, y3, y4, y5⟩
            clear hw8 y0 y1 y2 y3 y4 y5
            refine take_lit (i := 0) (v := ?_) rfl (by kernel_rfl) (by kernel_rfl) (by kernel_rfl) (fun _ _ _ h => h) (Or.inl ⟨by rfl, ?hy0⟩) (by assumption) ?_
            case hy0 => (intro w hSw; (try dsimp only at hSw); go_simp; try with_reducible rfl)
            try simp only [Act.put, List.setIfInBounds_toArray, List.set_cons_zero, List.set_cons_succ]
            refine take_lit (i := 1) (v := ?_) rfl (by kernel_rfl) (by kernel_rfl) (by kernel_rfl) (fun _ _ _ h => h) (Or.inl ⟨by rfl, ?hy1⟩) (by assumption) ?_
            case hy1 => (intro w hSw; (try dsimp only at hSw); go_simp; try with_reducible rfl)
            try simp only [Act.put, List.setIfInBounds_toArray, List.set_cons_zero, List.set_cons_succ]
            refine take_lit (i := 2) (v := ?_) rfl (by kernel_rfl) (by kernel_rfl) (by kernel_rfl) (fun _ _ _ h => h) (Or.inl ⟨by rfl, ?hy2⟩) (by assumption) ?_
            case hy2 => (intro w hSw; (try dsimp only at hSw); go_simp; try with_reducible rfl)
            try simp only [Act.put, List.setIfInBounds_toArray, List.set_cons_zero, List.set_cons_succ]
            refine take_lit (i := 3) (v := ?_) rfl (by kernel_rfl) (by kernel_rfl) (by kernel_rfl) (fun _ _ _ h => h) (Or.inl ⟨by rfl, ?hy3⟩) (by assumption) ?_
            case hy3 => (intro w hSw; (try dsimp only at hSw); go_simp; try with_reducible rfl)
            try simp only [Act.put, List.setIfInBounds_toArray, List.set_cons_zero, List.set_cons_succ]
            refine take_lit (i := 4) (v := ?_) rfl (by kernel_rfl) (by kernel_rfl) (by kernel_rfl) (fun _ _ _ h => h) (Or.inl ⟨by rfl, ?hy4⟩) (by assumption) ?_
            case hy4 => (intro w hSw; (try dsimp only at hSw); go_simp; try with_reducible rfl)
            try simp only [Act.put, List.setIfInBounds_toArray, List.set_cons_zero, List.set_cons_succ]
            refine take_lit (i := 5) (v := ?_) rfl (by kernel_rfl) (by kernel_rfl) (by kernel_rfl) (fun _ _ _ h => h) (Or.inl ⟨by rfl, ?hy5⟩) (by assumption) ?_
            case hy5 => (intro w hSw; (try dsimp only at hSw); go_simp; try with_reducible rfl)
            try simp only [Act.put, List.setIfInBounds_toArray, List.set_cons_zero, List.set_cons_succ]
            refine take_lit (i := 6) (v := ?_) rfl (by kernel_rfl) (by kernel_rfl) (by kernel_rfl) (fun _ _ _ h => h) (Or.inl ⟨by rfl, ?hy6⟩) (by assumption) ?_
            case hy6 => (intro w hSw; (try dsimp only at hSw); go_simp; try with_reducible rfl)
            try simp only [Act.put, List.setIfInBounds_toArray, List.set_cons_zero, List.set_cons_succ]
            refine take_lit (i := 7) (v := ?_) rfl (by kernel_rfl) (by kernel_rfl) (by kernel_rfl) (fun _ _ _ h => h) (Or.inl ⟨by rfl, ?hy7⟩) (by assumption) ?_
            case hy7 => (intro w hSw; (try dsimp only at hSw); go_simp; try with_reducible rfl)
            try simp only [Act.put, List.setIfInBounds_toArray, List.set_cons_zero, List.set_cons_succ]
            refine take_lit (i := 8) (v := ?_) rfl (by kernel_rfl) (by kernel_rfl) (by kernel_rfl) (fun _ _ _ h => h) (Or.inl ⟨by rfl, ?hy8⟩) (by assumption) ?_
            case hy8 => (intro w hSw; (try dsimp only at hSw); go_simp; try with_reducible rfl)
            try simp only [Act.put, List.setIfInBounds_toArray, List.set_cons_zero, List.set_cons_succ]
            refine take_lit (i := 9) (v := ?_) rfl (by kernel_rfl) (by kernel_rfl) (by kernel_rfl) (fun _ _ _ h => h) (Or.inl ⟨by rfl, ?hy9⟩) (by assumption) ?_
            case hy9 => (intro w hSw; (try dsimp only at hSw); go_simp; try with_reducible rfl)
            try simp only [Act.put, List.setIfInBounds_toArray, List.set_cons_zero, List.set_cons_succ]
            refine next_lit (i := 10) rfl (by kernel_rfl) (fun K hK => ?_)
            have fB := World.ownsRow.frozenAt S8.t B
            have xB := Zo.cell S8.t hB
            go_simp
            have hS9 : (w8.setCell ⟨M1, B, none⟩ (.int .i64 ar)).cell? ⟨wr.heap.size, 0, none⟩ = some (.int .i64 E) ∧ (w8.setCell ⟨M1, B, none⟩ (.int .i64 ar)).cell? ⟨wr.heap.size, 1, none⟩ = some (.int .i64 d) ∧ (w8.setCell ⟨M1, B, none⟩ (.int .i64 ar)).cell? ⟨wr.heap.size, 2, none⟩ = some (.int .i64 (A : Int)) ∧ (w8.setCell ⟨M1, B, none⟩ (.int .i64 ar)).cell? ⟨wr.heap.size, 3, none⟩ = some (.int .i64 (B : Int)) ∧ (w8.setCell ⟨M1, B, none⟩ (.int .i64 ar)).cell? ⟨wr.heap.size, 4, none⟩ = some (.int .i64 ar) ∧ (w8.setCell ⟨M1, B, none⟩ (.int .i64 ar)).cell? ⟨wr.heap.size, 5, none⟩ = some (.int .i64 c) := by
              rw [cellFar hne1, cellFar hne1, cellFar hne1, cellFar hne1, cellFar hne1, cellFar hne1]; exact hS0
            refine hK.out _ _ hS9 (fun _ => ?_)
            clear hK K fB xB
            try simp only [Act.put, List.setIfInBounds_toArray, List.set_cons_zero, List.set_cons_succ]
            refine take_lit (i := 11) (v := ?_) rfl (by kernel_rfl) (by kernel_rfl) (by kernel_rfl) (fun _ _ _ h => h) (Or.inl ⟨by rfl, ?hy11⟩) (by assumption) ?_
            case hy11 => (intro w hSw; (try dsimp only at hSw); go_simp; try with_reducible rfl)
            try simp only [Act.put, List.setIfInBounds_toArray, List.set_cons_zero, List.set_cons_succ]
            refine next_lit (i := 12) rfl (by kernel_rfl) (fun K hK => ?_)
            have l9 := ownsRow_setCell_other S8.l (a := ⟨M1, B, none⟩) (by simp [Value.ownBlock]; omega) (.int .i64 ar)
            have l5 := Ro.one l9 hB
            have fL := fun j => World.ownsRow.frozenAt l9 j
            have z0 := l5.c0
            have z1 := l5.c1
            have z2 := l5.c2
            have z3 := l5.c3
            have z4 := l5.c4
            have z5 := l5.c5
            have hS10 := HSet.out _ S8
            clear l5 l9
            unfold setR at hS10
            simp only at hS10
            generalize w8.setCell ⟨M1, B, none⟩ (.int .i64 ar) = w9 at *
            go_simp
            refine hK.out _ _ (by simp only [cellFar hne2]; exact hS9) (fun _ => ?_)
            clear hK K z0 z1 z2 z3 z4 z5 fL hS0 hS9
            refine wpAnyH_done (by kernel_rfl) ?_ _
            generalize (((((w9.setCell ⟨M2, B * 6, none⟩ (.int .i64 E)).setCell ⟨M2, B * 6 + 1, none⟩ (.int .i64 d)).setCell ⟨M2, B * 6 + 2, none⟩ (.int .i64 (A : Int))).setCell ⟨M2, B * 6 + 3, none⟩ (.int .i64 (B : Int))).setCell ⟨M2, B * 6 + 4, none⟩ (.int .i64 ar)).setCell ⟨M2, B * 6 + 5, none⟩ (.int .i64 c) = w10 at *
            have HS10 : Hid (ErSt w w10 M1 M2 M3 g.lives.length (.slice (some ⟨rb, 0, none⟩) rides.length cap) rides (erGo (er0 g (V : Int) t) (rides.take (k + 1))).1 (erGo (er0 g (V : Int) t) (rides.take (k + 1))).2) := by rw [HE2.out]; exact hS10
            clear hS10 S8 HE2
            go_wp2
            go_roundw
            case rel => exact ⟨k + 1, by omega, by go_num, HS10.out⟩
            case measure => simp [intOf]; omega
          · have d2 : decide (ar < x2) = false := by simpa using q2
            have HS2 := hideg (HSn.out (fun h => q2 h.2))
            clear HSn HYes
            go_wp2_with fail
            go_quiet (fail)
            clear xa xb c0 c1 c2 c3 c4 c5 y0 y1 y2 y3 y4 y5 hwas q1 q2 d1 d2
            go_wp2
            go_roundw
            case rel => exact ⟨k + 1, by omega, by go_num, HS2.out _⟩
            case measure => simp [intOf]; omega
        · have d1 : decide (x1 ≤ d) = false := by simpa using q1
          have HS2 := hideg (HSn.out (fun h => q1 h.1))
          clear HSn HYes
          go_wp2_with fail
          go_quiet (fail)
          clear xa xb c0 c1 c2 c3 c4 c5 y0 y1 y2 y3 y4 y5 hwas q1 d1
          go_wp2
          go_roundw
          case rel => exact ⟨k + 1, by omega, by go_num, HS2.out _⟩
          case measure => simp [intOf]; omega
      · have hke : rides.length = k := by omega
        subst hke
        rw [List.take_length, ← HE.out] at S
        have HS := hideg S
        clear S
        go_wp2
        (try simp only [Exit.inBlock, Exit.then]); refine bodyPost_ret (results_two_e rfl _ _ _) rfl ?_
        exact ⟨_, _, rfl, HS.out.t, HS.out.l, HS.out.b⟩

end Go.Proofs.Ythgelfnflafoiaf

namespace Go.Proofs.Ythgelfnflafoiaf
open Go.RowKit

/-- the states of who is at v at t and has paid nothing yet -/
def VisOk (g : Gr) (pr : Ri → Int) (v t : Int) (M : Mp) : Prop := (aliveB t g.lives v = true ∧ SpE g (F1 v t) pr M) ∨ (aliveB t g.lives v = false ∧ M = fun _ _ => none)
theorem VisOk.snd {g : Gr} {pr : Ri → Int} {v t : Int} {M : Mp} (h : VisOk g pr v t M) {x y : Int} {z : Vs} (hz : M x y = some z) : Pay g pr v t x y z.1 := by
  rcases h with ⟨ha, h⟩ | ⟨_, rfl⟩
  · exact ⟨ha, h.snd _ _ _ hz⟩
  · cases hz
theorem VisOk.all {g : Gr} {pr : Ri → Int} {v t : Int} {M : Mp} (h : VisOk g pr v t M) {x y p : Int} (hp : Pay g pr v t x y p) : ∃ z, M x y = some z ∧ z.1 ≤ p := by
  rcases h with ⟨_, h⟩ | ⟨ha, _⟩
  · exact h.all _ _ _ hp.2
  · rw [hp.1] at ha; cases ha
theorem Pay.waits {g : Gr} (R : Right g) {pr : Ri → Int} {v0 t0 v t t' p : Int} (h0 : 0 ≤ v0) (h : Pay g pr v0 t0 v t p) (ht : t ≤ t') (ha : aliveB t' g.lives v = true) : Pay g pr v0 t0 v t' p := ⟨h.1, h.2.waits R (F1_ok h0 h.1) ht ha⟩
theorem Pay.place {g : Gr} (R : Right g) {pr : Ri → Int} {v0 t0 v t p : Int} (h0 : 0 ≤ v0) (h : Pay g pr v0 t0 v t p) : 0 ≤ v ∧ v < g.lives.length ∧ aliveB t g.lives v = true ∧ 0 ≤ t ∧ t < g.hor ∧ t0 ≤ t := h.2.place R (F1_ok h0 h.1)
/-- a state's price, or Inf -/
def prF (M : Mp) (v t : Int) : Int := match M v t with | none => 1099511627776 | some z => z.1
/-- the last time of a vertex -/
def lastT (g : Gr) (v : Nat) : Int := (g.lives.getD v (0, 0)).2 - 1
theorem lastT_at {g : Gr} {v : Nat} (hv : v < g.lives.length) : lastT g v = g.lives[v].2 - 1 := by unfold lastT; rw [List.getD_eq_getElem?_getD, List.getElem?_eq_getElem hv]; rfl
theorem last_alive {g : Gr} (R : Right g) {v : Nat} (hv : v < g.lives.length) : aliveB (lastT g v) g.lives (v : Int) = true ∧ (∀ t, aliveB t g.lives (v : Int) = true → t ≤ lastT g v) ∧ 0 ≤ lastT g v ∧ lastT g v < 100 := by
  have h := R.life _ (List.getElem_mem hv)
  have hh := R.hor
  rw [lastT_at hv]
  refine ⟨?_, fun t ht => ?_, by omega, by omega⟩
  · rw [aliveB_at _ _ _ hv]; exact (hasB_iff _ _ _).2 (by omega)
  · rw [aliveB_at _ _ _ hv] at ht; have := (hasB_iff _ _ _).1 ht; omega
/-- all but the first k numbers are 0 -/
def fillL (f : Nat → Int) (n k : Nat) : List Int := (List.range n).map fun x => if x < k then f x else 0
theorem fill_len (f : Nat → Int) (n k : Nat) : (fillL f n k).length = n := by simp [fillL]
theorem fill_get (f : Nat → Int) (n k x : Nat) (hx : x < n) : (fillL f n k).getD x 0 = if x < k then f x else 0 := by simp [fillL, List.getD_eq_getElem?_getD, hx]
theorem fill_zero (f : Nat → Int) (n : Nat) : fillL f n 0 = List.replicate n 0 := by
  refine list_ext_gd (by simp [fillL]) fun x hx => ?_
  rw [fill_len] at hx
  rw [fill_get _ _ _ _ hx]
  simp [List.getD_eq_getElem?_getD, hx]
theorem fill_set (f : Nat → Int) (n k : Nat) (hk : k < n) : (fillL f n k).set k (f k) = fillL f n (k + 1) := by
  refine list_ext_gd (by simp [fillL]) fun x hx => ?_
  rw [List.length_set, fill_len] at hx
  rw [getD_setI _ _ _ _ (by rw [fill_len]; exact hk), fill_get _ _ _ _ hx, fill_get _ _ _ _ hx]
  by_cases e : x = k
  · subst e; simp
  · rw [if_neg e]
    by_cases h : x < k
    · rw [if_pos h, if_pos (by omega)]
    · rw [if_neg h, if_neg (by omega)]
theorem least_of {g : Gr} (R : Right g) {pr : Ri → Int} {v t : Int} (h0 : 0 ≤ v) {M : Mp} (h : VisOk g pr v t M) : LeastIs g pr v t (fillL (fun x => prF M (x : Int) (lastT g x)) g.lives.length g.lives.length) := by
  refine ⟨fill_len _ _ _, fun x hx => ?_, fun x hx t' p hp => ?_⟩
  · rw [fill_get _ _ _ _ hx, if_pos hx]
    unfold prF
    cases hz : M (x : Int) (lastT g x) with
    | none => exact .inl rfl
    | some z => exact .inr ⟨_, h.snd hz⟩
  · rw [fill_get _ _ _ _ hx, if_pos hx]
    obtain ⟨k1, k2, _⟩ := last_alive R hx
    obtain ⟨z, hz, hzp⟩ := h.all (hp.waits R h0 (k2 _ (hp.place R h0).2.2.1) k1)
    unfold prF; rw [hz]; exact hzp

set_option maxRecDepth 100000 in
theorem atLast_any (g : Gr) (la ea : Option Addr) (lc ec v : Nat) (w : World) (hG : GAt w la ea g) (hR : Right g) (hv : v < g.lives.length) :
    Calls Try.prog 42 #[.agg #[.int .i64 g.hor, .slice la g.lives.length lc, .slice ea g.edges.length ec], .int .i64 v] w fun r w' => r = .returned (.agg #[.int .i64 (v : Int), .int .i64 (lastT g v)]) ∧ Below w.heap.size w w' := by
  obtain ⟨_, _, h3, h4⟩ := last_alive hR hv
  rw [lastT_at hv] at h3 h4 ⊢
  obtain ⟨lb, lof, rfl, hlb, l0, l1⟩ : ∃ b off, la = some ⟨b, off, none⟩ ∧ b < w.heap.size ∧ (w.cell? ⟨b, off + v * 2, none⟩ = some (.int .i64 g.lives[v].1) ∧ w.cell? ⟨b, off + v * 2 + 1, none⟩ = some (.int .i64 g.lives[v].2)) := by
    rcases hG.lv with h0 | ⟨b, off, rfl, hbr, hc⟩
    · rw [h0] at hv; simp at hv
    exact ⟨b, off, rfl, hbr, IvAt.get hv hc⟩
  have hvi : (v : Int) < (g.lives.length : Int) := by omega
  have hww : IntKind.i64.wrap (g.lives[v].2 - 1) = g.lives[v].2 - 1 := wrap_nj _ (by omega) (by omega)
  have m1 := fun W (h : Below w.heap.size w W) => (h.cell (p := ⟨lb, lof + v * 2 + 1, none⟩) hlb).trans l1
  have m2 := m1 _ (ptg (gal w (.cells #[.int .i64 g.hor, .slice (some ⟨lb, lof, none⟩) g.lives.length lc, .slice ea g.edges.length ec] 25)) (gal _ (.cells #[.int .i64 0, .int .i64 0] 87)))
  clear hG l0 l1 hR m1
  generalize g.lives[v] = lf at *
  go_enter Try.func42, Try.ntmps42
  go_wp2
  refine bodyPost_ret (v := .agg #[.int .i64 (v : Int), .int .i64 (lf.2 - 1)]) (by simp [results, Try.results42, go_sem]) rfl ⟨rfl, ?_⟩
  exact ptg (gal w _) (gal _ _)

set_option maxRecDepth 100000 in
set_option maxHeartbeats 1000000 in
theorem visitsFrom_any (g : Gr) (la ea : Option Addr) (lc ec : Nat) (pr : Ri → Int) (v t : Int) (fv : FuncId) (eg : ∀ args w, (callFunc fv args).run Try.prog w = .ok (.enter fv args) w) (w : World) (hG : GAt w la ea g) (hpl : placeE g v t = 0) (hpr : PrOk g pr)
    (hfv : ∀ r W, Calls Try.prog fv #[rideV r] W fun res w' => res = .returned (.int .i64 (pr r)) ∧ Below W.heap.size W w') :
    Calls Try.prog 41 #[.agg #[.int .i64 g.hor, .slice la g.lives.length lc, .slice ea g.edges.length ec], .int .i64 v, .int .i64 t, .func (.func fv) #[] #[]] w fun r w' => ∃ b n M, r = .returned (.map (some b)) ∧ MapAt w' b n M ∧ VisOk g pr v t M ∧ Below w.heap.size w w' := by
  obtain ⟨hg0, ⟨hv0, hv1⟩, ht0, ht1⟩ := placeE_zero hpl
  have hR := gChk_right hg0
  have hhor := hR.hor
  have hlv := hR.lvs
  obtain ⟨V, rfl⟩ : ∃ V : Nat, v = (V : Int) := ⟨v.toNat, by omega⟩
  have hVg : V < g.lives.length := by omega
  obtain ⟨w1, hw1⟩ : ∃ x, x = w.alloc (.cells #[.int .i64 g.hor, .slice la g.lives.length lc, .slice ea g.edges.length ec] 25) := ⟨_, rfl⟩
  have B0 : GBx w w1 w.heap.size g la ea lc ec := by rw [hw1]; exact gbx_start w g la ea lc ec 25
  obtain ⟨w2, hw2⟩ : ∃ x, x = w1.alloc (.map #[] 0) := ⟨_, rfl⟩
  have hM2 : MapAt w2 w1.heap.size 0 (fun _ _ => none) := by rw [hw2]; exact mapAt_made w1
  have b2 : Below w1.heap.size w1 w2 := by rw [hw2]; exact gal w1 _
  have B2 := B0.below b2
  have hG2 := hG.below B2.bel
  have s1 : w.heap.size < w1.heap.size := by rw [hw1]; simp
  obtain ⟨lb, lof, rfl, hlb, l0, l1⟩ : ∃ b off, la = some ⟨b, off, none⟩ ∧ b < w2.heap.size ∧ (w2.cell? ⟨b, off + V * 2, none⟩ = some (.int .i64 g.lives[V].1) ∧ w2.cell? ⟨b, off + V * 2 + 1, none⟩ = some (.int .i64 g.lives[V].2)) := by
    rcases hG2.lv with h0 | ⟨b, off, rfl, hbr, hc⟩
    · rw [h0] at hVg; simp at hVg
    exact ⟨b, off, rfl, hbr, IvAt.get hVg hc⟩
  have hVi : (V : Int) < (g.lives.length : Int) := by omega
  have hal := fun W => jalive_any g.lives[V].1 g.lives[V].2 t W
  rw [← aliveB_at t g.lives V hVg] at hal
  have g0 := B2.c0
  have g1 := B2.c1
  have g2 := B2.c2
  have hmm := @run_makeMap Try.prog
  have hw1s := hw1.symm
  have hw2s := hw2.symm
  have HB := hideg (fun W (h : Below w2.heap.size w2 W) => (B2.below h).bel)
  have HM := hideg (fun W (h : Below w2.heap.size w2 W) => hM2.below h)
  have HB2 := hideg B2
  have HG2 := hideg hG2
  clear hG hw1 hw2 B0 B2 hG2 hM2 hg0
  cases ha : aliveB t g.lives (V : Int) with
  | false =>
    rw [ha] at hal
    have HV : Hid (VisOk g pr (V : Int) t (fun _ _ => none)) := .inr ⟨ha, rfl⟩
    clear ha hR hpl
    generalize g.lives[V] = lf at *
    go_enter Try.func41, Try.ntmps41
    go_wp2_with fail
    refine (hal _).mono ?_
    rintro r w3 ⟨rfl, hb3⟩
    have HM3 := hideg (HM.out w3 hb3)
    have HB3 := hideg (HB.out w3 hb3)
    clear hal hb3 g0 g1 g2 l0 l1
    go_wp2
    go_ret
    exact ⟨_, _, _, rfl, HM3.out, HV.out, HB3.out⟩
  | true =>
    rw [ha] at hal
    have hF := F1_ok (g := g) (v0 := (V : Int)) (t0 := t) hv0 ha
    have hPb : ∀ x y p, Pd g (F1 (V : Int) t) pr x y p → -1000000 ≤ p ∧ p ≤ 1000000 := fun x y p h => by
      have h1 := h.range hR hpr hv0 ha
      have h2 := h.place hR hF
      omega
    have HS := hideg (fun b n M0 W (hGW : GAt W (some ⟨lb, lof, none⟩) ea g) (hMW : MapAt W b n M0) (hn : n ≤ 200) (hM0 : ∀ x y, (M0 x y).map (·.1) = F1 (V : Int) t x y) => spread_any g (some ⟨lb, lof, none⟩) ea lc ec (F1 (V : Int) t) pr t fv eg b n M0 W hGW hR hF hMW hn ⟨ht0, ht1⟩ hM0 hpr hPb hfv)
    have HV : Hid (∀ M, SpE g (F1 (V : Int) t) pr M → VisOk g pr (V : Int) t M) := fun M h => .inl ⟨ha, h⟩
    clear ha hR hpl hF hPb hpr hfv eg
    generalize g.lives[V] = lf at *
    go_enter Try.func41, Try.ntmps41
    go_wp2_with fail
    refine (hal _).mono ?_
    rintro r w3 ⟨rfl, hb3⟩
    have M3 := HM.out w3 hb3
    have G3 := HG2.out.below hb3
    have B3 := HB2.out.below hb3
    obtain ⟨w4, hup, hM4, hg4⟩ := M3.store (by unfold maxLen; omega) (v := (V : Int)) (t := t) (wi_small (by omega) (by omega)) (wi_small (by omega) (by omega)) (0, 0, 0, 0, 0, 0, 0)
    simp only [keyV, encV_mk] at hup
    have G4 := M3.gat hg4 G3
    obtain ⟨k0, k1, k2⟩ := GBx.gby M3 hg4 B3
    have hSp := HS.out w1.heap.size (0 + 1) _ w4 G4 hM4 (by omega) (fun x y => by
      unfold mset F1
      split <;> rfl)
    have HB4 : Hid (∀ W, w4.grownBy W (some w1.heap.size) → Below w.heap.size w W) := fun W h => (B3.bel.grown hg4 B3.bel.size (fun k hk => by cases hk; omega)).grown h (Nat.le_trans B3.bel.size hg4.size) (fun k hk => by cases hk; omega)
    clear hal hb3 g0 g1 g2 l0 l1 M3 G3 B3 hM4 hg4 G4 HS
    go_wp2_with fail
    refine hSp.mono ?_
    rintro r w5 ⟨⟨vv, rfl⟩, ⟨n5, M5, hM5, hE5⟩, hg5⟩
    have HM5 := hideg hM5
    have HE5 := hideg (HV.out _ hE5)
    have HB5 := hideg (HB4.out w5 hg5)
    clear hSp hM5 hE5 hg5 k0 k1 k2 hup HB4
    go_wp2
    go_ret
    exact ⟨_, _, _, rfl, HM5.out, HE5.out, HB5.out⟩

end Go.Proofs.Ythgelfnflafoiaf

namespace Go.Proofs.Ythgelfnflafoiaf
open Go.RowKit

/-- what Costs and Hops tell -/
def LeastE (g : Gr) (pr : Ri → Int) (v t : Int) (L : List Int) : Prop := (placeE g v t ≠ 0 ∧ L = []) ∨ (placeE g v t = 0 ∧ LeastIs g pr v t L)
def prCost : Ri → Int := fun r => r.2.2.2.2.2
def prOne : Ri → Int := fun _ => 1
def prZero : Ri → Int := fun _ => 0
theorem prCost_ok {g : Gr} (R : Right g) : PrOk g prCost := fun _ hr => (mem_rides R hr).c0
theorem prOne_ok (g : Gr) : PrOk g prOne := fun _ _ => by unfold prOne; omega
theorem prZero_ok (g : Gr) : PrOk g prZero := fun _ _ => by unfold prZero; omega

set_option maxRecDepth 100000 in
set_option maxHeartbeats 1000000 in
theorem leastPrices_any (g : Gr) (la ea : Option Addr) (lc ec : Nat) (pr : Ri → Int) (v t : Int) (fv : FuncId) (eg : ∀ args w, (callFunc fv args).run Try.prog w = .ok (.enter fv args) w) (w : World) (hG : GAt w la ea g) (hpr : Right g → PrOk g pr)
    (hfv : ∀ r W, Calls Try.prog fv #[rideV r] W fun res w' => res = .returned (.int .i64 (pr r)) ∧ Below W.heap.size W w') :
    Calls Try.prog 32 #[.agg #[.int .i64 g.hor, .slice la g.lives.length lc, .slice ea g.edges.length ec], .int .i64 v, .int .i64 t, .func (.func fv) #[] #[]] w fun r w' => ∃ u L, r = .returned (.tuple #[u, .int .i64 (placeE g v t)]) ∧ LeastE g pr v t L ∧ w'.ownsRow w.heap.size 3 1 u L.length (L.map (Value.int .i64)) ∧ Below w.heap.size w w' := by
  obtain ⟨i0, hi, hz0, hz1, hz2⟩ := info_parts Try.infoInt
  have B0 := gbx_start w g la ea lc ec 25
  have h1 := jcheck_any g la ea lc ec v t _ (hG.below B0.bel)
  by_cases e1 : placeE g v t = 0
  case neg =>
    have HP : Hid (LeastE g pr v t []) := .inl ⟨e1, rfl⟩
    have d1 : (placeE g v t != 0) = true := by simpa using e1
    generalize placeE g v t = n at *
    clear e1 hG hpr hfv eg
    go_enter Try.func32, Try.ntmps32
    go_wp2_with fail
    refine h1.mono ?_
    rintro r w1 ⟨rfl, hb1⟩
    have hbF := (B0.below hb1).bel
    clear h1 hb1 B0
    go_wp2
    (try simp only [Exit.inBlock, Exit.then]); refine bodyPost_ret (results_two_e rfl _ _ _) rfl ?_
    exact ⟨_, _, rfl, HP.out, World.ownsRow_nil _ _ _ _, hbF⟩
  obtain ⟨hg0, ⟨hv0, hv1⟩, ht0, ht1⟩ := placeE_zero e1
  have hR := gChk_right hg0
  have hlv := hR.lvs
  have HV := hideg (fun W (hW : Below w.heap.size w W) => visitsFrom_any g la ea lc ec pr v t fv eg W (hG.below hW) e1 (hpr hR) hfv)
  have HL := hideg (fun W (hW : Below w.heap.size w W) (x : Nat) (hx : x < g.lives.length) => atLast_any g la ea lc ec x W (hG.below hW) hR hx)
  have HE : Hid (∀ M, VisOk g pr v t M → LeastE g pr v t (fillL (fun x => prF M (x : Int) (lastT g x)) g.lives.length g.lives.length)) := fun M h => .inr ⟨e1, least_of hR hv0 h⟩
  have HLt : Hid (∀ x, x < g.lives.length → 0 ≤ lastT g x ∧ lastT g x < 100) := fun x hx => (last_alive hR hx).2.2
  rw [e1] at h1 ⊢
  clear hG e1 hg0 hR hpr hfv eg hv0 hv1 ht0 ht1
  go_enter Try.func32, Try.ntmps32
  go_wp2_with fail
  refine h1.mono ?_
  rintro r w1 ⟨rfl, hb1⟩
  have B1 := B0.below hb1
  have h2 := HV.out w1 B1.bel
  have g0 := B1.c0
  have g1 := B1.c1
  have g2 := B1.c2
  clear h1 hb1 B0 HV
  go_wp2_with fail
  refine h2.mono ?_
  rintro r w2 ⟨b, n, M, rfl, hM2, hV2, hb2⟩
  have B2 := B1.below hb2
  have HE2 := hideg (HE.out M hV2)
  clear h2 hb2 B1 g0 g1 g2 HE hV2
  have g1 := B2.c1
  go_wp2_with (at_make; refine wpList_make_full _ rfl _ _ 26 rfl w.heap.size 3 i0 (.int .i64 0) 1 Try.underlying26 hi hz0 hz1 .i64 .i64 _ _ g.lives.length rfl rfl rfl rfl (by rw [hz2]; omega) (by unfold maxLen; omega) B2.bel.size ?_; intro w3 hown3 hgrow3)
  have e3 : (madeCells (Value.int .i64 0).cells (g.lives.length * 1)).toList = (fillL (fun x => prF M (x : Int) (lastT g x)) g.lives.length 0).map (Value.int .i64) := by
    rw [Nat.mul_one, fill_zero]
    show (madeCells #[Value.int .i64 0] g.lives.length).toList = _
    rw [toList_madeCells_one, List.map_replicate]
  rw [e3] at hown3
  have hb3 : Below w2.heap.size w2 w3 := (Below.refl _ _).grown hgrow3 (Nat.le_refl _) (fun k hk => by cases hk)
  have B3 := B2.below hb3
  have M3 := hM2.below hb3
  have hs3 := (World.ownsRow.lt hown3 _ rfl).2
  have hlt2 := B2.lt
  have hMl := hM2.lt
  have HB3 := hideg B3
  have HM3 := hideg M3
  have HbR : Hid (w.heap.size ≤ w2.heap.size) := B2.bel.size
  have hbne : b ≠ w2.heap.size := by omega
  have hwne : w.heap.size ≠ w2.heap.size := by omega
  obtain ⟨m, hm⟩ : ∃ m, m = w2.heap.size := ⟨_, rfl⟩
  rw [← hm] at hown3 hs3 hbne hwne ⊢
  clear hgrow3 e3 hb3 B2 hM2 g1 hm hlt2 hMl B3 M3
  generalize hf : (fun x : Nat => prF M (x : Int) (lastT g x)) = f at hown3 HE2
  have HF : Hid (∀ x : Nat, f x = prF M (x : Int) (lastT g x)) := fun x => by rw [← hf]
  clear hf
  go_wp2_with fail
  go_loopw [34] (fun i wr => ∃ k : Nat, k ≤ g.lives.length ∧ i = .int .i64 k ∧ Zo wr w.heap.size m g.lives.length g.lives.length (fillL f g.lives.length k) ∧ w3.grownBy wr (some m)) (fun i _ => g.lives.length - (intOf i).toNat)
  case atStart => exact ⟨0, Nat.zero_le _, rfl, hown3, gby_refl _ _⟩
  case round =>
    clear hown3
    obtain ⟨k, hk, rfl, hZ, hg⟩ := hrel
    by_cases hkl : k < g.lives.length
    · have hki : (k : Int) < (g.lives.length : Int) := by omega
      have hkw : IntKind.i64.wrap ((k : Int) + 1) = (k : Int) + 1 := wrap_nj _ (by omega) (by omega)
      have fz := World.ownsRow.frozenAt hZ k
      have cv := Zo.cell hZ hkl
      obtain ⟨w4, hw4⟩ : ∃ x, x = wr.setCell ⟨m, k, none⟩ (.int .i64 1099511627776) := ⟨_, rfl⟩
      have hZ4 : Zo w4 w.heap.size m g.lives.length g.lives.length ((fillL f g.lives.length k).set k 1099511627776) := by rw [hw4]; exact Zo.set hZ k _
      have hg4 : w3.grownBy w4 (some m) := by rw [hw4]; exact gby_trans hg (gby_setOne _ _ _ _)
      have k0 : w4.cell? ⟨w.heap.size, 0, none⟩ = some (.int .i64 g.hor) := hg4.cell HB3.out.c0 (by simp only; intro h; cases h; exact hwne rfl)
      have k1 : w4.cell? ⟨w.heap.size, 1, none⟩ = some (.slice la g.lives.length lc) := hg4.cell HB3.out.c1 (by simp only; intro h; cases h; exact hwne rfl)
      have k2 : w4.cell? ⟨w.heap.size, 2, none⟩ = some (.slice ea g.edges.length ec) := hg4.cell HB3.out.c2 (by simp only; intro h; cases h; exact hwne rfl)
      have hb4 : Below w.heap.size w w4 := HB3.out.bel.grown hg4 HB3.out.bel.size (fun j hj => by cases hj; have := (World.ownsRow.lt hZ _ rfl).1; omega)
      have hL4 := HL.out w4 hb4 k hkl
      have M4 : MapAt w4 b n M := HM3.out.kept hg4 (fun h => hbne (by cases h; rfl))
      have hlt := HLt.out k hkl
      have HFk := hideg (HF.out k)
      have HSt := hideg (fill_set f g.lives.length k hkl)
      have hw4s := hw4.symm
      clear hw4 hZ hg hb4
      generalize lastT g k = T at *
      go_wp2_with fail
      refine hL4.mono ?_
      rintro r w5 ⟨rfl, hb5⟩
      have M5 := M4.below hb5
      have hZ5 := ownsRow_below hZ4 hb5
      have hg5 := gby_trans hg4 (gby_of_below hb5 (some m))
      have q1 := M5.look (v := (k : Int)) (t := T) (wi_small (by omega) (by omega)) (wi_small (by omega) (by omega))
      clear hL4 hb5 M4 M5 hZ4 hg4 k0 k1 k2 hw4s fz cv
      unfold prF at HFk
      cases hz : M (k : Int) T with
      | none =>
        rw [hz] at q1 HFk
        simp only [keyV, Option.getD_none, encV_mk, Option.isSome_none] at q1
        simp only at HFk
        have HZ6 : Hid (∀ o, Zo (w5.alloc o) w.heap.size m g.lives.length g.lives.length (fillL f g.lives.length (k + 1)) ∧ w3.grownBy (w5.alloc o) (some m)) := fun o => by
          rw [← HSt.out, HFk.out]; exact ⟨ownsRow_below hZ5 (gal w5 o), gby_trans hg5 (gby_of_below (gal w5 o) _)⟩
        clear hZ5 hg5 hz HFk HSt
        go_wp2
        go_roundw
        case rel => exact ⟨k + 1, by omega, by go_num, (HZ6.out _).1, (HZ6.out _).2⟩
        case measure => simp [intOf]; omega
      | some z =>
        obtain ⟨q, E2, d2, a2, e2, ar2, c2⟩ := z
        rw [hz] at q1 HFk
        simp only [keyV, Option.getD_some, encV_mk, Option.isSome_some] at q1
        simp only at HFk
        obtain ⟨w6, hw6⟩ : ∃ x, x = w5.alloc (.cells #[.int .i64 q, .int .i64 E2, .int .i64 d2, .int .i64 a2, .int .i64 e2, .int .i64 ar2, .int .i64 c2] 84) := ⟨_, rfl⟩
        have b6 : Below w5.heap.size w5 w6 := by rw [hw6]; exact gal w5 _
        have v0 : w6.cell? ⟨w5.heap.size, 0, none⟩ = some (.int .i64 q) := by rw [hw6]; exact new_cell rfl rfl
        have hZ6 := ownsRow_below hZ5 b6
        have fz := World.ownsRow.frozenAt hZ6 k
        have cv := Zo.cell hZ6 hkl
        have HZ7 : Hid (Zo (w6.setCell ⟨m, k, none⟩ (.int .i64 q)) w.heap.size m g.lives.length g.lives.length (fillL f g.lives.length (k + 1)) ∧ w3.grownBy (w6.setCell ⟨m, k, none⟩ (.int .i64 q)) (some m)) := by
          refine ⟨?_, gby_trans (gby_trans hg5 (gby_of_below b6 _)) (gby_setOne _ _ _ _)⟩
          have h7 := Zo.set hZ6 k q
          have e7 := HSt.out
          rw [HFk.out] at e7
          rw [List.set_set, e7] at h7
          exact h7
        have hw6s := hw6.symm
        clear hZ5 hg5 hz HFk HSt hw6 hZ6 b6
        go_wp2
        go_roundw
        case rel => exact ⟨k + 1, by omega, by go_num, HZ7.out.1, HZ7.out.2⟩
        case measure => simp [intOf]; omega
    · have hke : k = g.lives.length := by omega
      subst hke
      have HZ := hideg hZ
      have hm0 := (World.ownsRow.lt hZ _ rfl).1
      have HbF : Hid (Below w.heap.size w wr) := HB3.out.bel.grown hg HB3.out.bel.size (fun j hj => by cases hj; omega)
      have HLn := hideg (fill_len f g.lives.length g.lives.length)
      clear hZ hg
      go_wp2
      (try simp only [Exit.inBlock, Exit.then]); refine bodyPost_ret (results_two_e rfl _ _ _) rfl ?_
      refine ⟨_, rfl, fillL f g.lives.length g.lives.length, HE2.out, ?_, HbF.out⟩
      rw [HLn.out]; exact HZ.out

set_option maxRecDepth 100000 in
theorem cCosts_any (g : Gr) (la ea : Option Addr) (lc ec : Nat) (v t : Int) (w : World) (hG : GAt w la ea g) :
    Calls Try.prog 19 #[.agg #[.int .i64 g.hor, .slice la g.lives.length lc, .slice ea g.edges.length ec], .int .i64 v, .int .i64 t] w fun r w' => ∃ u L, r = .returned (.tuple #[u, .int .i64 (placeE g v t)]) ∧ LeastE g prCost v t L ∧ w'.ownsRow w.heap.size 3 1 u L.length (L.map (Value.int .i64)) ∧ Below w.heap.size w w' := by
  have B0 := gbx_start w g la ea lc ec 25
  have h1 := leastPrices_any g la ea lc ec prCost v t 33 (fun args w => Try.call33 args w) _ (hG.below B0.bel) (fun R => prCost_ok R) costOf_any
  have HB := hideg B0
  clear hG B0
  go_enter Try.func19, Try.ntmps19
  go_wp2_with fail
  refine h1.mono ?_
  rintro r w1 ⟨u, L, rfl, hL, ho, hb⟩
  have HL := hideg hL
  have HO := hideg (owns_base2 ho HB.out.bel.size)
  have HB1 := hideg (HB.out.below hb).bel
  clear h1 hL ho hb
  go_wp2
  (try simp only [Exit.inBlock, Exit.then]); refine bodyPost_ret (results_two_e rfl _ _ _) rfl ?_
  exact ⟨_, _, rfl, HL.out, HO.out, HB1.out⟩
set_option maxRecDepth 100000 in
theorem cHops_any (g : Gr) (la ea : Option Addr) (lc ec : Nat) (v t : Int) (w : World) (hG : GAt w la ea g) :
    Calls Try.prog 22 #[.agg #[.int .i64 g.hor, .slice la g.lives.length lc, .slice ea g.edges.length ec], .int .i64 v, .int .i64 t] w fun r w' => ∃ u L, r = .returned (.tuple #[u, .int .i64 (placeE g v t)]) ∧ LeastE g prOne v t L ∧ w'.ownsRow w.heap.size 3 1 u L.length (L.map (Value.int .i64)) ∧ Below w.heap.size w w' := by
  have B0 := gbx_start w g la ea lc ec 25
  have h1 := leastPrices_any g la ea lc ec prOne v t 34 (fun args w => Try.call34 args w) _ (hG.below B0.bel) (fun _ => prOne_ok g) oneEach_any
  have HB := hideg B0
  clear hG B0
  go_enter Try.func22, Try.ntmps22
  go_wp2_with fail
  refine h1.mono ?_
  rintro r w1 ⟨u, L, rfl, hL, ho, hb⟩
  have HL := hideg hL
  have HO := hideg (owns_base2 ho HB.out.bel.size)
  have HB1 := hideg (HB.out.below hb).bel
  clear h1 hL ho hb
  go_wp2
  (try simp only [Exit.inBlock, Exit.then]); refine bodyPost_ret (results_two_e rfl _ _ _) rfl ?_
  exact ⟨_, _, rfl, HL.out, HO.out, HB1.out⟩

end Go.Proofs.Ythgelfnflafoiaf

namespace Go.Proofs.Ythgelfnflafoiaf

/-- who sets out from v at a time has that time, below nought -/
def FF (g : Gr) (v : Int) : Int → Int → Option Int := fun x t => if x = v ∧ aliveB t g.lives v = true then some (-t) else none
theorem FF_ok {g : Gr} (R : Right g) {v : Int} (h0 : 0 ≤ v) : FOk g (FF g v) 0 := fun x t p h => by
  unfold FF at h
  split at h
  · rename_i e; obtain ⟨rfl, e⟩ := e; exact ⟨h0, e, (alive_hor R e).2.1⟩
  · cases h
theorem pd_rch {g : Gr} (R : Right g) {v x t p : Int} (h : Pd g (FF g v) (fun _ => 0) x t p) : Rch g v (-p) x t := by
  induction h with
  | @base x t p h =>
    unfold FF at h
    split at h
    · rename_i e; obtain ⟨rfl, e⟩ := e; cases h; rw [Int.neg_neg]; exact .base e
    · cases h
  | wait _ ha ih => exact .wait ih ha
  | ride hr _ ih => rw [Int.add_zero]; exact (mem_rides R hr).go ih
theorem rch_pd {g : Gr} (R : Right g) {v s x t : Int} (h0 : 0 ≤ v) (h : Rch g v s x t) : Pd g (FF g v) (fun _ => 0) x t (-s) := by
  induction h with
  | base ha => exact .base (by unfold FF; rw [if_pos ⟨rfl, ha⟩])
  | wait _ ha ih => exact .wait ih ha
  | @ride t q i hi h hq ih =>
    have := Pd.ride (pr := fun _ => 0) (ride_mem R hi (h.place R h0).2.2.1 hq) ih
    rw [Int.add_zero] at this
    exact this
theorem ff_range {g : Gr} (R : Right g) {v x t p : Int} (h : Pd g (FF g v) (fun _ => 0) x t p) : -100 ≤ p ∧ p ≤ 0 ∧ 0 ≤ t + p := by
  have h1 := pd_rch R h
  have h2 := alive_hor R h1.src
  have h3 := R.hor
  have h4 := h1.le R
  omega
/-- what Fastest tells of vertices: the least time, and the first at which one sets out for it -/
def FastIs (g : Gr) (v q d a e : Int) : Prop := (e = 4 ∧ d = 0 ∧ a = 0 ∧ ∀ s t, ¬ Rch g v s q t) ∨ (e = 0 ∧ Rch g v a q (a + d) ∧ (∀ s t, Rch g v s q t → d ≤ t - s) ∧ ∀ s, Rch g v s q (s + d) → a ≤ s)
theorem fast_unique {g : Gr} {v q d a e d' a' e' : Int} (h : FastIs g v q d a e) (h' : FastIs g v q d' a' e') : d = d' ∧ a = a' ∧ e = e' := by
  rcases h with ⟨h1, h2, h3, h4⟩ | ⟨h1, h2, h3, h4⟩ <;> rcases h' with ⟨k1, k2, k3, k4⟩ | ⟨k1, k2, k3, k4⟩
  · omega
  · exact absurd k2 (h4 _ _)
  · exact absurd h2 (k4 _ _)
  · have e1 := h3 _ _ k2
    have e2 := k3 _ _ h2
    have e3 : d = d' := by omega
    subst e3
    have e4 := h4 _ k2
    have e5 := k4 _ h2
    omega
/-- the best of the first k times -/
def fsF (M : Mp) (q : Int) : Nat → Int × Int
  | 0 => (1099511627776, 0)
  | k + 1 => match M q (k : Int) with
    | none => fsF M q k
    | some z => if (k : Int) + z.1 < (fsF M q k).1 then ((k : Int) + z.1, -z.1) else fsF M q k
theorem fsF_spec {M : Mp} {q : Int} (hz : ∀ t z, M q t = some z → t + z.1 < 1099511627776) : ∀ k : Nat, ((fsF M q k).1 = 1099511627776 ∧ ∀ t : Nat, t < k → M q (t : Int) = none) ∨ ∃ (t : Nat) (z : Vs), t < k ∧ M q (t : Int) = some z ∧ fsF M q k = ((t : Int) + z.1, -z.1) ∧ ∀ (t' : Nat) (z' : Vs), t' < k → M q (t' : Int) = some z' → (t : Int) + z.1 ≤ (t' : Int) + z'.1 ∧ ((t : Int) + z.1 = (t' : Int) + z'.1 → t ≤ t')
  | 0 => .inl ⟨rfl, fun t h => by omega⟩
  | k + 1 => by
    have ih := fsF_spec hz k
    rw [fsF]
    cases hk : M q (k : Int) with
    | none =>
      simp only
      rcases ih with ⟨h1, h2⟩ | ⟨t, z, h1, h2, h3, h4⟩
      · refine .inl ⟨h1, fun t ht => ?_⟩
        by_cases e : t = k
        · subst e; exact hk
        · exact h2 t (by omega)
      · refine .inr ⟨t, z, by omega, h2, h3, fun t' z' ht' hz' => ?_⟩
        by_cases e : t' = k
        · subst e; rw [hk] at hz'; cases hz'
        · exact h4 t' z' (by omega) hz'
    | some y =>
      simp only
      have hy := hz _ _ hk
      rcases ih with ⟨h1, h2⟩ | ⟨t, z, h1, h2, h3, h4⟩
      · rw [if_pos (by omega)]
        refine .inr ⟨k, y, by omega, hk, rfl, fun t' z' ht' hz' => ?_⟩
        by_cases e : t' = k
        · subst e; rw [hk] at hz'; cases hz'; exact ⟨Int.le_refl _, fun _ => Nat.le_refl _⟩
        · rw [h2 t' (by omega)] at hz'; cases hz'
      · rw [h3]
        simp only
        split
        · rename_i hlt
          refine .inr ⟨k, y, by omega, hk, rfl, fun t' z' ht' hz' => ?_⟩
          by_cases e : t' = k
          · subst e; rw [hk] at hz'; cases hz'; exact ⟨Int.le_refl _, fun _ => Nat.le_refl _⟩
          · have := (h4 t' z' (by omega) hz').1
            exact ⟨by omega, fun _ => by omega⟩
        · rename_i hlt
          refine .inr ⟨t, z, by omega, h2, rfl, fun t' z' ht' hz' => ?_⟩
          by_cases e : t' = k
          · subst e; rw [hk] at hz'; cases hz'; exact ⟨by omega, fun _ => by omega⟩
          · exact h4 t' z' (by omega) hz'
theorem fast_of {g : Gr} (R : Right g) {v q : Int} (h0 : 0 ≤ v) {M : Mp} (S : SpE g (FF g v) (fun _ => 0) M) :
    ((fsF M q g.hor.toNat).1 = 1099511627776 → FastIs g v q 0 0 4) ∧ ((fsF M q g.hor.toNat).1 ≠ 1099511627776 → FastIs g v q (fsF M q g.hor.toNat).1 (fsF M q g.hor.toNat).2 0) := by
  have hh := R.hor
  have hz : ∀ t z, M q t = some z → t + z.1 < 1099511627776 := fun t z h => by
    have h1 := S.snd _ _ _ h
    have h2 := ff_range R h1
    have h3 := h1.place R (FF_ok R h0)
    omega
  have hin : ∀ s t, Rch g v s q t → ∃ z, M q ((t.toNat : Nat) : Int) = some z ∧ z.1 ≤ -s ∧ t.toNat < g.hor.toNat ∧ ((t.toNat : Nat) : Int) = t := fun s t h => by
    obtain ⟨z, hz, hzs⟩ := S.all _ _ _ (rch_pd R h0 h)
    have hp := h.place R h0
    have e : ((t.toNat : Nat) : Int) = t := by omega
    exact ⟨z, by rw [e]; exact hz, hzs, by omega, e⟩
  rcases fsF_spec hz g.hor.toNat with ⟨h1, h2⟩ | ⟨t, z, h1, h2, h3, h4⟩
  · refine ⟨fun _ => .inl ⟨rfl, rfl, rfl, fun s t h => ?_⟩, fun h => absurd h1 h⟩
    obtain ⟨z, k1, _, k3, _⟩ := hin s t h
    rw [h2 _ k3] at k1; cases k1
  · have hzt := hz _ _ h2
    rw [h3]
    refine ⟨fun h => by simp only at h; omega, fun _ => .inr ⟨rfl, ?_, fun s t' h => ?_, fun s h => ?_⟩⟩
    · have := pd_rch R (S.snd _ _ _ h2)
      simp only
      rw [show -z.1 + ((t : Int) + z.1) = (t : Int) by omega]
      exact this
    · obtain ⟨z', k1, k2, k3, k4⟩ := hin s t' h
      have := (h4 _ z' k3 k1).1
      simp only; omega
    · simp only at h ⊢
      obtain ⟨z', k1, k2, k3, k4⟩ := hin s _ h
      have := h4 _ z' k3 k1
      omega

/-- hops that lead from x, wherever one was there ahead of y, to q, for K -/
def Leads (g : Gr) (x y q K : Int) (l : List Hp) : Prop := ∀ y1 c, y1 ≤ y → ∃ τ, goF g (some (x, y1, c)) l = some (q, τ, c + K)
theorem leads_nil (g : Gr) (x y : Int) : Leads g x y x 0 [] := fun y1 c _ => ⟨y1, by rw [goF_nil, Int.add_zero]⟩
theorem Leads.cons {g : Gr} {x y q K : Int} {l : List Hp} (h : Leads g x y q K l) {r : Ri} (hr : RideOk g r) (hv : r.2.2.2.1 = x) (ha : r.2.2.2.2.1 ≤ y) : Leads g r.2.2.1 r.2.1 q (K + r.2.2.2.2.2) ((r.1, r.2.1) :: l) := fun y1 c hy => by
  obtain ⟨τ, h1⟩ := h r.2.2.2.2.1 (c + r.2.2.2.2.2) ha
  refine ⟨τ, ?_⟩
  rw [goF_cons, Option.bind_some, hr.hop hy, hv, h1]
  congr 3
  omega
/-- what Way of the cheapest tells -/
def CWayIs (g : Gr) (v t q e : Int) (l : List Hp) : Prop :=
  (placeE g v t ≠ 0 ∧ e = placeE g v t ∧ l = []) ∨
  (placeE g v t = 0 ∧ (¬ (0 ≤ q ∧ q < g.lives.length) ∨ ∀ τ p, ¬ Pay g (fun r => r.2.2.2.2.2) v t q τ p) ∧ e = 4 ∧ l = []) ∨
  (placeE g v t = 0 ∧ (0 ≤ q ∧ q < g.lives.length) ∧ e = 0 ∧ l.length ≤ 100 ∧ ∃ τ P, aliveB t g.lives v = true ∧ goF g (some (v, t, 0)) l = some (q, τ, P) ∧ (∃ τ', Pay g (fun r => r.2.2.2.2.2) v t q τ' P) ∧ ∀ τ' p, Pay g (fun r => r.2.2.2.2.2) v t q τ' p → P ≤ p)
/-- at the vertex where one began nothing is paid -/
theorem own_zero {g : Gr} (R : Right g) {pr : Ri → Int} (hpr : PrOk g pr) {v t : Int} (h0 : 0 ≤ v) (ha : aliveB t g.lives v = true) {M : Mp} (S : SpE g (F1 v t) pr M) {y : Int} {z : Vs} (hz : M v y = some z) : z.1 = 0 ∧ t ≤ y := by
  have h1 := S.snd _ _ _ hz
  have h2 := h1.range R hpr h0 ha
  have h3 := h1.place R (F1_ok h0 ha)
  have h4 : Pd g (F1 v t) pr v t 0 := .base (by unfold F1; rw [if_pos ⟨rfl, rfl⟩])
  obtain ⟨z', k1, k2⟩ := S.all _ _ _ (h4.waits R (F1_ok h0 ha) h3.2.2.2.2.2 h3.2.2.1)
  rw [hz] at k1
  cases k1
  omega

end Go.Proofs.Ythgelfnflafoiaf

namespace Go.Proofs.Ythgelfnflafoiaf
open Go.RowKit

theorem Try.infoHopJ : (Try.prog.info? 37).map (fun i => (i.zero, i.size, i.bytes)) = some (some (.agg #[.int .i64 0, .int .i64 0]), 2, 16) := by kernel_rfl
theorem stopHere {p : Prop} (h : Hid p) : p := h
theorem encs_appj (a b : List (Int × Int)) : encs (a ++ b) = encs a ++ encs b := by simp [encs, flat]
/-- what Out answers -/
def outAns (g : Gr) (v t : Int) : List Hp := if placeE g v t = 0 then outsF g v t else []

theorem results_two_j {fn : Func} {t u : Tmp} (h : fn.results = #[.tmp t, .tmp u]) (tmps : Array Value) (P : Program) (w : World) :
    (results fn tmps).run P w = .ok (.tuple #[tmps.getD t undef, tmps.getD u undef]) w := by
  simp [results, h]

set_option maxRecDepth 100000 in
set_option maxHeartbeats 1000000 in
theorem jOut_any (g : Gr) (la ea : Option Addr) (lc ec : Nat) (v t : Int) (w : World) (hG : GAt w la ea g) :
    Calls Try.prog 13 #[.agg #[.int .i64 g.hor, .slice la g.lives.length lc, .slice ea g.edges.length ec], .int .i64 v, .int .i64 t] w fun r w' => ∃ u, r = .returned (.tuple #[u, .int .i64 (placeE g v t)]) ∧ w'.ownsRow w.heap.size 37 2 u (outAns g v t).length (encs (outAns g v t)) ∧ Below w.heap.size w w' := by
  obtain ⟨i0, hi, hz0, hz1, hz2⟩ := info_parts Try.infoHopJ
  have B0 := gbx_start w g la ea lc ec 25
  have h1 := jcheck_any g la ea lc ec v t _ (hG.below B0.bel)
  by_cases e1 : placeE g v t = 0
  case neg =>
    have HP : Hid (outAns g v t = []) := by show _ = _; unfold outAns; rw [if_neg e1]
    have d1 : (placeE g v t != 0) = true := by simpa using e1
    generalize placeE g v t = n at *
    clear e1 hG
    go_enter Try.func13, Try.ntmps13
    go_wp2_with fail
    refine h1.mono ?_
    rintro r w1 ⟨rfl, hb1⟩
    have hbF := (B0.below hb1).bel
    clear h1 hb1 B0
    go_wp2
    (try simp only [Exit.inBlock, Exit.then]); refine bodyPost_ret (results_two_j rfl _ _ _) rfl ?_
    exact ⟨_, rfl, by rw [HP.out]; exact World.ownsRow_nil _ _ _ _, hbF⟩
  rw [e1] at h1
  obtain ⟨hg0, ⟨hv0, hv1⟩, ht0, ht1⟩ := placeE_zero e1
  have hR := gChk_right hg0
  have HO : Hid (outAns g v t = outR g v t (ridesF g)) := by show _ = _; unfold outAns; rw [if_pos e1, outR_all hR ht0 ht1]
  have hll : (ridesF g).length ≤ 3000 := Nat.le_trans (ridesTo_len g _) (Nat.le_trans (Nat.mul_le_mul (show g.hor.toNat ≤ 100 by have := hR.hor; omega) hR.eds) (by omega))
  obtain ⟨V, rfl⟩ : ∃ V : Nat, v = (V : Int) := ⟨v.toNat, by omega⟩
  have hVg : V < g.lives.length := by omega
  have HRd := hideg (fun W (hb : Below w.heap.size w W) => Rides_any g la ea lc ec W (hG.below hb) hR)
  have HG := hideg hG
  rw [e1]
  clear hR hG hg0 e1
  generalize ridesF g = rides at *
  go_enter Try.func13, Try.ntmps13
  go_wp2_with fail
  refine h1.mono ?_
  rintro r w1 ⟨rfl, hb1⟩
  have B1 := B0.below hb1
  have g0 := B1.c0
  have g1 := B1.c1
  have g2 := B1.c2
  have h2 := HRd.out _ B1.bel
  clear h1 hb1 B0 HRd
  go_wp2_with fail
  refine h2.mono ?_
  rintro r w2 ⟨u, rfl, hu2, hb2⟩
  have HB2 := hideg (B1.below hb2)
  obtain ⟨ao, cap, rfl, hRd⟩ := rdAt_of_owns hu2
  have HRd := hideg hRd
  clear h2 hb2 B1 g0 g1 g2 hu2 hRd
  go_wp2_with fail
  go_loopw [9, 22] (fun u i wr => ∃ k : Nat, k ≤ rides.length ∧ i = .int .i64 k ∧ wr.ownsRow w2.heap.size 37 2 u (outR g (V : Int) t (rides.take k)).length (encs (outR g (V : Int) t (rides.take k))) ∧ Below w2.heap.size w2 wr) (fun _ i _ => rides.length - (intOf i).toNat)
  case atStart => exact ⟨0, Nat.zero_le _, rfl, World.ownsRow_nil _ _ _ _, Below.refl _ _⟩
  case round =>
    obtain ⟨k, hk, rfl, hown, hb⟩ := hrel
    by_cases hkl : k < rides.length
    · have hkli : (k : Int) < (rides.length : Int) := by omega
      have hkw : IntKind.i64.wrap ((k : Int) + 1) = (k : Int) + 1 := wrap_nj _ (by omega) (by omega)
      have hol := outR_len g (V : Int) t (rides.take k)
      have hol' : (outR g (V : Int) t (rides.take k)).length ≤ 3000 := by rw [List.length_take] at hol; omega
      rcases HRd.out.below hb with h0 | ⟨rb, rof, rfl, hrb, hrc⟩
      · rw [h0] at hkl; simp at hkl
      have hRo := hrc k hkl
      have hgd : rides.getD k ri0 = rides[k] := by rw [List.getD_eq_getElem?_getD, List.getElem?_eq_getElem hkl]; rfl
      rw [hgd] at hRo
      have HSu := hideg (outR_take (g := g) (v := (V : Int)) (t := t) hkl)
      have hBr := HB2.out.below hb
      obtain ⟨lb, lof, rfl, hlb, lv0, lv1⟩ : ∃ b off, la = some ⟨b, off, none⟩ ∧ b < wr.heap.size ∧ (wr.cell? ⟨b, off + V * 2, none⟩ = some (.int .i64 g.lives[V].1) ∧ wr.cell? ⟨b, off + V * 2 + 1, none⟩ = some (.int .i64 g.lives[V].2)) := by
        rcases (HG.out.below hBr.bel).lv with h0 | ⟨b, off, rfl, hbr, hc⟩
        · rw [h0] at hVg; simp at hVg
        exact ⟨b, off, rfl, hbr, IvAt.get hVg hc⟩
      clear hol hgd hrc
      generalize rides[k] = rr at *
      obtain ⟨E, d, a, b, ar, c⟩ := rr
      have hWt := fun W => jwaits_any g.lives[V].1 g.lives[V].2 t d W
      have hLv : leavB g (V : Int) t (E, d, a, b, ar, c) = (decide (a = (V : Int)) && (decide (t ≤ d) && (hasB g.lives[V].1 g.lives[V].2 t && hasB g.lives[V].1 g.lives[V].2 d))) := by
        unfold leavB; rw [aliveB_at t g.lives V hVg, aliveB_at d g.lives V hVg]
      obtain ⟨W0, hW0⟩ : ∃ x, x = wr.alloc (.cells #[.int .i64 E, .int .i64 d, .int .i64 a, .int .i64 b, .int .i64 ar, .int .i64 c] 61) := ⟨_, rfl⟩
      have hba : Below wr.heap.size wr W0 := by rw [hW0]; exact gal wr _
      have c0 := hRo.c0
      have c1 := hRo.c1
      have c2 := hRo.c2
      have c3 := hRo.c3
      have c4 := hRo.c4
      have c5 := hRo.c5
      simp only at c0 c1 c2 c3 c4 c5
      have y0 : W0.cell? ⟨wr.heap.size, 0, none⟩ = some (.int .i64 E) := by rw [hW0]; exact new_cell rfl rfl
      have y1 : W0.cell? ⟨wr.heap.size, 1, none⟩ = some (.int .i64 d) := by rw [hW0]; exact new_cell rfl rfl
      have y2 : W0.cell? ⟨wr.heap.size, 2, none⟩ = some (.int .i64 a) := by rw [hW0]; exact new_cell rfl rfl
      have hlt0 : wr.heap.size < W0.heap.size := by rw [hW0]; simp
      have hW0s := hW0.symm
      have hne : Nonempty (HeldIn W0) := ⟨⟨W0, Below.refl _ _⟩⟩
      have f0 : ∀ s : HeldIn W0, s.w.cell? ⟨wr.heap.size, 1, none⟩ = some (.int .i64 d) := fun s => (s.h.cell (p := ⟨wr.heap.size, 1, none⟩) hlt0).trans y1
      have f1 : ∀ s : HeldIn W0, s.w.cell? ⟨wr.heap.size, 2, none⟩ = some (.int .i64 a) := fun s => (s.h.cell (p := ⟨wr.heap.size, 2, none⟩) hlt0).trans y2
      have f2 : ∀ s : HeldIn W0, s.w.cell? ⟨w.heap.size, 1, none⟩ = some (.slice (some ⟨lb, lof, none⟩) g.lives.length lc) := fun s => ((hBr.below hba).below s.h).c1
      have f3 : ∀ s : HeldIn W0, s.w.cell? ⟨lb, lof + V * 2, none⟩ = some (.int .i64 g.lives[V].1) := fun s => ((ptg hba s.h).cell (p := ⟨lb, lof + V * 2, none⟩) hlb).trans lv0
      have f4 : ∀ s : HeldIn W0, s.w.cell? ⟨lb, lof + V * 2 + 1, none⟩ = some (.int .i64 g.lives[V].2) := fun s => ((ptg hba s.h).cell (p := ⟨lb, lof + V * 2 + 1, none⟩) hlb).trans lv1
      have hVi : (V : Int) < (g.lives.length : Int) := by omega
      have HOW : Hid (∀ W, Below W0.heap.size W0 W → W.ownsRow w2.heap.size 37 2 u9 (outR g (V : Int) t (rides.take k)).length (encs (outR g (V : Int) t (rides.take k))) ∧ Below w2.heap.size w2 W ∧ W.cell? ⟨wr.heap.size, 0, none⟩ = some (.int .i64 E) ∧ W.cell? ⟨wr.heap.size, 1, none⟩ = some (.int .i64 d)) := fun W h => ⟨ownsRow_below hown (ptg hba h), hb.trans ((ptg hba h).mono hb.size), (h.cell (p := ⟨wr.heap.size, 0, none⟩) hlt0).trans y0, (h.cell (p := ⟨wr.heap.size, 1, none⟩) hlt0).trans y1⟩
      generalize hcur : outR g (V : Int) t (rides.take k) = cur at *
      generalize (decide (t ≤ d) && (hasB g.lives[V].1 g.lives[V].2 t && hasB g.lives[V].1 g.lives[V].2 d)) = bw at *
      simp only at HSu
      rw [hLv] at HSu
      clear hcur hLv hRo hBr lv0 lv1 hown hb hW0 hba y0 y1 y2
      by_cases ea' : a = (V : Int)
      · have dA : (a == (V : Int)) = true := by simpa using ea'
        rw [show decide (a = (V : Int)) = true from by simpa using ea', Bool.true_and] at HSu
        clear ea'
        cases bw with
        | false =>
          have HE : Hid (outR g (V : Int) t (rides.take (k + 1)) = cur) := by show _ = _; rw [HSu.out]; simp
          go_wp2_with fail
          refine wp_region_held W0 (Below.refl _ _) (by kernel_rfl) (by kernel_rfl) ?_
          repeat (go_big_quiet_step ((go_at_call 28; exact held_of (hWt _))))
          refine wpQuiet_nil ?_
          rintro _ ⟨s, rfl⟩
          obtain ⟨o1, o2, _⟩ := HOW.out s.w s.h
          clear f0 f1 f2 f3 f4 hne hWt HOW c0 c1 c2 c3 c4 hW0s
          generalize s.w = w3 at *
          go_wp2
          go_roundw
          case rel => exact ⟨k + 1, by omega, by go_num, by rw [HE.out]; exact o1, o2⟩
          case measure => simp [intOf]; omega
        | true =>
          have HE : Hid (outR g (V : Int) t (rides.take (k + 1)) = cur ++ [(E, d)]) := by show _ = _; rw [HSu.out]; simp
          go_wp2_with fail
          refine wp_region_held W0 (Below.refl _ _) (by kernel_rfl) (by kernel_rfl) ?_
          repeat (go_big_quiet_step ((go_at_call 28; exact held_of (hWt _))))
          refine wpQuiet_nil ?_
          rintro _ ⟨s, rfl⟩
          obtain ⟨o1, o2, x0, x1⟩ := HOW.out s.w s.h
          clear f0 f1 f2 f3 f4 hne hWt HOW c0 c1 c2 c3 c4 hW0s
          generalize s.w = w3 at *
          have hs3 := o2.size
          have HBg : Hid (∀ (o : Obj) (w5 : World), (w3.alloc o).grownBy w5 u9.ownBlock → Below w2.heap.size w2 w5) := fun o w5 hgr => (o2.alloc o2.size o).grown hgr (by have := o2.size; simp at this ⊢; omega) (fun k hk => (o1.lt k hk).1)
          go_wp2_with (at_builtin; refine stopHere ?_)
          refine hideg ?_
          refine wpList_append_own _ rfl _ _ 28 rfl w2.heap.size 37 i0 _ 2 16 Try.underlying28 hi hz0 hz1 hz2 rfl (by decide) _ _ _ rfl (World.ownsRow.alloc (w := w3) o1 _) ⟨w3.heap.size, 0, none⟩ 1 1 [.int .i64 E, .int .i64 d] rfl rfl (cells_two_new _ _ _ _ _ (by simp)) (by intro u hu; simp at hu; rcases hu with rfl | rfl <;> rfl) (by unfold maxLen; omega) (by omega) (by simp; omega) ?_
          intro v' w5 hown5 hgrow _
          have hb' := HBg.out _ _ hgrow
          have R : w5.ownsRow w2.heap.size 37 2 v' (outR g (V : Int) t (rides.take (k + 1))).length (encs (outR g (V : Int) t (rides.take (k + 1)))) := by
            rw [HE.out, encs_appj, List.length_append]; exact hown5
          clear hgrow o1 hown5 x0 x1
          go_wp2
          go_roundw
          case rel => exact ⟨k + 1, by omega, by go_num, R, hb'⟩
          case measure => simp [intOf]; omega
      · have dA : (a == (V : Int)) = false := by simpa using ea'
        rw [show decide (a = (V : Int)) = false from by simpa using ea', Bool.false_and] at HSu
        have HE : Hid (outR g (V : Int) t (rides.take (k + 1)) = cur) := by show _ = _; rw [HSu.out]; simp
        clear ea'
        go_wp2_with fail
        refine wp_region_held W0 (Below.refl _ _) (by kernel_rfl) (by kernel_rfl) ?_
        repeat (go_big_quiet_step ((go_at_call 28; exact held_of (hWt _))))
        refine wpQuiet_nil ?_
        rintro _ ⟨s, rfl⟩
        obtain ⟨o1, o2, _⟩ := HOW.out s.w s.h
        clear f0 f1 f2 f3 f4 hne hWt HOW c0 c1 c2 c3 c4 hW0s
        generalize s.w = w3 at *
        go_wp2
        go_roundw
        case rel => exact ⟨k + 1, by omega, by go_num, by rw [HE.out]; exact o1, o2⟩
        case measure => simp [intOf]; omega
    · have hke : rides.length = k := by omega
      rw [← hke, List.take_length, ← HO.out] at hown
      have R := owns_base2 hown HB2.out.bel.size
      have hbF := HB2.out.bel.trans (hb.mono HB2.out.bel.size)
      clear hown hke
      go_wp2
      (try simp only [Exit.inBlock, Exit.then]); refine bodyPost_ret (results_two_j rfl _ _ _) rfl ?_
      exact ⟨_, rfl, R, hbF⟩

end Go.Proofs.Ythgelfnflafoiaf

namespace Go.Proofs.Ythgelfnflafoiaf
open Go.RowKit

/-- an operation waits for each of some others, itself or by way of another one of them -/
def waitsAll (ops : Array Oper) (o : Oper) : Bool := (List.range ops.size).all fun j =>
  o.after.any (fun e => Region.binds .any e && e.on == j) || (List.range ops.size).any fun k => decide (j < k) && match ops[k]? with
    | some o => o.after.any fun e => Region.binds .any e && e.on == j
    | none => false
theorem all_of_waits {ops : Array Oper} {o : Oper} {listed : Array Bool} (hl : waitsAll ops o = true) (hc : Closed ops listed) (hsz : listed.size = ops.size) (hs : ∀ e ∈ o.after, Region.binds .any e = true → e.on < ops.size → listed.getD e.on false = true) : ∀ d j, j + d = ops.size → j < ops.size → listed.getD j false = true := by
  intro d
  induction d using Nat.strongRecOn with
  | _ d ih =>
    intro j hd hj
    have h1 := List.all_eq_true.1 hl j (List.mem_range.2 hj)
    rw [Bool.or_eq_true] at h1
    rcases h1 with h1 | h1
    · obtain ⟨e, he, h2⟩ := arr_any h1
      rw [Bool.and_eq_true, beq_iff_eq] at h2
      rw [← h2.2]
      exact hs e he h2.1 (by rw [h2.2]; exact hj)
    · obtain ⟨k, hk, h2⟩ := List.any_eq_true.1 h1
      rw [List.mem_range] at hk
      rw [Bool.and_eq_true, decide_eq_true_eq] at h2
      have ho : ops[k]? = some ops[k] := Array.getElem?_eq_getElem hk
      simp only [ho] at h2
      obtain ⟨e, he, h3⟩ := arr_any h2.2
      rw [Bool.and_eq_true, beq_iff_eq] at h3
      have hkl := ih (d - (k - j)) (by omega) k (by omega) hk
      rw [← h3.2]
      refine hc k _ ho ?_ e he h3.1
      have hk' : k < listed.size := by omega
      simpa [hk'] using hkl

theorem getD_app {l r : Array Bool} {j : Nat} (d : Bool) (h : j < l.size) : (l ++ r).getD j d = l.getD j d := by
  simp [Nat.lt_of_lt_of_le h]
theorem getElem_app {ops suf : Array Oper} {j : Nat} (h : j < ops.size) : (ops ++ suf)[j]? = ops[j]? := Array.getElem?_append_left h

theorem ready_split {ops suf : Array Oper} {listed r : Array Bool} (hf : fwdB ops = true) (hw : ∀ o ∈ suf, waitsAll ops o = true) (hc : Closed ops listed) (hsz : listed.size = ops.size) (hne : Region.ready .any ops listed ≠ []) (i : Nat) :
    i ∈ Region.ready .any (ops ++ suf) (listed ++ r) ↔ i ∈ Region.ready .any ops listed := by
  rw [mem_ready, mem_ready]
  rcases Nat.lt_or_ge i ops.size with hi | hi
  · rw [getD_app true (by omega), getElem_app hi]
    refine and_congr_right fun _ => exists_congr fun o => and_congr_right fun ho => forall_congr' fun e => forall_congr' fun he => forall_congr' fun hb => ?_
    have := (fwd_spec hf ho).2 e he hb
    rw [getD_app false (by omega)]
  · constructor
    · rintro ⟨_, o, ho, hall⟩
      exfalso
      rw [Array.getElem?_append_right hi] at ho
      have hm : o ∈ suf := Array.mem_of_getElem? ho
      apply hne
      have hall2 := all_of_waits (hw o hm) hc hsz (fun e he hb hlt => by have := hall e he hb; rwa [getD_app false (by omega)] at this)
      apply List.eq_nil_iff_forall_not_mem.2
      intro j hj
      rw [mem_ready] at hj
      obtain ⟨h0, o, hoj, _⟩ := hj
      have hjlt : j < ops.size := (Array.getElem?_eq_some_iff.1 hoj).1
      have h1 := hall2 (ops.size - j) j (by omega) hjlt
      have hj' : j < listed.size := by omega
      simp [hj'] at h0 h1
      rw [h0] at h1
      cases h1
    · rintro ⟨_, o, ho, _⟩
      rw [Array.getElem?_eq_none hi] at ho
      cases ho

/-- the post of the first part -/
def SplitQ (R : Act → World → Prop) (Q : Exit → Act → World → Prop) : Exit → Act → World → Prop
  | .normal, a, w => R a w
  | e, a, w => Q e a w
theorem wp_split {P : Program} {o : Oper} {R : Act → World → Prop} {Q : Exit → Act → World → Prop} {K K' : Act → World → Prop} {a : Act} {w : World} (hK : ∀ a w, K a w → K' a w) (h : o.wp P a w K (SplitQ R Q)) : o.wp P a w K' Q := by
  unfold Oper.wp at *
  generalize (execOp a.eval o).run P w = r at *
  cases r with
  | ok n w' =>
    cases n <;> simp only [Oper.upon] at h ⊢ <;>
      first
        | exact hK _ _ h
        | exact Calls.mono h (fun e w'' he => by cases e <;> first | exact hK _ _ he | exact he)
        | exact Rows.mono h (fun _ _ he => hK _ _ he)
  | halt x w' => cases x <;> simp only [Oper.upon] at h ⊢ <;> exact h

theorem wpAny_more {P : Program} {md : Region.Mode} {ops : Array Oper} {Q : Exit → Act → World → Prop} : ∀ (fuel : Nat) (listed : Array Bool) (a : Act) (w : World), wpAny P md ops Q fuel listed a w → wpAny P md ops Q (fuel + 1) listed a w
  | 0, _, _, _, h => ⟨fun _ => h.2, by rw [h.1]; simp⟩
  | fuel + 1, _, _, _, h => ⟨h.1, fun i hi => wpOp_mono (fun a' w' h' => wpAny_more fuel _ a' w' h') (h.2 i hi)⟩
theorem wpAny_mores {P : Program} {md : Region.Mode} {ops : Array Oper} {Q : Exit → Act → World → Prop} {n : Nat} {listed : Array Bool} {a : Act} {w : World} (h : wpAny P md ops Q n listed a w) : ∀ k, wpAny P md ops Q (k + n) listed a w
  | 0 => by rwa [Nat.zero_add]
  | k + 1 => by rw [show k + 1 + n = (k + n) + 1 by omega]; exact wpAny_more _ _ _ _ (wpAny_mores h k)

theorem split_sound {P : Program} {ops suf : Array Oper} {Q : Exit → Act → World → Prop} (hf : fwdB ops = true) (hw : ∀ o ∈ suf, waitsAll ops o = true) : ∀ (fuel : Nat) (listed : Array Bool) (a : Act) (w : World), listed.size = ops.size → Closed ops listed →
    wpAny P .any ops (SplitQ (fun a w => wpAny P .any (ops ++ suf) Q suf.size (Array.replicate ops.size true ++ Array.replicate suf.size false) a w) Q) fuel listed a w → wpAny P .any (ops ++ suf) Q (fuel + suf.size) (listed ++ Array.replicate suf.size false) a w := by
  have fin : ∀ (fuel : Nat) (listed : Array Bool) (a : Act) (w : World), listed.size = ops.size → Region.ready .any ops listed = [] → wpAny P .any (ops ++ suf) Q suf.size (Array.replicate ops.size true ++ Array.replicate suf.size false) a w → wpAny P .any (ops ++ suf) Q (fuel + suf.size) (listed ++ Array.replicate suf.size false) a w := by
    intro fuel listed a w hsz hr hq
    have hall := all_listed hf hsz hr
    have e : listed = Array.replicate ops.size true := by
      apply Array.ext
      · simpa using hsz
      · intro j h1 h2
        have := hall j (by omega)
        simpa [h1] using this
    rw [e]
    exact wpAny_mores hq fuel
  intro fuel
  induction fuel with
  | zero =>
    intro listed a w hsz hc h
    exact fin 0 listed a w hsz h.1 h.2
  | succ fuel ih =>
    intro listed a w hsz hc h
    by_cases hr : Region.ready .any ops listed = []
    · exact fin (fuel + 1) listed a w hsz hr (h.1 hr)
    · rw [show fuel + 1 + suf.size = (fuel + suf.size) + 1 by omega]
      refine ⟨fun h0 => ?_, fun i hi => ?_⟩
      · exfalso
        apply hr
        apply List.eq_nil_iff_forall_not_mem.2
        intro j hj
        have := (ready_split (r := Array.replicate suf.size false) hf hw hc hsz hr j).2 hj
        rw [h0] at this
        cases this
      · have hi' := (ready_split hf hw hc hsz hr i).1 hi
        have h1 := h.2 i hi'
        obtain ⟨hun, o, ho, hdep⟩ := mem_ready.1 hi'
        have hilt : i < ops.size := (Array.getElem?_eq_some_iff.1 ho).1
        have ho' : (ops ++ suf)[i]? = some o := by rw [getElem_app hilt]; exact ho
        have hg := (fwd_spec hf ho).1
        have eset : (listed ++ Array.replicate suf.size false).setIfInBounds i true = (listed.setIfInBounds i true) ++ Array.replicate suf.size false := by
          rw [Array.setIfInBounds_append_left (by omega)]
        have hc' : Closed ops (listed.setIfInBounds i true) := by
          intro j oj hoj hlj e he hb
          by_cases hij : i = j
          · subst hij
            rw [ho] at hoj
            cases hoj
            exact getD_set_true (hdep e he hb)
          · rw [getD_set_ne true hij] at hlj
            exact getD_set_true (hc j oj hoj hlj e he hb)
        unfold wpOp at h1 ⊢
        simp only [ho, ho', Region.wanted, hg, if_true] at h1 ⊢
        rw [eset]
        refine h1.imp (fun hh => wp_split (fun a' w' hk => ih _ a' w' (by simpa using hsz) hc' hk) hh) (fun hh => ⟨hh.1, hh.2⟩)

/-- the beginning: m operations are the first part -/
theorem wp_region_split {P : Program} (w0 : World) (m : Nat) {id : Nat} {l : List Oper} {Q : Exit → Act → World → Prop} {a : Act} {w : World} (h0 : Below w0.heap.size w0 w) (hm : P.follows .mixedOrders = true) (hB : Region.lexB .any (l.take m).toArray = true) (hf : fwdB (l.take m).toArray = true) (hw : (l.drop m).all (waitsAll (l.take m).toArray) = true)
    (h : wpQuiet P (l.take m).toArray (fun w' => ∃ s : HeldIn w0, w' = s.w) (fun a' => ∀ w', (∃ s : HeldIn w0, w' = s.w) → wpAnyH P .any l.toArray Q (fun _ => True) (l.drop m).length (Array.replicate (l.take m).length true ++ Array.replicate (l.drop m).length false) a' w') (l.take m) a) : (Code.region id l.toArray true).wp P Q a w := by
  have e : l.toArray = (l.take m).toArray ++ (l.drop m).toArray := by simp
  generalize hp : l.take m = p at *
  generalize hs : l.drop m = s at *
  clear hp hs
  refine wp_region_any hm ?_
  simp only [Region.lexB, Bool.and_eq_true] at hB
  rw [e] at h ⊢
  have h1 : wpAny P .any p.toArray (SplitQ (fun a w => wpAny P .any (p.toArray ++ s.toArray) Q s.toArray.size (Array.replicate p.toArray.size true ++ Array.replicate s.toArray.size false) a w) Q) p.toArray.size (Array.replicate p.toArray.size false) a w.drew := by
    refine wpAny_of_quiet (C := fun w' => ∃ s : HeldIn w0, w' = s.w) (Q := fun a' => ∀ w', (∃ s : HeldIn w0, w' = s.w) → wpAnyH P .any (p.toArray ++ s.toArray) Q (fun _ => True) s.length (Array.replicate p.length true ++ Array.replicate s.length false) a' w') (fun _ w' hw' h => by have := wpAny_of_held _ _ _ _ (h w' hw'); simpa [SplitQ] using this) _ _ _ _ ⟨⟨_, h0.drew⟩, rfl⟩ ?_
    have := wpAnyQ_lex (C := fun w' => ∃ s : HeldIn w0, w' = s.w) (md := .any) hB.1 p 0 (Array.replicate p.toArray.size false) a (by simp) (by simpa using hB.2) h
    simpa using this
  have h2 := split_sound hf (fun o ho => List.all_eq_true.1 hw o (by simpa using ho)) p.toArray.size _ a w.drew (by simp) (by
    intro j o hj hlj
    have : j < p.toArray.size := (Array.getElem?_eq_some_iff.1 hj).1
    simp at this
    simp [this] at hlj) h1
  have e1 : (Array.replicate p.toArray.size false) ++ (Array.replicate s.toArray.size false) = Array.replicate (p.toArray ++ s.toArray).size false := by simp
  have e2 : p.toArray.size + s.toArray.size = (p.toArray ++ s.toArray).size := by simp
  rw [e1, e2] at h2
  exact h2

end Go.Proofs.Ythgelfnflafoiaf

namespace Go.Proofs.Ythgelfnflafoiaf
open Go.RowKit

theorem results_tmp4j {fn : Func} {t u v x : Tmp} (h : fn.results = #[.tmp t, .tmp u, .tmp v, .tmp x]) (tmps : Array Value) (P : Program) (w : World) :
    (results fn tmps).run P w = .ok (.tuple #[tmps.getD t undef, tmps.getD u undef, tmps.getD v undef, tmps.getD x undef]) w := by
  simp [results, h]
/-- what Go hands back -/
def goW (a : Int × Int × Int × Int) : Value := .tuple #[.int .i64 a.1, .int .i64 a.2.1, .int .i64 a.2.2.1, .int .i64 a.2.2.2]
/-- a stop in a box: where one is, if one is anywhere -/
structure SBx (W : World) (B : Nat) (q : Int × Int × Int) : Prop where
  c0 : W.cell? ⟨B, 0, none⟩ = some (.int .i64 q.1)
  c1 : W.cell? ⟨B, 1, none⟩ = some (.int .i64 q.2.1)
  c2 : W.cell? ⟨B, 2, none⟩ = some (.int .i64 q.2.2)
  fz : ∀ j, W.frozen? ⟨B, j, none⟩ = false
  lt : B < W.heap.size
theorem SBx.below {W W' : World} {B : Nat} {q : Int × Int × Int} (h : SBx W B q) (hb : Below W.heap.size W W') : SBx W' B q :=
  ⟨(hb.cell (p := ⟨B, 0, none⟩) h.lt).trans h.c0, (hb.cell (p := ⟨B, 1, none⟩) h.lt).trans h.c1, (hb.cell (p := ⟨B, 2, none⟩) h.lt).trans h.c2, fun j => (hb.frozen (p := ⟨B, j, none⟩) h.lt).trans (h.fz j), Nat.lt_of_lt_of_le h.lt hb.size⟩
theorem SBx.set {W : World} {B : Nat} {q : Int × Int × Int} (h : SBx W B q) (p : Int × Int × Int) : SBx (((W.setCell ⟨B, 0, none⟩ (.int .i64 p.1)).setCell ⟨B, 1, none⟩ (.int .i64 p.2.1)).setCell ⟨B, 2, none⟩ (.int .i64 p.2.2)) B p := by
  have h0 := h.c0
  have h1 := h.c1
  have h2 := h.c2
  have hf := h.fz
  refine ⟨?_, ?_, ?_, fun j => ?_, by simpa using h.lt⟩
  · rw [World.cell?_setCell_other _ _ _ _ (by simp), World.cell?_setCell_other _ _ _ _ (by simp)]; exact World.cell?_setCell_same _ _ _ h0
  · rw [World.cell?_setCell_other _ _ _ _ (by simp)]; exact World.cell?_setCell_same _ _ _ (by rw [World.cell?_setCell_other _ _ _ _ (by simp)]; exact h1)
  · exact World.cell?_setCell_same _ _ _ (by rw [World.cell?_setCell_other _ _ _ _ (by simp), World.cell?_setCell_other _ _ _ _ (by simp)]; exact h2)
  · simp [hf]
theorem sbx_start {W : World} {q : Int × Int × Int} {T : TypeId} : SBx (W.alloc (.cells #[.int .i64 q.1, .int .i64 q.2.1, .int .i64 q.2.2] T)) W.heap.size q :=
  ⟨new_cell rfl rfl, new_cell rfl rfl, new_cell rfl rfl, fun _ => new_frozen rfl, by simp⟩
/-- the graph's box and the stop's -/
theorem GBx.set {w W : World} {B D : Nat} {g : Gr} {la ea : Option Addr} {lc ec : Nat} (h : GBx w W B g la ea lc ec) (hne : B ≠ D) (hD : w.heap.size ≤ D) (x y z : Value) : GBx w (((W.setCell ⟨D, 0, none⟩ x).setCell ⟨D, 1, none⟩ y).setCell ⟨D, 2, none⟩ z) B g la ea lc ec := by
  have h0 := h.c0
  have h1 := h.c1
  have h2 := h.c2
  have hne' : ¬ D = B := fun e => hne e.symm
  refine ⟨?_, ?_, ?_, set3 h.bel hD _ _ _, by simpa using h.lt⟩
  · rw [World.cell?_setCell_far _ _ _ _ hne', World.cell?_setCell_far _ _ _ _ hne', World.cell?_setCell_far _ _ _ _ hne']; exact h0
  · rw [World.cell?_setCell_far _ _ _ _ hne', World.cell?_setCell_far _ _ _ _ hne', World.cell?_setCell_far _ _ _ _ hne']; exact h1
  · rw [World.cell?_setCell_far _ _ _ _ hne', World.cell?_setCell_far _ _ _ _ hne', World.cell?_setCell_far _ _ _ _ hne']; exact h2

set_option maxRecDepth 100000 in
set_option maxHeartbeats 8000000 in
theorem jGo_any (g : Gr) (la ea : Option Addr) (lc ec : Nat) (v t : Int) (ho : Option Addr) (hc : Nat) (l : List Hp) (w : World) (hG : GAt w la ea g) (hH : IvAt w ho l) (hlen : l.length ≤ 9223372036854775807) :
    Calls Try.prog 11 #[.agg #[.int .i64 g.hor, .slice la g.lives.length lc, .slice ea g.edges.length ec], .int .i64 v, .int .i64 t, .slice ho l.length hc] w fun r w' => r = .returned (goW (goAns g v t l)) ∧ Below w.heap.size w w' := by
  have B0 := gbx_start w g la ea lc ec 25
  have h1 := jcheck_any g la ea lc ec v t _ (hG.below B0.bel)
  by_cases e1 : placeE g v t = 0
  case neg =>
    have HP : Hid (goAns g v t l = (0, 0, 0, placeE g v t)) := by show _ = _; unfold goAns; rw [if_neg e1]
    have d1 : (placeE g v t != 0) = true := by simpa using e1
    generalize placeE g v t = n at *
    clear e1 hG hH
    go_enter Try.func11, Try.ntmps11
    go_wp2_with fail
    refine h1.mono ?_
    rintro r w1 ⟨rfl, hb1⟩
    have hbF := (B0.below hb1).bel
    clear h1 hb1 B0
    go_wp2
    (try simp only [Exit.inBlock, Exit.then]); refine bodyPost_ret (results_tmp4j rfl _ _ _) rfl ?_
    exact ⟨by rw [HP.out]; rfl, hbF⟩
  rw [e1] at h1
  obtain ⟨hg0, ⟨hv0, hv1⟩, ht0, ht1⟩ := placeE_zero e1
  have hR := gChk_right hg0
  by_cases h500 : 500 < l.length
  · have HP : Hid (goAns g v t l = (0, 0, 0, 2)) := by show _ = _; unfold goAns; rw [if_pos e1, if_pos h500]
    clear e1 hG hH
    go_enter Try.func11, Try.ntmps11
    go_wp2_with fail
    refine h1.mono ?_
    rintro r w1 ⟨rfl, hb1⟩
    have hbF := (B0.below hb1).bel
    clear h1 hb1 B0
    go_wp2
    (try simp only [Exit.inBlock, Exit.then]); refine bodyPost_ret (results_tmp4j rfl _ _ _) rfl ?_
    exact ⟨by rw [HP.out]; rfl, hbF⟩
  have h500' : l.length ≤ 500 := by omega
  obtain ⟨s0, hs0⟩ : ∃ s0, s0 = (if aliveB t g.lives v = true then some (v, t, (0 : Int)) else none) := ⟨_, rfl⟩
  have HP5 : Hid (goF g s0 l = none → goAns g v t l = (0, 0, 0, 5)) := by intro h; unfold goAns; rw [if_pos e1, if_neg h500, ← hs0, h]
  have HP0 : Hid (∀ s, goF g s0 l = some s → goAns g v t l = (s.1, s.2.1, s.2.2, 0)) := by intro s h; unfold goAns; rw [if_pos e1, if_neg h500, ← hs0, h]
  obtain ⟨V, rfl⟩ : ∃ V : Nat, v = (V : Int) := ⟨v.toNat, by omega⟩
  have hV : V < g.lives.length := by omega
  have hlv := hR.lvs
  have hAV := aliveB_at t g.lives V hV
  have hVi : (V : Int) < (g.lives.length : Int) := by omega
  have hV0 : (0 : Int) ≤ (V : Int) := by omega
  have HG := hideg hG
  have HH := hideg hH
  have HRt := hideg hR
  have HTh : Hid (aliveB t g.lives (V : Int) = true → There g ((V : Int), t, 0)) := fun h => ⟨by simp only; omega, by simp only; omega, h⟩
  obtain ⟨ok, hok⟩ : ∃ ok, ok = aliveB t g.lives (V : Int) := ⟨_, rfl⟩
  have hAl := fun W => jalive_any g.lives[V].1 g.lives[V].2 t W
  rw [← hAV, ← hok] at hAl
  have HLv : Hid (∀ w, GAt w la ea g → ∃ b off, la = some ⟨b, off, none⟩ ∧ b < w.heap.size ∧ w.cell? ⟨b, off + V * 2, none⟩ = some (.int .i64 g.lives[V].1) ∧ w.cell? ⟨b, off + V * 2 + 1, none⟩ = some (.int .i64 g.lives[V].2)) := by
    intro w hG
    rcases hG.lv with h0 | ⟨b, off, rfl, hbr, hc⟩
    · rw [h0] at hV; simp at hV
    exact ⟨b, off, rfl, hbr, IvAt.get hV hc⟩
  have HS0 : Hid ((∃ s, goF g s0 (l.take 0) = some s ∧ ((V : Int), t, (0 : Int)) = s ∧ There g s ∧ 0 ≤ s.2.2 ∧ s.2.2 ≤ 1000 * ((0 : Nat) : Int) ∧ ok = true) ∨ (goF g s0 (l.take 0) = none ∧ ok = false)) := by
    rw [List.take_zero]
    cases ok with
    | true => left; exact ⟨((V : Int), t, 0), by rw [hs0, ← hok]; rfl, rfl, HTh.out hok.symm, by simp, by simp, rfl⟩
    | false => right; exact ⟨by rw [hs0, ← hok]; rfl, rfl⟩
  clear e1 hG hH h500 hR hg0 hv1 hs0 hok HTh hAV
  go_enter Try.func11, Try.ntmps11
  go_wp2_with fail
  refine h1.mono ?_
  rintro r w1 ⟨rfl, hb1⟩
  have B1 := B0.below hb1
  have hD : w.heap.size < w1.heap.size := B1.lt
  have B2 := B1.below (gal w1 (.cells #[.int .i64 (V : Int), .int .i64 t, .int .i64 0] 52))
  have S2 : SBx (w1.alloc (.cells #[.int .i64 (V : Int), .int .i64 t, .int .i64 0] 52)) w1.heap.size ((V : Int), t, 0) := sbx_start (q := ((V : Int), t, 0))
  obtain ⟨lb, lof, rfl, hlb, lv0, lv1⟩ := HLv.out _ (HG.out.below B2.bel)
  have g1 := B1.c1
  have g1' := B2.c1
  clear h1 hb1 B0
  go_wp2_with fail
  refine (hAl _).mono ?_
  rintro r w3 ⟨rfl, hb3⟩
  have B3 := hideg (B2.below hb3)
  have S3 := hideg (S2.below hb3)
  clear hAl hb3 B1 B2 S2 lv0 lv1 hlb HLv g1 g1'
  go_wp2_with fail
  go_loopw [14, 15] (fun o i wr => ∃ (k : Nat) (q : Int × Int × Int) (ok : Bool), k ≤ l.length ∧ i = .int .i64 k ∧ o = .bool ok ∧ ((∃ s, goF g s0 (l.take k) = some s ∧ q = s ∧ There g s ∧ 0 ≤ s.2.2 ∧ s.2.2 ≤ 1000 * (k : Int) ∧ ok = true) ∨ (goF g s0 (l.take k) = none ∧ ok = false)) ∧ SBx wr w1.heap.size q ∧ GBx w wr w.heap.size g (some ⟨lb, lof, none⟩) ea lc ec) (fun _ i _ => l.length - (intOf i).toNat)
  case atStart => exact ⟨0, _, ok, Nat.zero_le _, rfl, rfl, HS0.out, S3.out, B3.out⟩
  case round =>
    clear HS0 S3 B3
    obtain ⟨k, q, ok, hk, rfl, rfl, hstate, hS, hB⟩ := hrel
    have g0 := hB.c0
    have g1 := hB.c1
    have g2 := hB.c2
    have t0' := hS.c0
    have t1' := hS.c1
    have t2' := hS.c2
    rcases hstate with ⟨s, hs, rfl, hTh, hJ0, hJ1, rfl⟩ | ⟨hs, rfl⟩
    · have HSs := hideg hs
      clear hs
      by_cases hlt : k < l.length
      · rcases HH.out.below hB.bel with h0 | ⟨b, off, rfl, hbr, hcc⟩
        · subst h0; simp at hlt
        obtain ⟨c0, c1⟩ := IvAt.get hlt hcc
        have HT := hideg (goF_take (g := g) (s := s0) hlt)
        rw [HSs.out, Option.bind_some, ← nextF_there hTh.al] at HT
        obtain ⟨p, hp, hNx⟩ := next_any g (some ⟨lb, lof, none⟩) ea lc ec q l[k] HRt.out hTh.v0 hTh.v1 hJ0 (by omega)
        have HNs : Hid (∀ s', nextF g q l[k] = some s' → There g s' ∧ 0 ≤ s'.2.2 ∧ s'.2.2 ≤ 1000 * ((k + 1 : Nat) : Int)) := by
          intro s' e
          rw [nextF_there hTh.al] at e
          obtain ⟨k1, _, _, _, k2, k3⟩ := hopF_spec HRt.out e
          exact ⟨k1, by omega, by omega⟩
        have HNext : Hid ((∃ s, goF g s0 (l.take (k + 1)) = some s ∧ p = s ∧ There g s ∧ 0 ≤ s.2.2 ∧ s.2.2 ≤ 1000 * ((k + 1 : Nat) : Int) ∧ (nextF g q l[k]).isSome = true) ∨ (goF g s0 (l.take (k + 1)) = none ∧ (nextF g q l[k]).isSome = false)) := by
          show _ ∨ _
          rw [HT.out]
          cases e : nextF g q l[k] with
          | none => right; exact ⟨rfl, rfl⟩
          | some s' => left; exact ⟨s', rfl, hp s' e, (HNs.out s' e).1, (HNs.out s' e).2.1, (HNs.out s' e).2.2, rfl⟩
        clear HT HNs hp
        generalize (nextF g q l[k]).isSome = bn at *
        unfold nextV at hNx
        have hki : (k : Int) < (l.length : Int) := by omega
        have hne : Nonempty (HeldIn wr) := ⟨⟨wr, Below.refl _ _⟩⟩
        have f0 : ∀ s : HeldIn wr, s.w.cell? ⟨w.heap.size, 0, none⟩ = some (.int .i64 g.hor) := fun s => (hB.below s.h).c0
        have f1 : ∀ s : HeldIn wr, s.w.cell? ⟨w.heap.size, 1, none⟩ = some (.slice (some ⟨lb, lof, none⟩) g.lives.length lc) := fun s => (hB.below s.h).c1
        have f2 : ∀ s : HeldIn wr, s.w.cell? ⟨w.heap.size, 2, none⟩ = some (.slice ea g.edges.length ec) := fun s => (hB.below s.h).c2
        have f3 : ∀ s : HeldIn wr, s.w.cell? ⟨w1.heap.size, 0, none⟩ = some (.int .i64 q.1) := fun s => (hS.below s.h).c0
        have f4 : ∀ s : HeldIn wr, s.w.cell? ⟨w1.heap.size, 1, none⟩ = some (.int .i64 q.2.1) := fun s => (hS.below s.h).c1
        have f5 : ∀ s : HeldIn wr, s.w.cell? ⟨w1.heap.size, 2, none⟩ = some (.int .i64 q.2.2) := fun s => (hS.below s.h).c2
        have f6 : ∀ s : HeldIn wr, s.w.cell? ⟨b, off + k * 2, none⟩ = some (.int .i64 l[k].1) := fun s => (s.h.cell (p := ⟨b, off + k * 2, none⟩) hbr).trans c0
        have f7 : ∀ s : HeldIn wr, s.w.cell? ⟨b, off + k * 2 + 1, none⟩ = some (.int .i64 l[k].2) := fun s => (s.h.cell (p := ⟨b, off + k * 2 + 1, none⟩) hbr).trans c1
        have hNw : ∀ s : HeldIn wr, Calls Try.prog 26 #[.agg #[.int .i64 g.hor, .slice (some ⟨lb, lof, none⟩) g.lives.length lc, .slice ea g.edges.length ec], .agg #[.int .i64 q.1, .int .i64 q.2.1, .int .i64 q.2.2], .agg #[.int .i64 l[k].1, .int .i64 l[k].2]] s.w fun r w' => r = .returned (.tuple #[.agg #[.int .i64 p.1, .int .i64 p.2.1, .int .i64 p.2.2], .bool bn]) ∧ Below s.w.heap.size s.w w' := fun s => hNx s.w (HG.out.below (ptg hB.bel s.h))
        have HBx := hideg hB
        have HSx := hideg hS
        clear hB hS g0 g1 g2 t0' t1' t2' c0 c1 hcc hNx hTh
        go_wp2_with fail
        refine wp_region_split wr 8 (Below.refl _ _) (by kernel_rfl) (by kernel_rfl) (by kernel_rfl) (by kernel_rfl) ?_
        simp only [List.take_succ_cons, List.take_zero]
        repeat (go_big_quiet_step ((go_at_call 26; exact held_of (hNw _))))
        refine wpQuiet_nil ?_
        rintro _ ⟨s, rfl⟩
        have hSw : True := trivial
        refine take_lit (i := 8) (v := ?_) rfl (by kernel_rfl) (by kernel_rfl) (by kernel_rfl) (fun _ _ _ h => h) (Or.inl ⟨by rfl, ?hy8⟩) (by assumption) ?_
        case hy8 => (intro w hSw; (try dsimp only at hSw); go_simp; try with_reducible rfl)
        try simp only [Act.put, List.setIfInBounds_toArray, List.set_cons_zero, List.set_cons_succ]
        refine take_lit (i := 9) (v := ?_) rfl (by kernel_rfl) (by kernel_rfl) (by kernel_rfl) (fun _ _ _ h => h) (Or.inl ⟨by rfl, ?hy9⟩) (by assumption) ?_
        case hy9 => (intro w hSw; (try dsimp only at hSw); go_simp; try with_reducible rfl)
        try simp only [Act.put, List.setIfInBounds_toArray, List.set_cons_zero, List.set_cons_succ]
        refine next_lit (i := 10) rfl (by kernel_rfl) (fun K hK => ?_)
        have B6 := HBx.out.below s.h
        have S6 := HSx.out.below s.h
        clear f0 f1 f2 f3 f4 f5 f6 f7 hne hNw HBx HSx
        generalize s.w = w6 at *
        have r0 := S6.c0
        have r1 := S6.c1
        have r2 := S6.c2
        have fz := S6.fz
        have lt := S6.lt
        have HB6 := hideg (B6.set (D := w1.heap.size) (by omega) (by omega) (.int .i64 p.1) (.int .i64 p.2.1) (.int .i64 p.2.2))
        have HS6 := hideg (S6.set p)
        clear B6 S6
        go_simp
        refine hK.out _ _ trivial (fun _ => ?_)
        clear hK K
        try simp only [Act.put, List.setIfInBounds_toArray, List.set_cons_zero, List.set_cons_succ]
        refine next_lit (i := 11) rfl (by kernel_rfl) (fun K hK => ?_)
        go_simp
        refine hK.out _ _ trivial (fun _ => ?_)
        clear hK K
        refine wpAnyH_done (by kernel_rfl) ?_ _
        try simp only [Act.put, List.setIfInBounds_toArray, List.set_cons_zero, List.set_cons_succ]
        go_wp2
        go_roundw
        case rel => exact ⟨k + 1, p, bn, by omega, by go_num, rfl, HNext.out, HS6.out, HB6.out⟩
        case measure => simp [intOf]; omega
      · have hkl : k = l.length := by omega
        have HE : Hid (goAns g (V : Int) t l = (q.1, q.2.1, q.2.2, 0)) := HP0.out q (by have := HSs.out; rwa [hkl, List.take_length] at this)
        have hbF := hB.bel
        have lt := hS.lt
        subst hkl
        clear hB hS
        go_wp2
        go_quiet (fail)
        go_wp2
        (try simp only [Exit.inBlock, Exit.then]); refine bodyPost_ret (results_tmp4j rfl _ _ _) rfl ?_
        exact ⟨by rw [HE.out]; rfl, below_drewN hbF _⟩
    · have HE := hideg (HP5.out (goF_stuck hs))
      have hbF := hB.bel
      clear hs hB hS
      go_wp2
      all_goals (try simp only [Exit.inBlock, Exit.then])
      all_goals refine bodyPost_ret (results_tmp4j rfl _ _ _) rfl ?_
      all_goals exact ⟨by rw [HE.out]; rfl, hbF⟩

end Go.Proofs.Ythgelfnflafoiaf

namespace Go.Proofs.Ythgelfnflafoiaf
open Go.RowKit

/-- two vertices, one edge -/
def gPair : Gr := ⟨10, [(0, 10), (2, 9)], [(0, 1, [(1, 4, 3, 7)])]⟩

theorem pair_at (w : World) (o : Obj) (T1 T2 T3 : TypeId) : GAt ((((w.alloc o).alloc (.cells #[.int .i64 0, .int .i64 10, .int .i64 2, .int .i64 9] T1)).alloc (.cells #[.int .i64 1, .int .i64 4, .int .i64 3, .int .i64 7] T2)).alloc (.cells #[.int .i64 0, .int .i64 1, .slice (some ⟨w.heap.size + 1 + 1, 0, none⟩) 1 1] T3)) (some ⟨w.heap.size + 1, 0, none⟩) (some ⟨w.heap.size + 1 + 1 + 1, 0, none⟩) gPair := by
  refine ⟨.inr ⟨_, _, rfl, by simp <;> omega, fun j hj => ?_⟩, .inr ⟨_, _, rfl, by simp, fun j hj => ?_⟩, by simp [gPair], by simp [gPair]⟩
  · have hj' : j = 0 ∨ j = 1 := by simp [gPair] at hj; omega
    rcases hj' with rfl | rfl
    · exact ⟨by rw [(gal _ _).cell (by simp <;> omega), (gal _ _).cell (by simp <;> omega)]; exact new_cell (by simp) rfl, by rw [(gal _ _).cell (by simp <;> omega), (gal _ _).cell (by simp <;> omega)]; exact new_cell (by simp) rfl⟩
    · exact ⟨by rw [(gal _ _).cell (by simp <;> omega), (gal _ _).cell (by simp <;> omega)]; exact new_cell (by simp) rfl, by rw [(gal _ _).cell (by simp <;> omega), (gal _ _).cell (by simp <;> omega)]; exact new_cell (by simp) rfl⟩
  · have hj' : j = 0 := by simp [gPair] at hj; omega
    subst hj'
    refine ⟨new_cell (by simp) rfl, new_cell (by simp) rfl, some ⟨w.heap.size + 1 + 1, 0, none⟩, 1, new_cell (by simp) rfl, .inr ⟨_, _, rfl, by simp <;> omega, fun k hk => ?_⟩, by simp [gPair], by omega⟩
    have hk' : k = 0 := by simp [gPair] at hk; omega
    subst hk'
    exact ⟨by rw [(gal _ _).cell (by simp <;> omega)]; exact new_cell (by simp) rfl, by rw [(gal _ _).cell (by simp <;> omega)]; exact new_cell (by simp) rfl, by rw [(gal _ _).cell (by simp <;> omega)]; exact new_cell (by simp) rfl, by rw [(gal _ _).cell (by simp <;> omega)]; exact new_cell (by simp) rfl⟩

set_option maxRecDepth 100000 in
set_option maxHeartbeats 2000000 in
theorem pair_any (w : World) : Calls Try.prog 20 #[] w fun r w' => ∃ la ea, r = .returned (.agg #[.int .i64 gPair.hor, .slice la gPair.lives.length 2, .slice ea gPair.edges.length 1]) ∧ GAt w' la ea gPair ∧ Below w.heap.size w w' := by
  go_enter Try.func20, Try.ntmps20
  go_wp2
  have hG := pair_at w (.cells #[.int .i64 10, .slice (some ⟨w.heap.size + 1, 0, none⟩) 2 2, .slice (some ⟨w.heap.size + 1 + 1 + 1, 0, none⟩) 1 1] 25) 55 70 73
  have q : ∀ j x, #[Value.int .i64 10, .slice (some ⟨w.heap.size + 1, 0, none⟩) 2 2, .slice (some ⟨w.heap.size + 1 + 1 + 1, 0, none⟩) 1 1][j]? = some x → ((((w.alloc (.cells #[.int .i64 10, .slice (some ⟨w.heap.size + 1, 0, none⟩) 2 2, .slice (some ⟨w.heap.size + 1 + 1 + 1, 0, none⟩) 1 1] 25)).alloc (.cells #[.int .i64 0, .int .i64 10, .int .i64 2, .int .i64 9] 55)).alloc (.cells #[.int .i64 1, .int .i64 4, .int .i64 3, .int .i64 7] 70)).alloc (.cells #[.int .i64 0, .int .i64 1, .slice (some ⟨w.heap.size + 1 + 1, 0, none⟩) 1 1] 73)).cell? ⟨w.heap.size, j, none⟩ = some x := by
    intro j x hx
    rw [(gal _ _).cell (by simp <;> omega), (gal _ _).cell (by simp <;> omega), (gal _ _).cell (by simp <;> omega)]
    exact new_cell rfl hx
  have q0 := q 0 _ rfl
  have q1 := q 1 _ rfl
  have q2 := q 2 _ rfl
  refine bodyPost_ret (v := .agg #[.int .i64 gPair.hor, .slice (some ⟨w.heap.size + 1, 0, none⟩) gPair.lives.length 2, .slice (some ⟨w.heap.size + 1 + 1 + 1, 0, none⟩) gPair.edges.length 1]) (by simp [results, Try.results20, go_sem, q0, q1, q2, gPair]) rfl ⟨_, _, rfl, hG, ptg (ptg (ptg (gal _ _) (gal _ _)) (gal _ _)) (gal _ _)⟩

theorem pair_yes : goAns gPair 0 0 [(0, 3)] = (1, 6, 7, 0) := by decide
theorem pair_no : goAns gPair 0 0 [(0, 4)] = (0, 0, 0, 5) := by decide

theorem one_hop (w : World) (T : TypeId) (a b : Int) : IvAt (w.alloc (.cells #[.int .i64 a, .int .i64 b] T)) (some ⟨w.heap.size, 0, none⟩) [(a, b)] := by
  refine .inr ⟨_, _, rfl, by simp, fun j hj => ?_⟩
  have hj' : j = 0 := by simp at hj; omega
  subst hj'
  exact ⟨new_cell rfl rfl, new_cell rfl rfl⟩

set_option maxRecDepth 100000 in
set_option maxHeartbeats 2000000 in
theorem goes_any (w : World) : Calls Try.prog 9 #[] w fun r w' => r = .returned (.bool true) ∧ Below w.heap.size w w' := by
  have h1 := fun la ea W (hG : GAt W la ea gPair) => jGo_any gPair la ea 2 1 0 0 (some ⟨W.heap.size, 0, none⟩) 1 [(0, 3)] (W.alloc (.cells #[.int .i64 0, .int .i64 3] 37)) (hG.below (gal _ _)) (one_hop _ _ _ _) (by simp)
  have h2 := fun la ea W (hG : GAt W la ea gPair) => jGo_any gPair la ea 2 1 0 0 (some ⟨W.heap.size, 0, none⟩) 1 [(0, 4)] (W.alloc (.cells #[.int .i64 0, .int .i64 4] 37)) (hG.below (gal _ _)) (one_hop _ _ _ _) (by simp)
  rw [pair_yes] at h1
  rw [pair_no] at h2
  unfold goW at h1 h2
  simp only [List.length_cons, List.length_nil, Nat.zero_add] at h1 h2
  have hp := fun W => pair_any W
  have HS : Hid (gPair.hor = 10 ∧ gPair.lives.length = 2 ∧ gPair.edges.length = 1) := ⟨rfl, rfl, rfl⟩
  generalize gPair = gp at *
  go_enter Try.func9, Try.ntmps9
  go_wp2_with fail
  refine (hp _).mono ?_
  rintro r w1 ⟨la, ea, rfl, hG1, hb1⟩
  go_wp2_with fail
  refine (h1 la ea _ hG1).mono ?_
  rintro r w2 ⟨rfl, hb2⟩
  have hbb := ptg hb1 (ptg (gal _ _) hb2)
  clear hb1 hb2 hG1
  go_wp2_with fail
  refine (hp _).mono ?_
  rintro r w3 ⟨la3, ea3, rfl, hG3, hb3⟩
  go_wp2_with fail
  refine (h2 la3 ea3 _ hG3).mono ?_
  rintro r w4 ⟨rfl, hb4⟩
  have hbF := ptg hbb (ptg hb3 (ptg (gal _ _) hb4))
  clear hb3 hb4 hbb hG3 h1 h2 hp
  go_wp2
  go_ret
  exact ⟨rfl, hbF⟩

end Go.Proofs.Ythgelfnflafoiaf
