/-
  Several texts in one.
-/
import Derived.Test.YtkgbgkcbflicmabGreatPk10
namespace Go.Proofs.YtkgbgkcbflicmabGreat.Q
open Sim (Seq.prog)
open Go
def lastX (ops : Array Oper) (st : Oper) (x : Nat) : Bool := st.guard.isNone && (st.after.all (fun e => !Region.binds .any e || decide (e.on < ops.size)) && (List.range ops.size).all fun j =>
 j == x || (st.after.any (fun e => Region.binds .any e && e.on == j) || (List.range ops.size).any fun k => decide (j < k) && (k != x && match ops[k]? with
   | some o => o.after.any fun e => Region.binds .any e && e.on == j
   | none => false)))
def isExt (o : Oper) : Bool := match o.op with
 | .extract _ _ => true
 | _ => false
theorem ext_runs {P : Program} {o : Oper} (h : isExt o = true) (a : Act) : (∃ v, ∀ w, (execOp a.eval o).run P w = .ok (.value v) w) \/ (∀ w, ∃ s, (execOp a.eval o).run P w = .halt (.stuck s) w) := by
 unfold isExt at h
 split at h
 · rename_i t ix hop
   simp only [execOp, hop]
   cases hv : a.eval t <;> simp [Instr.extract]
   rename_i vs
   cases hx : vs[ix]? with
   | some u => exact .inl ⟨u, fun w => by simp⟩
   | none => exact .inr fun w => by simp
 · cases h
theorem ext_asks {P : Program} {o : Oper} (h : isExt o = true) (a : Act) (w : World) : ¬ o.asks P a w := by
 unfold isExt at h
 split at h
 · rename_i t ix hop
   intro hh
   have h1 := hh.1
   have h2 : ((execOp a.eval o).runT P w #[]).2 = #[] := by
     simp only [execOp, hop]
     cases hv : a.eval t
     case tuple vs =>
       cases hx : vs[ix]? with
       | none => simp only [Instr.extract, hx]; rfl
       | some u => simp only [Instr.extract, hx]; rfl
     all_goals rfl
   rw [h2] at h1
   simp at h1
 · cases h
theorem ext_wp {P : Program} {o : Oper} (h : isExt o = true) {a : Act} {w : World} {K : Act -> World -> Prop} {Q : Exit -> Act -> World -> Prop} (hw : o.wp P a w K Q) : ∃ v, (∀ w, (execOp a.eval o).run P w = .ok (.value v) w) /\ K (a.put o.dst v) w := by
 rcases ext_runs (P := P) h a with ⟨v, hv⟩ | hv
 · refine ⟨v, hv, ?_⟩
   unfold Oper.wp at hw
   rw [hv w] at hw
   exact hw
 · obtain ⟨s, hs⟩ := hv w
   unfold Oper.wp at hw
   rw [hs] at hw
   exact hw.elim
theorem last_waitsX {ops : Array Oper} {st : Oper} {x : Nat} {listed : Array Bool} (hl : lastX ops st x = true) (hc : Closed ops listed) (hsz : listed.size = ops.size) (hs : ∀ e ∈ st.after, Region.binds .any e = true -> e.on < ops.size -> listed.getD e.on false = true) : ∀ d j, j + d = ops.size -> j < ops.size -> j ≠ x -> listed.getD j false = true := by
 simp only [lastX, Bool.and_eq_true] at hl
 intro d
 induction d using Nat.strongRecOn with
 | _ d ih =>
   intro j hd hj hjx
   have h1 := List.all_eq_true.1 hl.2.2 j (List.mem_range.2 hj)
   rw [Bool.or_eq_true, Bool.or_eq_true] at h1
   rcases h1 with h1 | h1 | h1
   · exact absurd (by simpa using h1) hjx
   · obtain ⟨e, he, h2⟩ := arr_any h1
     rw [Bool.and_eq_true, beq_iff_eq] at h2
     rw [<- h2.2]
     exact hs e he h2.1 (by rw [h2.2]; exact hj)
   · obtain ⟨k, hk, h2⟩ := List.any_eq_true.1 h1
     rw [List.mem_range] at hk
     rw [Bool.and_eq_true, Bool.and_eq_true, decide_eq_true_eq] at h2
     have ho : ops[k]? = some ops[k] := Array.getElem?_eq_getElem hk
     simp only [ho] at h2
     obtain ⟨e, he, h3⟩ := arr_any h2.2.2
     rw [Bool.and_eq_true, beq_iff_eq] at h3
     have hkl := ih (d - (k - j)) (by omega) k (by omega) hk (by simpa using h2.2.1)
     rw [<- h3.2]
     refine hc k _ ho ?_ e he h3.1
     have hk' : k < listed.size := by omega
     simpa [hk'] using hkl
theorem ready_pushX {ops : Array Oper} {st : Oper} {x : Nat} {listed : Array Bool} (hf : fwdB ops = true) (hl : lastX ops st x = true) (hc : Closed ops listed) (hsz : listed.size = ops.size) {z : Nat} (hz : z < ops.size) (hzx : z ≠ x) (hzu : listed.getD z false = false) (i : Nat) :
   i ∈ Region.ready .any (ops.push st) (listed.push false) ↔ i ∈ Region.ready .any ops listed := by
 rw [mem_ready, mem_ready]
 rcases Nat.lt_trichotomy i ops.size with hi | hi | hi
 · rw [getD_push true (by omega), getElem_pushO hi]
   refine and_congr_right fun _ => exists_congr fun o => and_congr_right fun ho => forall_congr' fun e => forall_congr' fun he => forall_congr' fun hb => ?_
   have := (fwd_spec hf ho).2 e he hb
   rw [getD_push false (by omega)]
 · subst hi
   constructor
   · rintro ⟨_, o, ho, hall⟩
     have ho' : o = st := by
       rw [Array.getElem?_push, if_pos rfl] at ho
       exact (Option.some.inj ho).symm
     subst ho'
     exfalso
     have hall2 := last_waitsX hl hc hsz (fun e he hb hlt => by have := hall e he hb; rwa [getD_push false (by omega)] at this)
     have := hall2 (ops.size - z) z (by omega) hz hzx
     rw [hzu] at this
     cases this
   · rintro ⟨_, o, ho, _⟩
     rw [Array.getElem?_eq_none (Nat.le_refl _)] at ho
     cases ho
 · constructor
   · rintro ⟨_, o, ho, _⟩
     rw [Array.getElem?_eq_none (by simp; omega)] at ho
     cases ho
   · rintro ⟨_, o, ho, _⟩
     rw [Array.getElem?_eq_none (by omega)] at ho
     cases ho
theorem ready_lastX {ops : Array Oper} {st : Oper} {x : Nat} {listed : Array Bool} (hl : lastX ops st x = true) (hsz : listed.size = ops.size) (hall : ∀ j, j < ops.size -> listed.getD j false = true) (i : Nat) :
   i ∈ Region.ready .any (ops.push st) (listed.push false) ↔ i = ops.size := by
 rw [mem_ready]
 simp only [lastX, Bool.and_eq_true] at hl
 rcases Nat.lt_trichotomy i ops.size with hi | hi | hi
 · have h1 := hall i hi
   have hi' : i < listed.size := by omega
   constructor
   · rintro ⟨h0, _⟩
     rw [getD_push true hi'] at h0
     simp [hi'] at h0 h1
     rw [h0] at h1
     cases h1
   · intro h; omega
 · subst hi
   refine ⟨fun _ => rfl, fun _ => ⟨by simp [<- hsz], st, by rw [Array.getElem?_push, if_pos rfl], fun e he hb => ?_⟩⟩
   have h2 := Array.all_eq_true_iff_forall_mem.1 hl.2.1 e he
   rw [hb] at h2
   have h3 : e.on < ops.size := by simpa using h2
   rw [getD_push false (by omega)]
   exact hall e.on h3
 · constructor
   · rintro ⟨_, o, ho, _⟩
     rw [Array.getElem?_eq_none (by simp; omega)] at ho
     cases ho
   · intro h; omega
theorem push_set {listed : Array Bool} {i : Nat} (hi : i < listed.size) : (listed.push false).setIfInBounds i true = (listed.setIfInBounds i true).push false := by
 apply Array.ext_getElem?
 intro k
 rw [Array.getElem?_setIfInBounds, Array.getElem?_push, Array.getElem?_push, Array.getElem?_setIfInBounds]
 by_cases h3 : i = k
 · subst h3
   simp [hi, Nat.ne_of_lt hi]
   omega
 · simp [h3]
theorem pop_soundX {P : Program} {ops : Array Oper} {st ox : Oper} {x : Nat} {Q : Exit -> Act -> World -> Prop} (hf : fwdB ops = true) (hl : lastX ops st x = true) (hx : ops[x]? = some ox) (hext : isExt ox = true) (hap : ox.apart (ops.push st) st = true) (hsel : Region.noSelect (ops.push st) = true) (hQ : ∀ c a w, ¬ Q (.panic c) a w) : ∀ (fuel : Nat) (listed : Array Bool) (a : Act) (w : World), listed.size = ops.size -> Closed ops listed ->
   wpAny P .any ops (BackQ P st Q) fuel listed a w -> wpAny P .any (ops.push st) Q (fuel + 1) (listed.push false) a w := by
 have hxlt : x < ops.size := (Array.getElem?_eq_some_iff.1 hx).1
 have hgd : st.guard = none := by
   simp only [lastX, Bool.and_eq_true, Option.isNone_iff_eq_none] at hl
   exact hl.1
 have fin : ∀ (fuel : Nat) (listed : Array Bool) (a : Act) (w : World), listed.size = ops.size -> Region.ready .any ops listed = [] -> BackQ P st Q .normal a w -> wpAny P .any (ops.push st) Q (fuel + 1) (listed.push false) a w := by
   intro fuel listed a w hsz hr hq
   have hall := all_listed hf hsz hr
   refine ⟨fun h => ?_, fun i hi => ?_⟩
   · have := (ready_lastX (st := st) hl hsz hall ops.size).2 rfl
     rw [h] at this
     cases this
   · rw [ready_lastX hl hsz hall] at hi
     subst hi
     have ho : (ops.push st)[ops.size]? = some st := by rw [Array.getElem?_push, if_pos rfl]
     unfold wpOp
     simp only [ho, Region.wanted, hgd, if_true]
     refine .inl (Oper.wp_mono (fun a' w' h => ?_) hq)
     have hd := ready_done (st := st) hsz hall
     cases fuel with
     | zero => exact ⟨hd, h⟩
     | succ n => exact ⟨fun _ => h, by rw [hd]; simp⟩
 intro fuel
 induction fuel with
 | zero =>
   intro listed a w hsz hc h
   exact fin 0 listed a w hsz h.1 h.2
 | succ fuel ih =>
   intro listed a w hsz hc h
   by_cases hr : Region.ready .any ops listed = []
   · exact fin (fuel + 1) listed a w hsz hr (h.1 hr)
   have hcl : ∀ {i : Nat} {o : Oper}, ops[i]? = some o -> (∀ e ∈ o.after, Region.binds .any e = true -> listed.getD e.on false = true) -> Closed ops (listed.setIfInBounds i true) := by
     intro i o ho hdep j oj hoj hlj e he hb
     by_cases hij : i = j
     · subst hij
       rw [ho] at hoj
       cases hoj
       exact getD_set_true (hdep e he hb)
     · rw [getD_set_ne true hij] at hlj
       exact getD_set_true (hc j oj hoj hlj e he hb)
   by_cases hone : ∃ z, z < ops.size /\ z ≠ x /\ listed.getD z false = false
   · obtain ⟨z, hz, hzx, hzu⟩ := hone
     have RP := ready_pushX hf hl hc hsz hz hzx hzu
     refine ⟨fun h0 => ?_, fun i hi => ?_⟩
     · exfalso
       apply hr
       apply List.eq_nil_iff_forall_not_mem.2
       intro j hj
       have := (RP j).2 hj
       rw [h0] at this
       cases this
     · have hi' := (RP i).1 hi
       have h1 := h.2 i hi'
       obtain ⟨hun, o, ho, hdep⟩ := mem_ready.1 hi'
       have hilt : i < ops.size := (Array.getElem?_eq_some_iff.1 ho).1
       have ho' : (ops.push st)[i]? = some o := by rw [getElem_pushO hilt]; exact ho
       have hg := (fwd_spec hf ho).1
       unfold wpOp at h1 ⊢
       simp only [ho, ho', Region.wanted, hg, if_true] at h1 ⊢
       rw [push_set (by omega)]
       refine h1.imp (fun hh => wp_back (fun a' w' hk => ih _ a' w' (by simpa using hsz) (hcl ho hdep) hk) hh) (fun hh => ⟨hh.1, hh.2⟩)
   · have hall : ∀ j, j < ops.size -> j ≠ x -> listed.getD j false = true := by
       intro j hj hjx
       cases e : listed.getD j false with
       | true => rfl
       | false => exact absurd ⟨j, hj, hjx, e⟩ hone
     have hxu : listed.getD x true = false := by
       cases e : listed.getD x true with
       | false => rfl
       | true =>
         exfalso
         apply hr
         apply List.eq_nil_iff_forall_not_mem.2
         intro j hj
         obtain ⟨h0, o, hoj, _⟩ := mem_ready.1 hj
         have hjlt : j < ops.size := (Array.getElem?_eq_some_iff.1 hoj).1
         have hj' : j < listed.size := by omega
         by_cases hjx : j = x
         · subst hjx; rw [h0] at e; cases e
         · have h1 := hall j hjlt hjx
           simp [hj'] at h0 h1
           rw [h0] at h1
           cases h1
     have hg := (fwd_spec hf hx).1
     have hdepx : ∀ e ∈ ox.after, Region.binds .any e = true -> listed.getD e.on false = true := fun e he hb => by
       have := (fwd_spec hf hx).2 e he hb
       exact hall e.on (by omega) (by omega)
     have hrx : x ∈ Region.ready .any ops listed := mem_ready.2 ⟨hxu, ox, hx, hdepx⟩
     have h1 := h.2 x hrx
     unfold wpOp at h1
     simp only [hx, Region.wanted, hg, if_true] at h1
     have h2 : ox.wp P a w (wpAny P .any ops (BackQ P st Q) fuel (listed.setIfInBounds x true)) (BackQ P st Q) := by
       rcases h1 with h1 | h1
       · exact h1
       · exact absurd h1.1 (ext_asks hext a w)
     obtain ⟨v, hv, hk⟩ := ext_wp hext h2
     have h3 := ih _ _ _ (by simpa using hsz) (hcl hx hdepx) hk
     rw [<- push_set (by omega)] at h3
     refine wpAny_first (i := x) (oi := ox) (v := v) (by rw [getElem_pushO hxlt]; exact hx) (Region.noSelect_spec hsel) (fun c a w hq => absurd hq (hQ _ _ _)) (fuel + 1) (listed.push false) a w ?_ ?_ (.inl ⟨by simp [Region.wanted, hg], hv⟩) h3
     · intro j oj hoj hjx hju _
       by_cases hj : j < ops.size
       · have h4 := hall j hj hjx
         rw [getD_push true (by omega)] at hju
         have hj' : j < listed.size := by omega
         simp [hj'] at hju h4
         rw [hju] at h4
         cases h4
       · have hjlt : j < ops.size + 1 := by simpa using (Array.getElem?_eq_some_iff.1 hoj).1
         have : j = ops.size := by omega
         subst this
         rw [Array.getElem?_push, if_pos rfl] at hoj
         cases hoj
         exact hap
     · rw [mem_ready]
       refine ⟨by rw [getD_push true (by omega)]; exact hxu, ox, by rw [getElem_pushO hxlt]; exact hx, fun e he hb => ?_⟩
       have := (fwd_spec hf hx).2 e he hb
       rw [getD_push false (by omega)]
       exact hdepx e he hb
theorem wp_region_backX {P : Program} (x : Nat) {id : Nat} {full : Array Oper} {Q : Exit -> Act -> World -> Prop} {S : World -> Prop} {a : Act} {w : World} (hm : P.follows .mixedOrders = true) (hn : 0 < full.size) (hf : fwdB full.pop = true) (hl : lastX full.pop full.back! x = true) (hx : (match full.pop[x]? with | some o => isExt o && o.apart full full.back! | none => false) = true) (hsel : Region.noSelect full = true) (hS : S w.drew)
   (h : S w.drew -> wpAnyH P .any full.pop (BackQ P full.back! (NoPanic Q)) S full.pop.size (Array.replicate full.pop.size false) a w.drew) : (Code.region id full true).wp P Q a w := by
 refine wp_region_noPanic ?_
 have e : full = full.pop.push full.back! := (Array.eq_push_pop_back!_of_size_ne_zero (by omega))
 generalize full.pop = ops at *
 generalize full.back! = st at *
 subst e
 refine wp_region_any hm ?_
 have h1 := wpAny_of_held _ _ _ _ (h hS)
 cases hxo : ops[x]? with
 | none => rw [hxo] at hx; cases hx
 | some ox =>
   rw [hxo] at hx
   simp only [Bool.and_eq_true] at hx
   have h2 := pop_soundX hf hl hxo hx.1 hx.2 hsel (fun c a w h => h) ops.size _ a w.drew (by simp) (by
     intro j o hj hlj
     have : j < ops.size := (Array.getElem?_eq_some_iff.1 hj).1
     simp [this] at hlj) h1
   have e1 : (Array.replicate ops.size false).push false = Array.replicate (ops.push st).size false := by
     apply Array.ext
     · simp
     · intro k h1 h2
       simp [Array.getElem_push]
   rw [e1] at h2
   have e2 : (ops.push st).size = ops.size + 1 := by simp
   rw [e2] at h2 ⊢
   exact h2
open Go.RowKit
structure FarB (go : Nat) (w w' : World) : Prop where
 size : w.heap.size <= w'.heap.size
 block : ∀ b, b < w.heap.size -> b ≠ go -> w'.heap[b]? = w.heap[b]?
theorem FarB.refl (go : Nat) (w : World) : FarB go w w := ⟨Nat.le_refl _, fun _ _ _ => rfl⟩
theorem FarB.below {go : Nat} {w w' w'' : World} (h : FarB go w w') (hb : Below w'.heap.size w' w'') : FarB go w w'' := ⟨Nat.le_trans h.size hb.size, fun b h1 h2 => (hb.block b (Nat.lt_of_lt_of_le h1 h.size)).trans (h.block b h1 h2)⟩
theorem FarB.set {go : Nat} {w w' : World} (h : FarB go w w') (j : Nat) (u : Value) : FarB go w (w'.setCell ⟨go, j, none⟩ u) := ⟨by simpa [World.setCell] using h.size, fun b h1 h2 => by rw [Below.heap_setCell _ _ _ _ (fun e => h2 e)]; exact h.block b h1 h2⟩
theorem AM.setFar {W : World} {base go n : Nat} {val : Nat -> Value} {pcs : Nat -> List P3} (A : AM W base go n val pcs) {g j : Nat} {u : Value} (h : g < base) : AM (W.setCell ⟨g, j, none⟩ u) base go n val pcs := by
 refine ⟨ownsRow_setBox A.own (fun e => ?_), fun v hv => ownsRow_setBox (A.inn v hv) (fun e => ?_), A.ap⟩
 · have := (A.own.lt _ e).1; omega
 · have := ((A.inn v hv).lt _ e).1; omega
set_option maxRecDepth 100000 in
set_option maxHeartbeats 4000000 in
theorem bsTake_any (base go n cap base2 go2 cap2 : Nat) (val val2 : Nat -> Value) (T N : Nat -> List P3) (B : Int) (hB : B <= 1000000) (hn : n <= 12) (w : World) (hT : AM w base go n val T) (hN : AM w base2 go2 n val2 N) (hg : go < base2) (hTs : ∀ v, v < n -> Sm B (T v)) (hNs : ∀ v, v < n -> Sm B (N v)) :
   Calls Seq.prog 24 #[.slice (some ⟨go, 0, none⟩) n cap, .slice (some ⟨go2, 0, none⟩) n cap2] w fun r w' => r = .returned (.tuple #[]) /\ ∃ val' T', AM w' base go n val' T' /\ (∀ v, v < n -> Sm B (T' v) /\ ∀ t, tel (T' v) t = mrg 1 (tel (T v) t) (tel (N v) t)) /\ AM w' base2 go2 n val2 N /\ Below base w w' /\ FarB go w w' := by
 have HT0 := hideg hT
 have HN0 := hideg hN
 have HTs := hideg hTs
 have HNs := hideg hNs
 have hbg : Hid (base <= go) := (hT.own.lt go rfl).1
 clear hT hN hTs hNs
 go_enter Seq.func24, Tryz.ntmps24
 go_wp2
 go_loopw [7] (fun i wr => ∃ (k : Nat) (va : Nat -> Value) (T' : Nat -> List P3), k <= n /\ i = .int .i64 k /\ AM wr base go n va T' /\ (∀ v, v < n -> Sm B (T' v) /\ ∀ t, tel (T' v) t = if v < k then mrg 1 (tel (T v) t) (tel (N v) t) else tel (T v) t) /\ AM wr base2 go2 n val2 N /\ Below base w wr /\ FarB go w wr) (fun i _ => n - (intOf i).toNat)
 case atStart => exact ⟨0, val, T, Nat.zero_le _, rfl, HT0.out, fun v hv => ⟨HTs.out v hv, fun t => by simp⟩, HN0.out, Below.refl _ _, FarB.refl _ _⟩
 case round =>
   clear HT0 HN0
   obtain ⟨k, va, T', hk, rfl, hA, hI, hA2, hb, hF⟩ := hrel
   have HA := hideg hA
   have HA2 := hideg hA2
   have HI := hideg hI
   have HB := hideg hb
   have HF := hideg hF
   clear hI hF
   by_cases hlt : k < n
   · have hki : (k : Int) < (n : Int) := by omega
     obtain ⟨a1, c1, ev, p1⟩ := pcAt_of_owns (hA.inn k hlt)
     obtain ⟨a2, c2, ev2, p2⟩ := pcAt_of_owns (hA2.inn k hlt)
     have x1 := hA.out hlt
     have x2 := hA2.out hlt
     rw [ev] at x1
     rw [ev2] at x2
     have hbd : Below wr.heap.size wr wr.drew := (Below.refl _ _).drew
     have hM : Calls Seq.prog 40 #[.slice a1 (T' k).length c1, .slice a2 (N k).length c2, .int .i64 1] wr.drew fun e w' => ∃ v r, e = .returned (.tuple #[v, .int .i64 0]) /\ Sm B r /\ (∀ t, tel r t = mrg 1 (tel (T' k) t) (tel (N k) t)) /\ w'.ownsRow wr.heap.size 35 3 v r.length (enc3 r) /\ Below wr.heap.size wr w' := by
       refine (Merge_any 1 a1 a2 c1 c2 (T' k) (N k) wr.drew (p1.below hbd) (p2.below hbd)).mono ?_
       rintro e w' ⟨m, r, hO, v, rfl, ho, hb'⟩
       obtain ⟨rfl, h2, h3⟩ := sm_merge (HI.out k hlt).1 (HNs.out k hlt) hB hO
       exact ⟨v, r, rfl, h2, h3, ho, hbd.trans hb'⟩
     have HM := hideg hM
     have l1 := (hA.own.lt go rfl).2
     have l2 := (hA2.own.lt go2 rfl).2
     have HAfter : Hid (∀ w3, Below wr.heap.size wr w3 -> (w3.cell? ⟨go, k, none⟩ = some (.slice a1 (T' k).length c1) /\ w3.cell? ⟨go2, k, none⟩ = some (.slice a2 (N k).length c2))) := fun w3 h3 =>
       ⟨(h3.cell (p := ⟨go, k, none⟩) l1).trans x1, (h3.cell (p := ⟨go2, k, none⟩) l2).trans x2⟩
     have SS := HAfter.out _ hbd
     clear hA hA2 hM hb x1 x2 p1 p2 ev ev2 hbd
     go_wp2_with fail
     refine wp_region_backX 13 (S := fun w' => w'.cell? ⟨go, k, none⟩ = some (.slice a1 (T' k).length c1) /\ w'.cell? ⟨go2, k, none⟩ = some (.slice a2 (N k).length c2)) (by kernel_rfl) (by simp) (by kernel_rfl) (by kernel_rfl) (by kernel_rfl) (by kernel_rfl) SS (fun hHeld => ?_)
     simp only [List.pop_toArray, List.dropLast, List.back!_toArray, List.getLast!]
     refine take_lit (i := 0) (v := ?_) rfl (by kernel_rfl) (by kernel_rfl) (by kernel_rfl) (fun _ _ _ h => h) (Or.inl ⟨by rfl, ?hy0⟩) (by assumption) ?_
     case hy0 => (intro w hSw; (try dsimp only at hSw); go_simp; try with_reducible rfl)
     try simp only [Act.put, List.setIfInBounds_toArray, List.set_cons_zero, List.set_cons_succ]
     refine take_lit (i := 1) (v := ?_) rfl (by kernel_rfl) (by kernel_rfl) (by kernel_rfl) (fun _ _ _ h => h) (Or.inl ⟨by rfl, ?hy1⟩) (by assumption) ?_
     case hy1 => (intro w hSw; (try dsimp only at hSw); go_simp; try with_reducible rfl)
     try simp only [Act.put, List.setIfInBounds_toArray, List.set_cons_zero, List.set_cons_succ]
     refine take_lit (i := 2) (v := ?_) rfl (by kernel_rfl) (by kernel_rfl) (by kernel_rfl) (fun _ _ _ h => h) (Or.inl ⟨by rfl, ?hy2⟩) (by assumption) ?_
     case hy2 => (intro w hSw; (try dsimp only at hSw); go_simp; try with_reducible rfl)
     try simp only [Act.put, List.setIfInBounds_toArray, List.set_cons_zero, List.set_cons_succ]
     refine take_lit (i := 3) (v := ?_) rfl (by kernel_rfl) (by kernel_rfl) (by kernel_rfl) (fun _ _ _ h => h) (Or.inl ⟨by rfl, ?hy3⟩) (by assumption) ?_
     case hy3 => (intro w hSw; (try dsimp only at hSw); go_simp; try with_reducible rfl)
     try simp only [Act.put, List.setIfInBounds_toArray, List.set_cons_zero, List.set_cons_succ]
     refine take_lit (i := 4) (v := ?_) rfl (by kernel_rfl) (by kernel_rfl) (by kernel_rfl) (fun _ _ _ h => h) (Or.inl ⟨by rfl, ?hy4⟩) (by assumption) ?_
     case hy4 => (intro w hSw; (try dsimp only at hSw); go_simp; try with_reducible rfl)
     try simp only [Act.put, List.setIfInBounds_toArray, List.set_cons_zero, List.set_cons_succ]
     refine take_lit (i := 5) (v := ?_) rfl (by kernel_rfl) (by kernel_rfl) (by kernel_rfl) (fun _ _ _ h => h) (Or.inl ⟨by rfl, ?hy5⟩) (by assumption) ?_
     case hy5 => (intro w hSw; (try dsimp only at hSw); go_simp; try with_reducible rfl)
     try simp only [Act.put, List.setIfInBounds_toArray, List.set_cons_zero, List.set_cons_succ]
     refine take_lit (i := 6) (v := ?_) rfl (by kernel_rfl) (by kernel_rfl) (by kernel_rfl) (fun _ _ _ h => h) (Or.inl ⟨by rfl, ?hy6⟩) (by assumption) ?_
     case hy6 => (intro w hSw; (try dsimp only at hSw); go_simp; try with_reducible rfl)
     try simp only [Act.put, List.setIfInBounds_toArray, List.set_cons_zero, List.set_cons_succ]
     refine take_lit (i := 7) (v := ?_) rfl (by kernel_rfl) (by kernel_rfl) (by kernel_rfl) (fun _ _ _ h => h) (Or.inl ⟨by rfl, ?hy7⟩) (by assumption) ?_
     case hy7 => (intro w hSw; (try dsimp only at hSw); go_simp; try with_reducible rfl)
     try simp only [Act.put, List.setIfInBounds_toArray, List.set_cons_zero, List.set_cons_succ]
     refine take_lit (i := 8) (v := ?_) rfl (by kernel_rfl) (by kernel_rfl) (by kernel_rfl) (fun _ _ _ h => h) (Or.inl ⟨by rfl, ?hy8⟩) (by assumption) ?_
     case hy8 => (intro w hSw; (try dsimp only at hSw); go_simp; try with_reducible rfl)
     try simp only [Act.put, List.setIfInBounds_toArray, List.set_cons_zero, List.set_cons_succ]
     refine take_lit (i := 9) (v := ?_) rfl (by kernel_rfl) (by kernel_rfl) (by kernel_rfl) (fun _ _ _ h => h) (Or.inl ⟨by rfl, ?hy9⟩) (by assumption) ?_
     case hy9 => (intro w hSw; (try dsimp only at hSw); go_simp; try with_reducible rfl)
     try simp only [Act.put, List.setIfInBounds_toArray, List.set_cons_zero, List.set_cons_succ]
     refine next_lit (i := 10) rfl (by kernel_rfl) (fun K hK => ?_)
     go_simp
     refine HM.out.mono ?_
     rintro e w3 ⟨v3, r3, rfl, hs3, ht3, ho3, hb3⟩
     obtain ⟨a3, c3, rfl, _⟩ := pcAt_of_owns ho3
     have KK := HAfter.out w3 hb3
     refine hK.out _ _ KK (fun hHeld => ?_)
     clear hK K hHeld
     try simp only [Act.put, List.setIfInBounds_toArray, List.set_cons_zero, List.set_cons_succ]
     refine take_lit (i := 11) (v := ?_) rfl (by kernel_rfl) (by kernel_rfl) (by kernel_rfl) (fun _ _ _ h => h) (Or.inl ⟨by rfl, ?hy11⟩) (by assumption) ?_
     case hy11 => (intro w hSw; (try dsimp only at hSw); go_simp; try with_reducible rfl)
     try simp only [Act.put, List.setIfInBounds_toArray, List.set_cons_zero, List.set_cons_succ]
     refine take_lit (i := 12) (v := ?_) rfl (by kernel_rfl) (by kernel_rfl) (by kernel_rfl) (fun _ _ _ h => h) (Or.inl ⟨by rfl, ?hy12⟩) (by assumption) ?_
     case hy12 => (intro w hSw; (try dsimp only at hSw); go_simp; try with_reducible rfl)
     try simp only [Act.put, List.setIfInBounds_toArray, List.set_cons_zero, List.set_cons_succ]
     refine take_lit (i := 13) (v := ?_) rfl (by kernel_rfl) (by kernel_rfl) (by kernel_rfl) (fun _ _ _ h => h) (Or.inl ⟨by rfl, ?hy13⟩) (by assumption) ?_
     case hy13 => (intro w hSw; (try dsimp only at hSw); go_simp; try with_reducible rfl)
     try simp only [Act.put, List.setIfInBounds_toArray, List.set_cons_zero, List.set_cons_succ]
     refine take_lit (i := 14) (v := ?_) rfl (by kernel_rfl) (by kernel_rfl) (by kernel_rfl) (fun _ _ _ h => h) (Or.inl ⟨by rfl, ?hy14⟩) (by assumption) ?_
     case hy14 => (intro w hSw; (try dsimp only at hSw); go_simp; try with_reducible rfl)
     try simp only [Act.put, List.setIfInBounds_toArray, List.set_cons_zero, List.set_cons_succ]
     refine wpAnyH_done (by kernel_rfl) ?_ _
     refine back_last (fun K hK => ?_)
     have A3 := HA.out.below hb3
     have fz3 := World.ownsRow.frozenAt A3.own k
     have x3 := KK.1
     have HS5 := hideg (HA.out.set hlt hb3 (by have := HB.out.size; have := hbg.out; omega) ho3)
     have HS6 := hideg ((HA2.out.below hb3).setFar (j := k) (u := .slice a3 r3.length c3) hg)
     have HB7 := hideg ((HB.out.trans (hb3.mono (by have := hbg.out; omega))).setCell (p := ⟨go, k, none⟩) hbg.out (.slice a3 r3.length c3))
     have HF7 := hideg ((HF.out.below hb3).set k (.slice a3 r3.length c3))
     clear A3 KK
     go_simp
     refine hK.out _ _ (NoPanic.normal ?_)
     clear hK K
     have HI7 : Hid (∀ v, v < n -> Sm B (updF T' k r3 v) /\ ∀ t, tel (updF T' k r3 v) t = if v < k + 1 then mrg 1 (tel (T v) t) (tel (N v) t) else tel (T v) t) := by
       intro v hv
       by_cases e : v = k
       · subst e
         rw [updF_same]
         refine ⟨hs3, fun t => ?_⟩
         rw [ht3 t, (HI.out v hv).2 t, if_neg (by omega), if_pos (by omega)]
       · rw [updF_far _ _ e]
         refine ⟨(HI.out v hv).1, fun t => ?_⟩
         rw [(HI.out v hv).2 t]
         by_cases h : v < k
         · rw [if_pos h, if_pos (by omega)]
         · rw [if_neg h, if_neg (by omega)]
     clear ho3 hb3 hs3 ht3
     go_wp2
     go_roundw
     case rel => exact ⟨k + 1, _, _, by omega, by go_num, HS5.out, HI7.out, HS6.out, HB7.out, HF7.out⟩
     case measure => simp [intOf]; omega
   · have hkn : k = n := by omega
     subst hkn
     clear hA hA2 hb
     go_wp2
     go_end0
     exact ⟨rfl, va, T', HA.out, fun v hv => ⟨(HI.out v hv).1, fun t => by rw [(HI.out v hv).2 t, if_pos hv]⟩, HA2.out, HB.out, HF.out⟩
def BoxesAt (w : World) (ao : Option Addr) (W n : Nat) (M : Nat -> Nat -> List P3) : Prop :=
 W = 0 \/ ∃ b off, ao = some ⟨b, off, none⟩ /\ b < w.heap.size /\ ∀ j, j < W -> ∃ a c, w.cell? ⟨b, off + j, none⟩ = some (.slice a n c) /\ MsAt w a n (M j)
theorem BoxesAt.at1 {w : World} {ao : Option Addr} {W n : Nat} {M : Nat -> Nat -> List P3} (h : BoxesAt w ao W n M) {v : Nat} (hv : v < W) : ∃ b off a c, ao = some ⟨b, off, none⟩ /\ b < w.heap.size /\ w.cell? ⟨b, off + v, none⟩ = some (.slice a n c) /\ MsAt w a n (M v) := by
 rcases h with h | ⟨b, off, rfl, hlt, hc⟩
 · omega
 · obtain ⟨a, c, h1, h2⟩ := hc v hv
   exact ⟨b, off, a, c, rfl, hlt, h1, h2⟩
set_option maxRecDepth 100000 in
set_option maxHeartbeats 8000000 in
theorem bsTogether_any (ao : Option Addr) (W cap n : Nat) (M : Nat -> Nat -> List P3) (B : Int) (hB : B <= 1000000) (hn : n <= 12) (hW : W <= 64) (w : World) (hM : BoxesAt w ao W n M) (hS : ∀ j, j < W -> ∀ v, v < n -> Sm B (M j v)) :
   Calls Seq.prog 22 #[.slice ao W cap, .int .i64 n] w fun r w' => ∃ val H, r = .returned (.slice (some ⟨w.heap.size, 0, none⟩) n n) /\ AM w' w.heap.size w.heap.size n val H /\ (∀ v, v < n -> Sm B (H v) /\ ∀ t, tel (H v) t = togF M W v t) /\ Below w.heap.size w w' := by
 obtain ⟨i1, hi', hy0, hy1, hy2⟩ := info_parts Tryz.infoPcs
 have HS := hideg hS
 have HM := hideg hM
 clear hS hM
 go_enter Seq.func22, Tryz.ntmps22
 go_wp2_with (at_make; refine wpList_make_full _ rfl _ _ 51 rfl w.heap.size 32 i1 (.slice none 0 0) 1 ((Seq.pu 51).trans Tryz.underlying51) hi' hy0 hy1 .i64 .i64 _ _ n rfl rfl rfl rfl (by rw [hy2]; omega) (by unfold maxLen; omega) (by simp) ?_; intro w0 hown0 hgrow0)
 have HA0 := hideg (am_start hown0)
 have HB0 : Hid (Below w.heap.size w w0) := (Below.refl w.heap.size w).grown hgrow0 (Nat.le_refl _) (fun k hk => by cases hk)
 clear hown0 hgrow0
 go_loopw [13] (fun i wr => ∃ (j : Nat) (val : Nat -> Value) (H : Nat -> List P3), j <= W /\ i = .int .i64 j /\ AM wr w.heap.size w.heap.size n val H /\ (∀ v, v < n -> Sm B (H v) /\ ∀ t, tel (H v) t = togF M j v t) /\ Below w.heap.size w wr) (fun i _ => W - (intOf i).toNat)
 case atStart => exact ⟨0, _, _, Nat.zero_le _, rfl, HA0.out, fun v hv => ⟨sm_nil B, fun t => rfl⟩, HB0.out⟩
 case round =>
   clear HA0 HB0
   obtain ⟨j, val0, H0, hj, rfl, hA, hI, hb⟩ := hrel
   by_cases hjlt : j < W
   · have hji : (j : Int) < (W : Int) := by omega
     obtain ⟨b, off, a, c, rfl, hbl, c0, hm⟩ := HM.out.at1 hjlt
     have HMj := hideg hm
     have c0 := (hb.cell (p := ⟨b, off + j, none⟩) hbl).trans c0
     have HA := hideg hA
     have HI := hideg hI
     have HB := hideg hb
     clear hm hA hI hb
     go_wp2_with fail
     go_loopw [19] (fun i wr => ∃ (k : Nat) (val : Nat -> Value) (H : Nat -> List P3), k <= n /\ i = .int .i64 k /\ AM wr w.heap.size w.heap.size n val H /\ (∀ v, v < n -> Sm B (H v) /\ ∀ t, tel (H v) t = if v < k then togF M (j + 1) v t else togF M j v t) /\ Below w.heap.size w wr) (fun i _ => n - (intOf i).toNat)
     case atStart => exact ⟨0, _, _, Nat.zero_le _, rfl, HA.out, fun v hv => ⟨(HI.out v hv).1, fun t => by rw [(HI.out v hv).2 t]; simp⟩, HB.out⟩
     case round =>
       clear HA HI HB c0
       obtain ⟨k, va, H, hk, rfl, hA, hI, hb⟩ := hrel
       have HA := hideg hA
       have HI := hideg hI
       have HB := hideg hb
       clear hI
       by_cases hlt : k < n
       · have hki : (k : Int) < (n : Int) := by omega
         obtain ⟨bb, of, a2, c2, rfl, hbl2, y0, p2⟩ := (HMj.out.below hb).at1 hlt
         have HNX : Hid (∀ r3 : List P3, Sm B r3 -> (∀ t, tel r3 t = mrg 1 (tel (H k) t) (tel (M j k) t)) -> ∀ v, v < n -> Sm B (updF H k r3 v) /\ ∀ t, tel (updF H k r3 v) t = if v < k + 1 then togF M (j + 1) v t else togF M j v t) := by
           intro r3 hs3 ht3 v hv
           by_cases e : v = k
           · subst e
             rw [updF_same]
             refine ⟨hs3, fun t => ?_⟩
             rw [ht3 t, (HI.out v hv).2 t, if_neg (by omega), if_pos (by omega)]
             rfl
           · rw [updF_far _ _ e]
             refine ⟨(HI.out v hv).1, fun t => ?_⟩
             rw [(HI.out v hv).2 t]
             by_cases h : v < k
             · rw [if_pos h, if_pos (by omega)]
             · rw [if_neg h, if_neg (by omega)]
         by_cases hz : (M j k).length = 0
         · have HI2 : Hid (∀ v, v < n -> Sm B (H v) /\ ∀ t, tel (H v) t = if v < k + 1 then togF M (j + 1) v t else togF M j v t) := by
             have e0 : M j k = [] := List.eq_nil_of_length_eq_zero hz
             have := HNX.out (H k) (HI.out k hlt).1 (fun t => by rw [e0, tel_nil, mrg_none])
             have eu : updF H k (H k) = H := by
               funext v
               unfold updF
               by_cases e : v = k
               · subst e; simp
               · rw [if_neg e]
             rw [eu] at this
             exact this
           rw [hz] at y0
           clear hA hb hz p2 HNX
           go_wp2
           go_roundw
           case rel => exact ⟨k + 1, _, _, by omega, by go_num, HA.out, HI2.out, HB.out⟩
           case measure => simp [intOf]; omega
         · have hpos : (0 : Int) < ((M j k).length : Int) := by omega
           obtain ⟨a1, c1, ev, p1⟩ := pcAt_of_owns (hA.inn k hlt)
           have x1 := hA.out hlt
           rw [ev] at x1
           have hbd : Below wr.heap.size wr wr.drew := (Below.refl _ _).drew
           have hM : Calls Seq.prog 40 #[.slice a1 (H k).length c1, .slice a2 (M j k).length c2, .int .i64 1] wr.drew fun e w' => ∃ v r, e = .returned (.tuple #[v, .int .i64 0]) /\ Sm B r /\ (∀ t, tel r t = mrg 1 (tel (H k) t) (tel (M j k) t)) /\ w'.ownsRow wr.heap.size 35 3 v r.length (enc3 r) /\ Below wr.heap.size wr w' := by
             refine (Merge_any 1 a1 a2 c1 c2 (H k) (M j k) wr.drew (p1.below hbd) (p2.below hbd)).mono ?_
             rintro e w' ⟨m, r, hO, v, rfl, ho, hb'⟩
             obtain ⟨rfl, h2, h3⟩ := sm_merge (HI.out k hlt).1 (HS.out j hjlt k hlt) hB hO
             exact ⟨v, r, rfl, h2, h3, ho, hbd.trans hb'⟩
           have HMg := hideg hM
           have l1 := (hA.own.lt w.heap.size rfl).2
           have HAfter : Hid (∀ w3, Below wr.heap.size wr w3 -> (w3.cell? ⟨w.heap.size, k, none⟩ = some (.slice a1 (H k).length c1) /\ w3.cell? ⟨bb, of + k, none⟩ = some (.slice a2 (M j k).length c2))) := fun w3 h3 =>
             ⟨(h3.cell (p := ⟨w.heap.size, k, none⟩) l1).trans x1, (h3.cell (p := ⟨bb, of + k, none⟩) hbl2).trans y0⟩
           have SS := HAfter.out _ hbd
           generalize (M j k).length = mk at *
           clear hA hM hb x1 p1 p2 ev hbd hz
           go_wp2_with fail
           refine wp_region_backX 13 (S := fun w' => w'.cell? ⟨w.heap.size, k, none⟩ = some (.slice a1 (H k).length c1) /\ w'.cell? ⟨bb, of + k, none⟩ = some (.slice a2 mk c2)) (by kernel_rfl) (by simp) (by kernel_rfl) (by kernel_rfl) (by kernel_rfl) (by kernel_rfl) SS (fun hHeld => ?_)
           simp only [List.pop_toArray, List.dropLast, List.back!_toArray, List.getLast!]
           refine take_lit (i := 0) (v := ?_) rfl (by kernel_rfl) (by kernel_rfl) (by kernel_rfl) (fun _ _ _ h => h) (Or.inl ⟨by rfl, ?hy0⟩) (by assumption) ?_
           case hy0 => (intro w hSw; (try dsimp only at hSw); go_simp; try with_reducible rfl)
           try simp only [Act.put, List.setIfInBounds_toArray, List.set_cons_zero, List.set_cons_succ]
           refine take_lit (i := 1) (v := ?_) rfl (by kernel_rfl) (by kernel_rfl) (by kernel_rfl) (fun _ _ _ h => h) (Or.inl ⟨by rfl, ?hy1⟩) (by assumption) ?_
           case hy1 => (intro w hSw; (try dsimp only at hSw); go_simp; try with_reducible rfl)
           try simp only [Act.put, List.setIfInBounds_toArray, List.set_cons_zero, List.set_cons_succ]
           refine take_lit (i := 2) (v := ?_) rfl (by kernel_rfl) (by kernel_rfl) (by kernel_rfl) (fun _ _ _ h => h) (Or.inl ⟨by rfl, ?hy2⟩) (by assumption) ?_
           case hy2 => (intro w hSw; (try dsimp only at hSw); go_simp; try with_reducible rfl)
           try simp only [Act.put, List.setIfInBounds_toArray, List.set_cons_zero, List.set_cons_succ]
           refine take_lit (i := 3) (v := ?_) rfl (by kernel_rfl) (by kernel_rfl) (by kernel_rfl) (fun _ _ _ h => h) (Or.inl ⟨by rfl, ?hy3⟩) (by assumption) ?_
           case hy3 => (intro w hSw; (try dsimp only at hSw); go_simp; try with_reducible rfl)
           try simp only [Act.put, List.setIfInBounds_toArray, List.set_cons_zero, List.set_cons_succ]
           refine take_lit (i := 4) (v := ?_) rfl (by kernel_rfl) (by kernel_rfl) (by kernel_rfl) (fun _ _ _ h => h) (Or.inl ⟨by rfl, ?hy4⟩) (by assumption) ?_
           case hy4 => (intro w hSw; (try dsimp only at hSw); go_simp; try with_reducible rfl)
           try simp only [Act.put, List.setIfInBounds_toArray, List.set_cons_zero, List.set_cons_succ]
           refine take_lit (i := 5) (v := ?_) rfl (by kernel_rfl) (by kernel_rfl) (by kernel_rfl) (fun _ _ _ h => h) (Or.inl ⟨by rfl, ?hy5⟩) (by assumption) ?_
           case hy5 => (intro w hSw; (try dsimp only at hSw); go_simp; try with_reducible rfl)
           try simp only [Act.put, List.setIfInBounds_toArray, List.set_cons_zero, List.set_cons_succ]
           refine take_lit (i := 6) (v := ?_) rfl (by kernel_rfl) (by kernel_rfl) (by kernel_rfl) (fun _ _ _ h => h) (Or.inl ⟨by rfl, ?hy6⟩) (by assumption) ?_
           case hy6 => (intro w hSw; (try dsimp only at hSw); go_simp; try with_reducible rfl)
           try simp only [Act.put, List.setIfInBounds_toArray, List.set_cons_zero, List.set_cons_succ]
           refine take_lit (i := 7) (v := ?_) rfl (by kernel_rfl) (by kernel_rfl) (by kernel_rfl) (fun _ _ _ h => h) (Or.inl ⟨by rfl, ?hy7⟩) (by assumption) ?_
           case hy7 => (intro w hSw; (try dsimp only at hSw); go_simp; try with_reducible rfl)
           try simp only [Act.put, List.setIfInBounds_toArray, List.set_cons_zero, List.set_cons_succ]
           refine take_lit (i := 8) (v := ?_) rfl (by kernel_rfl) (by kernel_rfl) (by kernel_rfl) (fun _ _ _ h => h) (Or.inl ⟨by rfl, ?hy8⟩) (by assumption) ?_
           case hy8 => (intro w hSw; (try dsimp only at hSw); go_simp; try with_reducible rfl)
           try simp only [Act.put, List.setIfInBounds_toArray, List.set_cons_zero, List.set_cons_succ]
           refine take_lit (i := 9) (v := ?_) rfl (by kernel_rfl) (by kernel_rfl) (by kernel_rfl) (fun _ _ _ h => h) (Or.inl ⟨by rfl, ?hy9⟩) (by assumption) ?_
           case hy9 => (intro w hSw; (try dsimp only at hSw); go_simp; try with_reducible rfl)
           try simp only [Act.put, List.setIfInBounds_toArray, List.set_cons_zero, List.set_cons_succ]
           refine next_lit (i := 10) rfl (by kernel_rfl) (fun K hK => ?_)
           go_simp
           refine HMg.out.mono ?_
           rintro e w3 ⟨v3, r3, rfl, hs3, ht3, ho3, hb3⟩
           obtain ⟨a3, c3, rfl, _⟩ := pcAt_of_owns ho3
           have KK := HAfter.out w3 hb3
           refine hK.out _ _ KK (fun hHeld => ?_)
           clear hK K hHeld
           try simp only [Act.put, List.setIfInBounds_toArray, List.set_cons_zero, List.set_cons_succ]
           refine take_lit (i := 11) (v := ?_) rfl (by kernel_rfl) (by kernel_rfl) (by kernel_rfl) (fun _ _ _ h => h) (Or.inl ⟨by rfl, ?hy11⟩) (by assumption) ?_
           case hy11 => (intro w hSw; (try dsimp only at hSw); go_simp; try with_reducible rfl)
           try simp only [Act.put, List.setIfInBounds_toArray, List.set_cons_zero, List.set_cons_succ]
           refine take_lit (i := 12) (v := ?_) rfl (by kernel_rfl) (by kernel_rfl) (by kernel_rfl) (fun _ _ _ h => h) (Or.inl ⟨by rfl, ?hy12⟩) (by assumption) ?_
           case hy12 => (intro w hSw; (try dsimp only at hSw); go_simp; try with_reducible rfl)
           try simp only [Act.put, List.setIfInBounds_toArray, List.set_cons_zero, List.set_cons_succ]
           refine take_lit (i := 13) (v := ?_) rfl (by kernel_rfl) (by kernel_rfl) (by kernel_rfl) (fun _ _ _ h => h) (Or.inl ⟨by rfl, ?hy13⟩) (by assumption) ?_
           case hy13 => (intro w hSw; (try dsimp only at hSw); go_simp; try with_reducible rfl)
           try simp only [Act.put, List.setIfInBounds_toArray, List.set_cons_zero, List.set_cons_succ]
           refine take_lit (i := 14) (v := ?_) rfl (by kernel_rfl) (by kernel_rfl) (by kernel_rfl) (fun _ _ _ h => h) (Or.inl ⟨by rfl, ?hy14⟩) (by assumption) ?_
           case hy14 => (intro w hSw; (try dsimp only at hSw); go_simp; try with_reducible rfl)
           try simp only [Act.put, List.setIfInBounds_toArray, List.set_cons_zero, List.set_cons_succ]
           refine wpAnyH_done (by kernel_rfl) ?_ _
           refine back_last (fun K hK => ?_)
           have A3 := HA.out.below hb3
           have fz3 := World.ownsRow.frozenAt A3.own k
           have x3 := KK.1
           have HS5 := hideg (HA.out.set hlt hb3 HB.out.size ho3)
           have HB7 := hideg ((HB.out.trans (hb3.mono HB.out.size)).setCell (p := ⟨w.heap.size, k, none⟩) (Nat.le_refl _) (.slice a3 r3.length c3))
           have HI7 := hideg (HNX.out r3 hs3 ht3)
           clear A3 KK ho3 hb3 hs3 ht3 HNX
           go_simp
           refine hK.out _ _ (NoPanic.normal ?_)
           clear hK K
           go_wp2
           go_roundw
           case rel => exact ⟨k + 1, _, _, by omega, by go_num, HS5.out, HI7.out, HB7.out⟩
           case measure => simp [intOf]; omega
       · have hkn : k = n := by omega
         subst hkn
         have HI2 : Hid (∀ v, v < k -> Sm B (H v) /\ ∀ t, tel (H v) t = togF M (j + 1) v t) := fun v hv => ⟨(HI.out v hv).1, fun t => by rw [(HI.out v hv).2 t, if_pos hv]⟩
         clear hA hb
         go_wp2
         go_roundw
         case rel => exact ⟨j + 1, _, _, by omega, by go_num, HA.out, HI2.out, HB.out⟩
         case measure => simp [intOf]; omega
   · have hjW : j = W := by omega
     subst hjW
     have HA := hideg hA
     have HB := hideg hb
     have HI := hideg hI
     clear hA hb hI
     go_wp2
     go_ret
     exact ⟨_, _, rfl, HA.out, HI.out, HB.out⟩
def PtsAt (w : World) (ao : Option Addr) (ps : List Pt) : Prop :=
 ps = [] \/ ∃ b off, ao = some ⟨b, off, none⟩ /\ b < w.heap.size /\ ∀ j, j < ps.length -> w.cell? ⟨b, off + j * 5, none⟩ = some (.int .i64 (ps.getD j pt0).1) /\ w.cell? ⟨b, off + j * 5 + 1, none⟩ = some (.int .i64 (ps.getD j pt0).2.1) /\ w.cell? ⟨b, off + j * 5 + 2, none⟩ = some (.int .i64 (ps.getD j pt0).2.2.1) /\ w.cell? ⟨b, off + j * 5 + 3, none⟩ = some (.int .i64 (ps.getD j pt0).2.2.2.1) /\ w.cell? ⟨b, off + j * 5 + 4, none⟩ = some (.int .i64 (ps.getD j pt0).2.2.2.2)
theorem PtsAt.below {w w' : World} {ao : Option Addr} {ps : List Pt} (h : PtsAt w ao ps) (hb : Below w.heap.size w w') : PtsAt w' ao ps := by
 rcases h with h | ⟨b, off, rfl, hlt, hc⟩
 · exact .inl h
 · refine .inr ⟨b, off, rfl, Nat.lt_of_lt_of_le hlt hb.size, fun j hj => ?_⟩
   rw [hb.cell (p := ⟨b, off + j * 5, none⟩) hlt, hb.cell (p := ⟨b, off + j * 5 + 1, none⟩) hlt, hb.cell (p := ⟨b, off + j * 5 + 2, none⟩) hlt, hb.cell (p := ⟨b, off + j * 5 + 3, none⟩) hlt, hb.cell (p := ⟨b, off + j * 5 + 4, none⟩) hlt]
   exact hc j hj
theorem PtsAt.at1 {w : World} {ao : Option Addr} {ps : List Pt} (h : PtsAt w ao ps) {k : Nat} (hk : k < ps.length) : ∃ b off, ao = some ⟨b, off, none⟩ /\ b < w.heap.size /\ w.cell? ⟨b, off + k * 5, none⟩ = some (.int .i64 ps[k].1) /\ w.cell? ⟨b, off + k * 5 + 1, none⟩ = some (.int .i64 ps[k].2.1) /\ w.cell? ⟨b, off + k * 5 + 2, none⟩ = some (.int .i64 ps[k].2.2.1) /\ w.cell? ⟨b, off + k * 5 + 3, none⟩ = some (.int .i64 ps[k].2.2.2.1) /\ w.cell? ⟨b, off + k * 5 + 4, none⟩ = some (.int .i64 ps[k].2.2.2.2) := by
 rcases h with rfl | ⟨b, off, rfl, hlt, hc⟩
 · simp at hk
 · have := hc k hk
   rw [List.getD_eq_getElem?_getD, List.getElem?_eq_getElem hk, Option.getD_some] at this
   exact ⟨b, off, rfl, hlt, this⟩
set_option maxRecDepth 100000 in
set_option maxHeartbeats 8000000 in
theorem bsSend_any (no po : Option Addr) (nc pc n : Nat) (N : Nat -> List P3) (ps : List Pt) (wk W B : Int) (hB : B <= 400000) (hn : n <= 12) (hW : 1 <= W /\ W <= 64) (hp : ps.length <= 100000) (w : World) (hN : MsAt w no n N) (hP : PtsAt w po ps) (hG : ∀ π ∈ ps, GoodPt n π) (hS : ∀ v, v < n -> Sm B (N v)) :
   Calls Seq.prog 35 #[.slice no n nc, .slice po ps.length pc, .int .i64 wk, .int .i64 W] w fun r w' => ∃ val H, r = .returned (.slice (some ⟨w.heap.size, 0, none⟩) n n) /\ AM w' w.heap.size w.heap.size n val H /\ (∀ v, v < n -> Sm (B + 1000) (H v) /\ ∀ t, tel (H v) t = sndF N wk W ps ps.length v t) /\ Below w.heap.size w w' := by
 obtain ⟨i1, hi', hy0, hy1, hy2⟩ := info_parts Tryz.infoPcs
 have HS := hideg hS
 have HN := hideg hN
 have HP := hideg hP
 have HG := hideg hG
 have HW := hideg hW
 have hW0 : ¬ W = 0 := by omega
 obtain ⟨L, hL⟩ : ∃ L, L = ps.length := ⟨_, rfl⟩
 have HL := hideg hL
 rw [<- hL] at hp ⊢
 clear hS hN hP hG hL hW
 go_enter Seq.func35, Tryz.ntmps35
 go_wp2_with (at_make; refine wpList_make_full _ rfl _ _ 51 rfl w.heap.size 32 i1 (.slice none 0 0) 1 ((Seq.pu 51).trans Tryz.underlying51) hi' hy0 hy1 .i64 .i64 _ _ n rfl rfl rfl rfl (by rw [hy2]; omega) (by unfold maxLen; omega) (by simp) ?_; intro w0 hown0 hgrow0)
 have HA0 := hideg (am_start hown0)
 have HB0 : Hid (Below w.heap.size w w0) := (Below.refl w.heap.size w).grown hgrow0 (Nat.le_refl _) (fun k hk => by cases hk)
 clear hown0 hgrow0
 go_loopw [17] (fun i wr => ∃ (k : Nat) (val : Nat -> Value) (H : Nat -> List P3), k <= L /\ i = .int .i64 k /\ AM wr w.heap.size w.heap.size n val H /\ (∀ v, v < n -> Sm (B + 1000) (H v) /\ ∀ t, tel (H v) t = sndF N wk W ps k v t) /\ Below w.heap.size w wr) (fun i _ => L - (intOf i).toNat)
 case atStart => exact ⟨0, _, _, Nat.zero_le _, rfl, HA0.out, fun v hv => ⟨sm_nil _, fun t => rfl⟩, HB0.out⟩
 case round =>
   clear HA0 HB0
   obtain ⟨k, va, H, hk, rfl, hA, hI, hb⟩ := hrel
   have HA := hideg hA
   have HI := hideg hI
   have HB := hideg hb
   clear hI
   by_cases hlt : k < L
   · have hlt2 : k < ps.length := by rw [<- HL.out]; exact hlt
     have hki : (k : Int) < (L : Int) := by omega
     obtain ⟨b, off, rfl, hbl, c0, c1, c2, c3, c4⟩ := (HP.out.below hb).at1 hlt2
     have hg := HG.out _ (List.getElem_mem hlt2)
     have hgd : ps.getD k pt0 = ps[k] := by rw [List.getD_eq_getElem?_getD, List.getElem?_eq_getElem hlt2, Option.getD_some]
     have HST : Hid (∀ v t, sndF N wk W ps (k + 1) v t = if ps[k].1 % W = wk /\ ps[k].2.1 = (v : Int) then mrg 1 (sndF N wk W ps k v t) (alongF N ps[k] t) else sndF N wk W ps k v t) := fun v t => by
       show (if _ then _ else _) = _
       rw [hgd]
     clear hgd
     generalize ps[k] = π at *
     obtain ⟨pa, pb, f, t, d⟩ := π
     obtain ⟨⟨ga0, ga1⟩, ⟨gb0, gb1⟩, gf, gd⟩ := hg
     simp only at ga0 ga1 gb0 gb1 gf gd c0 c1 c2 c3 c4
     obtain ⟨A, rfl⟩ : ∃ A : Nat, pa = (A : Int) := ⟨pa.toNat, by omega⟩
     obtain ⟨V, rfl⟩ : ∃ V : Nat, pb = (V : Int) := ⟨pb.toNat, by omega⟩
     have hAn : A < n := by omega
     have hVn : V < n := by omega
     have HBA : Hid (∀ o, Below w.heap.size w (wr.alloc o)) := fun o => HB.out.alloc HB.out.size o
     have HAA : Hid (∀ o, AM (wr.alloc o) w.heap.size w.heap.size n va H) := fun o => HA.out.below (pal wr o)
     clear hlt2 hb
     by_cases hm : (A : Int) % W = wk
     · obtain ⟨nb, nof, na, nc2, rfl, hnl, y0, pn⟩ := HN.out.at1 hAn
       have y0 := (HB.out.cell (p := ⟨nb, nof + A, none⟩) hnl).trans y0
       have hnr : nb < wr.heap.size := Nat.lt_of_lt_of_le hnl HB.out.size
       have hAi : (A : Int) < (n : Int) := by omega
       by_cases hz : (N A).length = 0
       · have HI2 : Hid (∀ v, v < n -> Sm (B + 1000) (H v) /\ ∀ t', tel (H v) t' = sndF N wk W ps (k + 1) v t') := fun v hv => ⟨(HI.out v hv).1, fun t' => by
           rw [(HI.out v hv).2 t', HST.out]
           have e0 : N A = [] := List.eq_nil_of_length_eq_zero hz
           split
           · unfold alongF
             simp only [Int.toNat_natCast, e0, tel_nil, Option.map_none, ite_self, mrg_none]
           · rfl⟩
         have dm : ((A : Int) % W == wk) = true := by simpa using hm
         rw [hz] at y0
         clear hA hz pn HST HP
         go_wp2
         go_roundw
         case rel => exact ⟨k + 1, _, _, by omega, by go_num, HAA.out _, HI2.out, HBA.out _⟩
         case measure => simp [intOf]; omega
       · have hpos : (0 : Int) < ((N A).length : Int) := by omega
         obtain ⟨o1, ho1⟩ : ∃ o, o = Obj.cells #[.int .i64 (A : Int), .int .i64 (V : Int), .int .i64 f, .int .i64 t, .int .i64 d] 78 := ⟨_, rfl⟩
         have hA1 := HAA.out o1
         have hB1 := HBA.out o1
         obtain ⟨a1, cc1, ev, p1⟩ := pcAt_of_owns (hA1.inn V hVn)
         have x1 := hA1.out hVn
         rw [ev] at x1
         obtain ⟨w1, hw1⟩ : ∃ x, x = wr.alloc o1 := ⟨_, rfl⟩
         rw [<- hw1] at hA1 hB1 p1 x1
         have hbd : Below w1.heap.size w1 w1.drew := (Below.refl _ _).drew
         have hAl : Calls Seq.prog 58 #[.agg #[.int .i64 (A : Int), .int .i64 (V : Int), .int .i64 f, .int .i64 t, .int .i64 d], .slice na (N A).length nc2] w1.drew fun r w' => ∃ v q, r = .returned v /\ Sm (B + 1000) q /\ (∀ t', tel q t' = alongF N ((A : Int), (V : Int), f, t, d) t') /\ w'.ownsRow w1.heap.size 35 3 v q.length (enc3 q) /\ Below w1.heap.size w1 w' := by
           refine (bsAlong_any ((A : Int), (V : Int), f, t, d) na nc2 (N A) B w1.drew (pn.below ((HB.out.alloc HB.out.size o1) |> fun h => by rw [<- hw1] at h; exact h.trans (hbd.mono h.size))) (HS.out A hAn) (by omega) gf gd).mono ?_
           rintro e w' ⟨v, q, rfl, h1, h2, h3, h4⟩
           exact ⟨v, q, rfl, h1.mono (by simp only; omega), h2, h3, hbd.trans h4⟩
         have HAl := hideg hAl
         have HMg : Hid (∀ (w2 : World) (aq : Option Addr) (cq : Nat) (q : List P3), Below w1.heap.size w1 w2 -> PcAt w2 aq q -> Sm (B + 1000) q -> Calls Seq.prog 40 #[.slice a1 (H V).length cc1, .slice aq q.length cq, .int .i64 1] w2 fun e w' => ∃ v r, e = .returned (.tuple #[v, .int .i64 0]) /\ Sm (B + 1000) r /\ (∀ t', tel r t' = mrg 1 (tel (H V) t') (tel q t')) /\ w'.ownsRow w1.heap.size 35 3 v r.length (enc3 r) /\ Below w1.heap.size w1 w') := by
           intro w2 aq cq q h2 hq hsq
           refine (Merge_any 1 a1 aq cc1 cq (H V) q w2 (p1.below h2) hq).mono ?_
           rintro e w' ⟨m, r, hO, v, rfl, ho, hb'⟩
           obtain ⟨rfl, g2, g3⟩ := sm_merge (HI.out V hVn).1 hsq (by omega) hO
           exact ⟨v, r, rfl, g2, g3, owns_base2 ho h2.size, ptw h2 hb'⟩
         have l1 := (hA1.own.lt w.heap.size rfl).2
         have z1 : w1.heap.size = wr.heap.size + 1 := by rw [hw1]; simp
         have HAfter : Hid (∀ w3, Below w1.heap.size w1 w3 -> (w3.cell? ⟨wr.heap.size, 0, none⟩ = some (.int .i64 (A : Int)) /\ w3.cell? ⟨wr.heap.size, 1, none⟩ = some (.int .i64 (V : Int)) /\ w3.cell? ⟨wr.heap.size, 2, none⟩ = some (.int .i64 f) /\ w3.cell? ⟨wr.heap.size, 3, none⟩ = some (.int .i64 t) /\ w3.cell? ⟨wr.heap.size, 4, none⟩ = some (.int .i64 d) /\ w3.cell? ⟨w.heap.size, V, none⟩ = some (.slice a1 (H V).length cc1) /\ w3.cell? ⟨nb, nof + A, none⟩ = some (.slice na (N A).length nc2))) := fun w3 h3 =>
           ⟨(h3.cell (p := ⟨wr.heap.size, 0, none⟩) (by simp only; omega)).trans (by rw [hw1, ho1]; simp), (h3.cell (p := ⟨wr.heap.size, 1, none⟩) (by simp only; omega)).trans (by rw [hw1, ho1]; simp), (h3.cell (p := ⟨wr.heap.size, 2, none⟩) (by simp only; omega)).trans (by rw [hw1, ho1]; simp), (h3.cell (p := ⟨wr.heap.size, 3, none⟩) (by simp only; omega)).trans (by rw [hw1, ho1]; simp), (h3.cell (p := ⟨wr.heap.size, 4, none⟩) (by simp only; omega)).trans (by rw [hw1, ho1]; simp), (h3.cell (p := ⟨w.heap.size, V, none⟩) l1).trans x1, (h3.cell (p := ⟨nb, nof + A, none⟩) (by simp only; omega)).trans (by rw [hw1, (pal wr o1).cell (p := ⟨nb, nof + A, none⟩) hnr]; exact y0)⟩
         have SS := HAfter.out _ hbd
         have HNX : Hid (∀ r3 : List P3, Sm (B + 1000) r3 -> (∀ t', tel r3 t' = mrg 1 (tel (H V) t') (alongF N ((A : Int), (V : Int), f, t, d) t')) -> ∀ v, v < n -> Sm (B + 1000) (updF H V r3 v) /\ ∀ t', tel (updF H V r3 v) t' = sndF N wk W ps (k + 1) v t') := by
           intro r3 hs3 ht3 v hv
           by_cases e : v = V
           · subst e
             rw [updF_same]
             refine ⟨hs3, fun t' => ?_⟩
             rw [ht3 t', (HI.out v hv).2 t', HST.out, if_pos ⟨hm, rfl⟩]
           · rw [updF_far _ _ e]
             refine ⟨(HI.out v hv).1, fun t' => ?_⟩
             rw [(HI.out v hv).2 t', HST.out, if_neg (fun h => e (by have := h.2; simp only at this; omega))]
         have HA1 := hideg hA1
         have HB1 := hideg hB1
         have hVi : (V : Int) < (n : Int) := by omega
         have dm : ((A : Int) % W == wk) = true := by simpa using hm
         generalize hml : (N A).length = ml at *
         subst ho1
         clear hA hA1 hB1 hAl p1 pn ev x1 hz hml hbd HAA HBA HST HP z1
         subst hw1
         go_wp2_with fail
         refine wp_region_backX 18 (S := fun w3 => w3.cell? ⟨wr.heap.size, 0, none⟩ = some (.int .i64 (A : Int)) /\ w3.cell? ⟨wr.heap.size, 1, none⟩ = some (.int .i64 (V : Int)) /\ w3.cell? ⟨wr.heap.size, 2, none⟩ = some (.int .i64 f) /\ w3.cell? ⟨wr.heap.size, 3, none⟩ = some (.int .i64 t) /\ w3.cell? ⟨wr.heap.size, 4, none⟩ = some (.int .i64 d) /\ w3.cell? ⟨w.heap.size, V, none⟩ = some (.slice a1 (H V).length cc1) /\ w3.cell? ⟨nb, nof + A, none⟩ = some (.slice na ml nc2)) (by kernel_rfl) (by simp) (by kernel_rfl) (by kernel_rfl) (by kernel_rfl) (by kernel_rfl) SS (fun hHeld => ?_)
         simp only [List.pop_toArray, List.dropLast, List.back!_toArray, List.getLast!]
         refine take_lit (i := 0) (v := ?_) rfl (by kernel_rfl) (by kernel_rfl) (by kernel_rfl) (fun _ _ _ h => h) (Or.inl ⟨by rfl, ?hy0⟩) (by assumption) ?_
         case hy0 => (intro w hSw; (try dsimp only at hSw); go_simp; try with_reducible rfl)
         try simp only [Act.put, List.setIfInBounds_toArray, List.set_cons_zero, List.set_cons_succ]
         refine take_lit (i := 1) (v := ?_) rfl (by kernel_rfl) (by kernel_rfl) (by kernel_rfl) (fun _ _ _ h => h) (Or.inl ⟨by rfl, ?hy1⟩) (by assumption) ?_
         case hy1 => (intro w hSw; (try dsimp only at hSw); go_simp; try with_reducible rfl)
         try simp only [Act.put, List.setIfInBounds_toArray, List.set_cons_zero, List.set_cons_succ]
         refine take_lit (i := 2) (v := ?_) rfl (by kernel_rfl) (by kernel_rfl) (by kernel_rfl) (fun _ _ _ h => h) (Or.inl ⟨by rfl, ?hy2⟩) (by assumption) ?_
         case hy2 => (intro w hSw; (try dsimp only at hSw); go_simp; try with_reducible rfl)
         try simp only [Act.put, List.setIfInBounds_toArray, List.set_cons_zero, List.set_cons_succ]
         refine take_lit (i := 3) (v := ?_) rfl (by kernel_rfl) (by kernel_rfl) (by kernel_rfl) (fun _ _ _ h => h) (Or.inl ⟨by rfl, ?hy3⟩) (by assumption) ?_
         case hy3 => (intro w hSw; (try dsimp only at hSw); go_simp; try with_reducible rfl)
         try simp only [Act.put, List.setIfInBounds_toArray, List.set_cons_zero, List.set_cons_succ]
         refine take_lit (i := 4) (v := ?_) rfl (by kernel_rfl) (by kernel_rfl) (by kernel_rfl) (fun _ _ _ h => h) (Or.inl ⟨by rfl, ?hy4⟩) (by assumption) ?_
         case hy4 => (intro w hSw; (try dsimp only at hSw); go_simp; try with_reducible rfl)
         try simp only [Act.put, List.setIfInBounds_toArray, List.set_cons_zero, List.set_cons_succ]
         refine take_lit (i := 5) (v := ?_) rfl (by kernel_rfl) (by kernel_rfl) (by kernel_rfl) (fun _ _ _ h => h) (Or.inl ⟨by rfl, ?hy5⟩) (by assumption) ?_
         case hy5 => (intro w hSw; (try dsimp only at hSw); go_simp; try with_reducible rfl)
         try simp only [Act.put, List.setIfInBounds_toArray, List.set_cons_zero, List.set_cons_succ]
         refine take_lit (i := 6) (v := ?_) rfl (by kernel_rfl) (by kernel_rfl) (by kernel_rfl) (fun _ _ _ h => h) (Or.inl ⟨by rfl, ?hy6⟩) (by assumption) ?_
         case hy6 => (intro w hSw; (try dsimp only at hSw); go_simp; try with_reducible rfl)
         try simp only [Act.put, List.setIfInBounds_toArray, List.set_cons_zero, List.set_cons_succ]
         refine take_lit (i := 7) (v := ?_) rfl (by kernel_rfl) (by kernel_rfl) (by kernel_rfl) (fun _ _ _ h => h) (Or.inl ⟨by rfl, ?hy7⟩) (by assumption) ?_
         case hy7 => (intro w hSw; (try dsimp only at hSw); go_simp; try with_reducible rfl)
         try simp only [Act.put, List.setIfInBounds_toArray, List.set_cons_zero, List.set_cons_succ]
         refine take_lit (i := 8) (v := ?_) rfl (by kernel_rfl) (by kernel_rfl) (by kernel_rfl) (fun _ _ _ h => h) (Or.inl ⟨by rfl, ?hy8⟩) (by assumption) ?_
         case hy8 => (intro w hSw; (try dsimp only at hSw); go_simp; try with_reducible rfl)
         try simp only [Act.put, List.setIfInBounds_toArray, List.set_cons_zero, List.set_cons_succ]
         refine take_lit (i := 9) (v := ?_) rfl (by kernel_rfl) (by kernel_rfl) (by kernel_rfl) (fun _ _ _ h => h) (Or.inl ⟨by rfl, ?hy9⟩) (by assumption) ?_
         case hy9 => (intro w hSw; (try dsimp only at hSw); go_simp; try with_reducible rfl)
         try simp only [Act.put, List.setIfInBounds_toArray, List.set_cons_zero, List.set_cons_succ]
         refine take_lit (i := 10) (v := ?_) rfl (by kernel_rfl) (by kernel_rfl) (by kernel_rfl) (fun _ _ _ h => h) (Or.inl ⟨by rfl, ?hy10⟩) (by assumption) ?_
         case hy10 => (intro w hSw; (try dsimp only at hSw); go_simp; try with_reducible rfl)
         try simp only [Act.put, List.setIfInBounds_toArray, List.set_cons_zero, List.set_cons_succ]
         refine take_lit (i := 11) (v := ?_) rfl (by kernel_rfl) (by kernel_rfl) (by kernel_rfl) (fun _ _ _ h => h) (Or.inl ⟨by rfl, ?hy11⟩) (by assumption) ?_
         case hy11 => (intro w hSw; (try dsimp only at hSw); go_simp; try with_reducible rfl)
         try simp only [Act.put, List.setIfInBounds_toArray, List.set_cons_zero, List.set_cons_succ]
         refine take_lit (i := 12) (v := ?_) rfl (by kernel_rfl) (by kernel_rfl) (by kernel_rfl) (fun _ _ _ h => h) (Or.inl ⟨by rfl, ?hy12⟩) (by assumption) ?_
         case hy12 => (intro w hSw; (try dsimp only at hSw); go_simp; try with_reducible rfl)
         try simp only [Act.put, List.setIfInBounds_toArray, List.set_cons_zero, List.set_cons_succ]
         refine take_lit (i := 13) (v := ?_) rfl (by kernel_rfl) (by kernel_rfl) (by kernel_rfl) (fun _ _ _ h => h) (Or.inl ⟨by rfl, ?hy13⟩) (by assumption) ?_
         case hy13 => (intro w hSw; (try dsimp only at hSw); go_simp; try with_reducible rfl)
         try simp only [Act.put, List.setIfInBounds_toArray, List.set_cons_zero, List.set_cons_succ]
         refine next_lit (i := 14) rfl (by kernel_rfl) (fun K hK => ?_)
         go_simp
         refine HAl.out.mono ?_
         rintro e w2 ⟨v2, q2, rfl, hs2, ht2, ho2, hb2⟩
         obtain ⟨aq, cq, rfl, hpq⟩ := pcAt_of_owns ho2
         refine hK.out _ _ (HAfter.out w2 hb2) (fun hHeld => ?_)
         clear hK K hHeld
         try simp only [Act.put, List.setIfInBounds_toArray, List.set_cons_zero, List.set_cons_succ]
         refine next_lit (i := 15) rfl (by kernel_rfl) (fun K hK => ?_)
         go_simp
         refine (HMg.out w2 aq cq q2 hb2 hpq hs2).mono ?_
         rintro e w3 ⟨v3, r3, rfl, hs3, ht3, ho3, hb3⟩
         obtain ⟨a3, c3, rfl, _⟩ := pcAt_of_owns ho3
         have KK := HAfter.out w3 hb3
         refine hK.out _ _ KK (fun hHeld => ?_)
         clear hK K hHeld
         try simp only [Act.put, List.setIfInBounds_toArray, List.set_cons_zero, List.set_cons_succ]
         refine take_lit (i := 16) (v := ?_) rfl (by kernel_rfl) (by kernel_rfl) (by kernel_rfl) (fun _ _ _ h => h) (Or.inl ⟨by rfl, ?hy16⟩) (by assumption) ?_
         case hy16 => (intro w hSw; (try dsimp only at hSw); go_simp; try with_reducible rfl)
         try simp only [Act.put, List.setIfInBounds_toArray, List.set_cons_zero, List.set_cons_succ]
         refine take_lit (i := 17) (v := ?_) rfl (by kernel_rfl) (by kernel_rfl) (by kernel_rfl) (fun _ _ _ h => h) (Or.inl ⟨by rfl, ?hy17⟩) (by assumption) ?_
         case hy17 => (intro w hSw; (try dsimp only at hSw); go_simp; try with_reducible rfl)
         try simp only [Act.put, List.setIfInBounds_toArray, List.set_cons_zero, List.set_cons_succ]
         refine take_lit (i := 18) (v := ?_) rfl (by kernel_rfl) (by kernel_rfl) (by kernel_rfl) (fun _ _ _ h => h) (Or.inl ⟨by rfl, ?hy18⟩) (by assumption) ?_
         case hy18 => (intro w hSw; (try dsimp only at hSw); go_simp; try with_reducible rfl)
         try simp only [Act.put, List.setIfInBounds_toArray, List.set_cons_zero, List.set_cons_succ]
         refine take_lit (i := 19) (v := ?_) rfl (by kernel_rfl) (by kernel_rfl) (by kernel_rfl) (fun _ _ _ h => h) (Or.inl ⟨by rfl, ?hy19⟩) (by assumption) ?_
         case hy19 => (intro w hSw; (try dsimp only at hSw); go_simp; try with_reducible rfl)
         try simp only [Act.put, List.setIfInBounds_toArray, List.set_cons_zero, List.set_cons_succ]
         refine wpAnyH_done (by kernel_rfl) ?_ _
         refine back_last (fun K hK => ?_)
         have A3 := HA1.out.below hb3
         have fz3 := World.ownsRow.frozenAt A3.own V
         have x3 := KK.2.2.2.2.2.1
         have HS5 := hideg (HA1.out.set hVn hb3 HB1.out.size ho3)
         have HB7 := hideg ((HB1.out.trans (hb3.mono HB1.out.size)).setCell (p := ⟨w.heap.size, V, none⟩) (Nat.le_refl _) (.slice a3 r3.length c3))
         have HI7 := hideg (HNX.out r3 hs3 (fun t' => by rw [ht3 t', ht2 t']))
         clear A3 KK ho3 hb3 hs3 ht3 HNX ho2 hb2 hs2 ht2 hpq
         go_simp
         refine hK.out _ _ (NoPanic.normal ?_)
         clear hK K
         go_wp2
         go_roundw
         case rel => exact ⟨k + 1, _, _, by omega, by go_num, HS5.out, HI7.out, HB7.out⟩
         case measure => simp [intOf]; omega
     · have HI2 : Hid (∀ v, v < n -> Sm (B + 1000) (H v) /\ ∀ t', tel (H v) t' = sndF N wk W ps (k + 1) v t') := fun v hv => ⟨(HI.out v hv).1, fun t' => by rw [(HI.out v hv).2 t', HST.out, if_neg (fun h => hm h.1)]⟩
       have dm : ((A : Int) % W == wk) = false := by simpa using hm
       clear hA HST HP
       go_wp2
       go_roundw
       case rel => exact ⟨k + 1, _, _, by omega, by go_num, HAA.out _, HI2.out, HBA.out _⟩
       case measure => simp [intOf]; omega
   · have hkL : k = L := by omega
     subst hkL
     clear hA hb
     go_wp2
     go_ret
     exact ⟨_, _, rfl, HA.out, HI.out, HB.out⟩
def newsC (c : Cl) : Bool := !c.2.2.2.1 || decide (c.2.2.2.2 < c.2.2.1)
def putC (r : List Cl) (t : Int) : Option Int := r.foldl (fun o c => if newsC c = true /\ c.1 <= t /\ t < c.2.1 then some c.2.2.2.2 else o) none
theorem putC_snoc (r : List Cl) (c : Cl) (t : Int) : putC (r ++ [c]) t = if newsC c = true /\ c.1 <= t /\ t < c.2.1 then some c.2.2.2.2 else putC r t := by
 unfold putC; rw [List.foldl_append]; rfl
theorem less_cell (m : List (Int × Int × Int)) (s s' v : Int) : lessF (tel m s) (some v) = if newsC (s, s', (tel m s).getD 0, (tel m s).isSome, v) = true then some v else none := by
 cases h : tel m s with
 | none => simp [lessF, newsC]
 | some x => simp [lessF, newsC]
theorem rising_getD {S : List Int} (hS : S.Pairwise (· < ·)) {j k : Nat} (h : j <= k) (hk : k < S.length) : S.getD j 0 <= S.getD k 0 := by
 rw [getD_get' (by omega : j < S.length), getD_get' hk]
 by_cases e : j = k
 · subst e; exact Int.le_refl _
 · have := List.pairwise_iff_getElem.1 hS j k (by omega) hk (by omega)
   omega
theorem putC_cells {m l : List (Int × Int × Int)} {S : List Int} (hS : S.Pairwise (· < ·)) (t : Int) : ∀ (i : Nat), i + 1 <= S.length \/ i = 0 -> putC (cellsTo m l 1 S i) t = mseg S (fun s => lessF (tel m s) (mix 1 l s)) i t
 | 0, _ => rfl
 | i + 1, hi => by
   have hi' : i + 1 < S.length := by omega
   have ih := putC_cells (m := m) (l := l) hS t i (by omega)
   rw [mseg_succ]
   cases hm : mix 1 l S[i] with
   | none =>
     rw [cellsTo_no (by omega) hm, ih, getD_get' (by omega : i < S.length), hm]
     have : lessF (tel m S[i]) none = none := rfl
     rw [this]; simp
   | some v =>
     rw [cellsTo_yes hi' hm, putC_snoc, ih, getD_get' (by omega : i < S.length), getD_get' hi', hm, less_cell m S[i] S[i + 1] v]
     by_cases hc : S[i] <= t /\ t < S[i + 1]
     · have hn : mseg S (fun s => lessF (tel m s) (mix 1 l s)) i t = none := mseg_none fun k hk hh => by
         have h1 := rising_getD hS (j := k + 1) (k := i) (by omega) (by omega)
         rw [getD_get' (by omega : i < S.length)] at h1
         omega
       rw [hn, if_pos hc]
       by_cases hw : newsC (S[i], S[i + 1], (tel m S[i]).getD 0, (tel m S[i]).isSome, v) = true
       · rw [if_pos ⟨hw, hc⟩, if_pos hw]; rfl
       · rw [if_neg (fun h => hw h.1), if_neg hw]; rfl
     · rw [if_neg (fun h => hc h.2), if_neg hc]; simp
theorem mix_map {how : Int} : ∀ {l : List (Int × Int × Int)}, MCan l -> ∀ t, mix how l t = tel l t := by
 intro l hl t
 have key : ∀ (l : List (Int × Int × Int)) (o : Option Int), MCan l -> (o.isSome = true -> ∀ p ∈ l, inP p t = false) -> l.foldl (fun o p => if inP p t then mixO how o p.2.2 else o) o = o.or (tel l t) := by
   intro l
   induction l with
   | nil => intro o _ _; simp [tel_nil]
   | cons p l ih =>
     intro o hc ho
     rw [List.foldl_cons, tel_cons]
     cases hp : inP p t with
     | true =>
       have : o = none := by
         cases o with
         | none => rfl
         | some x => have := ho rfl p (by simp); rw [hp] at this; cases this
       subst this
       rw [if_pos rfl, if_pos rfl, ih _ hc.2.2 (fun _ q hq => ?_)]
       · rfl
       · have h1 := mcan_low hc q hq
         unfold inP at hp ⊢
         simp at hp ⊢
         omega
     | false =>
       rw [if_neg (by simp), if_neg (by simp)]
       exact ih o hc.2.2 (fun h q hq => ho h q (by simp [hq]))
 have := key l none hl (fun h => by cases h)
 unfold mix
 rw [this]; rfl
theorem less_turns {m l : List (Int × Int × Int)} {S : List Int} (hm : ∀ x ∈ turnsOf m, x ∈ S) (hl : ∀ x ∈ turnsOf l, x ∈ S) : MTurns S (fun s => lessF (tel m s) (mix 1 l s)) := by
 have ML := mix_turns (how := 1) hl
 refine ⟨fun s t hst h => ?_, fun t h => ?_, fun t h => ?_⟩
 · show lessF _ _ = lessF _ _
   rw [tel_same hst fun x hx => h x (hm x hx), ML.same s t hst h]
 · show lessF _ _ = none
   rw [ML.low t h]; rfl
 · show lessF _ _ = none
   rw [ML.high t h]; rfl
theorem cells_less {m l : List (Int × Int × Int)} {B n : Int} {r : List Cl} (hm : Sm B m) (hl : Sm B l) (hB : B <= 1000000) (h : CellsAns m l 1 n r) : n = 0 /\ r.length <= 200 /\ (∀ c ∈ r, 0 <= c.1 /\ c.1 <= 100 /\ 0 <= c.2.1 /\ c.2.1 <= 100 /\ 0 <= c.2.2.2.2 /\ c.2.2.2.2 <= B) /\ ∀ t, putC r t = lessF (tel m t) (tel l t) := by
 have hgm : ∀ p ∈ l, GoodM p := fun p hp => by
   have h1 := (hl.of hB).near p hp
   have h2 := mcan_pos hl.canon p hp
   exact ⟨h1, h2⟩
 have hlc : cbChk l 1 = 0 := by
   unfold cbChk
   rw [lchk_ok (by have := hl.len hB; omega) hgm]
   rfl
 rcases h with ⟨e, _⟩ | ⟨_, e, _⟩ | ⟨_, _, S, hO, h⟩
 · exact absurd (hm.chk hB) e
 · exact absurd hlc e
 have hmem : ∀ c ∈ cellsTo m l 1 S (S.length - 1), 0 <= c.1 /\ c.1 <= 100 /\ 0 <= c.2.1 /\ c.2.1 <= 100 /\ 0 <= c.2.2.2.2 /\ c.2.2.2.2 <= B := by
   intro c hc
   obtain ⟨j, hj, _, v, hv, rfl⟩ := cellsTo_mem (by omega) hc
   rw [mix_map hl.canon] at hv
   have hS : ∀ x ∈ S, 0 <= x /\ x <= 100 := fun x hx => by
     rcases List.mem_append.1 ((hO.mem x).1 hx) with hx | hx
     · exact hm.turns hB x hx
     · exact hl.turns hB x hx
   have h1 := hS _ (List.getElem_mem (by omega : j < S.length))
   have h2 := hS _ (List.getElem_mem hj)
   have h3 := (hl.tel hv).1
   exact ⟨h1.1, h1.2, h2.1, h2.2, h3.1, h3.2⟩
 have hnear : ∀ c ∈ cellsTo m l 1 S (S.length - 1), nearB c.2.2.2.2 := fun c hc => by have := hmem c hc; unfold nearB; omega
 have hlen : (cellsTo m l 1 S (S.length - 1)).length <= 200 := by
   have h1 := cellsTo_len m l 1 S (S.length - 1)
   have h2 := rising_le hO.inc (T := T100) (fun x hx => mem_T100.2 (by
     rcases List.mem_append.1 ((hO.mem x).1 hx) with hx | hx
     · exact hm.turns hB x hx
     · exact hl.turns hB x hx))
   rw [T100_len] at h2
   omega
 rcases h with ⟨e, _⟩ | ⟨_, e, _⟩ | ⟨_, _, h1, h2⟩
 · exact absurd hnear e
 · omega
 · subst h2
   refine ⟨h1, hlen, hmem, fun t => ?_⟩
   rw [putC_cells hO.inc t _ (by omega), mseg_turns hO.inc (less_turns (fun x hx => (hO.mem x).2 (List.mem_append.2 (.inl hx))) (fun x hx => (hO.mem x).2 (List.mem_append.2 (.inr hx))))]
   show lessF _ _ = _
   rw [mix_map hl.canon]
set_option maxRecDepth 100000 in
set_option maxHeartbeats 8000000 in
theorem bsLess_any (to ho : Option Addr) (tc hc n : Nat) (T H : Nat -> List P3) (B : Int) (hB : B <= 1000000) (hn : n <= 12) (w : World) (hT : MsAt w to n T) (hH : MsAt w ho n H) (hTs : ∀ v, v < n -> Sm B (T v)) (hHs : ∀ v, v < n -> Sm B (H v)) :
   Calls Seq.prog 21 #[.slice to n tc, .slice ho n hc] w fun r w' => ∃ val N, r = .returned (.slice (some ⟨w.heap.size, 0, none⟩) n n) /\ AM w' w.heap.size w.heap.size n val N /\ (∀ v, v < n -> Sm B (N v) /\ ∀ t, tel (N v) t = lessF (tel (T v) t) (tel (H v) t)) /\ Below w.heap.size w w' := by
 obtain ⟨i1, hi', hy0, hy1, hy2⟩ := info_parts Tryz.infoPcs
 have HT := hideg hT
 have HH := hideg hH
 have HTs := hideg hTs
 have HHs := hideg hHs
 clear hT hH hTs hHs
 go_enter Seq.func21, Tryz.ntmps21
 go_wp2_with (at_make; refine wpList_make_full _ rfl _ _ 51 rfl w.heap.size 32 i1 (.slice none 0 0) 1 ((Seq.pu 51).trans Tryz.underlying51) hi' hy0 hy1 .i64 .i64 _ _ n rfl rfl rfl rfl (by rw [hy2]; omega) (by unfold maxLen; omega) (by simp) ?_; intro w0 hown0 hgrow0)
 have HA0 := hideg (am_start hown0)
 have HB0 : Hid (Below w.heap.size w w0) := (Below.refl w.heap.size w).grown hgrow0 (Nat.le_refl _) (fun k hk => by cases hk)
 clear hown0 hgrow0
 go_loopw [16] (fun i wr => ∃ (j : Nat) (val : Nat -> Value) (N : Nat -> List P3), j <= n /\ i = .int .i64 j /\ AM wr w.heap.size w.heap.size n val N /\ (∀ v, v < n -> Sm B (N v) /\ ∀ t, tel (N v) t = if v < j then lessF (tel (T v) t) (tel (H v) t) else none) /\ Below w.heap.size w wr) (fun i _ => n - (intOf i).toNat)
 case atStart => exact ⟨0, _, _, Nat.zero_le _, rfl, HA0.out, fun v hv => ⟨sm_nil B, fun t => rfl⟩, HB0.out⟩
 case round =>
   clear HA0 HB0
   obtain ⟨j, val0, N0, hj, rfl, hA, hI, hb⟩ := hrel
   by_cases hjlt : j < n
   · have hji : (j : Int) < (n : Int) := by omega
     obtain ⟨tb, tof, ta, tcc, rfl, htl, y0, pt⟩ := (HT.out.below hb).at1 hjlt
     obtain ⟨hbb, hof, hha, hcc, rfl, hhl, z0, ph⟩ := (HH.out.below hb).at1 hjlt
     have hl200 : (H j).length <= 200 := by have := (HHs.out j hjlt).len hB; omega
     have HA := hideg hA
     have HI := hideg hI
     have HB := hideg hb
     have hbd : Below wr.heap.size wr wr.drew := (Below.refl _ _).drew
     have HMs := hideg ((bsMessages_any hha hcc (H j) wr.drew (ph.below hbd) hl200).mono (R' := fun r w' => ∃ a c, r = .returned (.slice a (H j).length c) /\ PcAt w' a (H j) /\ Below wr.heap.size wr w') (by
       rintro e w' ⟨a, c, rfl, h1, h2⟩
       exact ⟨a, c, rfl, h1, hbd.trans h2⟩))
     have HCe : Hid (∀ (w2 : World) (a : Option Addr) (c : Nat), Below wr.heap.size wr w2 -> PcAt w2 a (H j) -> Calls Seq.prog 37 #[.slice ta (T j).length tcc, .slice a (H j).length c, .int .i64 1] w2 fun e w' => ∃ v r, e = .returned (.tuple #[v, .int .i64 0]) /\ r.length <= 200 /\ (∀ c ∈ r, 0 <= c.1 /\ c.1 <= 100 /\ 0 <= c.2.1 /\ c.2.1 <= 100 /\ 0 <= c.2.2.2.2 /\ c.2.2.2.2 <= B) /\ (∀ t, putC r t = lessF (tel (T j) t) (tel (H j) t)) /\ w'.ownsRow wr.heap.size 98 5 v r.length (encC r) /\ Below wr.heap.size wr w') := by
       intro w2 a c h2 hp
       refine (Cells_any ta a tcc c (T j) (H j) 1 w2 (pt.below h2) hp).mono ?_
       rintro e w' ⟨m, r, hO, v, rfl, ho, hb'⟩
       obtain ⟨rfl, g2, g3, g4⟩ := cells_less (HTs.out j hjlt) (HHs.out j hjlt) hB hO
       exact ⟨v, r, rfl, g2, g3, g4, owns_base2 ho h2.size, ptw h2 hb'⟩
     have HAfter : Hid (∀ w3, Below wr.heap.size wr w3 -> (w3.cell? ⟨tb, tof + j, none⟩ = some (.slice ta (T j).length tcc) /\ w3.cell? ⟨hbb, hof + j, none⟩ = some (.slice hha (H j).length hcc))) := fun w3 h3 =>
       ⟨(h3.cell (p := ⟨tb, tof + j, none⟩) htl).trans y0, (h3.cell (p := ⟨hbb, hof + j, none⟩) hhl).trans z0⟩
     have SS := HAfter.out _ hbd
     have lN := (hA.own.lt w.heap.size rfl).2
     clear hA hI hb y0 z0 pt ph hl200 hbd
     go_wp2_with fail
     refine wp_region_noPanic ?_
     refine wp_region_held_drew (S := fun w3 => w3.cell? ⟨tb, tof + j, none⟩ = some (.slice ta (T j).length tcc) /\ w3.cell? ⟨hbb, hof + j, none⟩ = some (.slice hha (H j).length hcc)) (by kernel_rfl) SS (fun hHeld => ?_)
     refine take_lit (i := 0) (v := ?_) rfl (by kernel_rfl) (by kernel_rfl) (by kernel_rfl) (fun _ _ _ h => h) (Or.inl ⟨by rfl, ?hy0⟩) (by assumption) ?_
     case hy0 => (intro w hSw; (try dsimp only at hSw); go_simp; try with_reducible rfl)
     try simp only [Act.put, List.setIfInBounds_toArray, List.set_cons_zero, List.set_cons_succ]
     refine take_lit (i := 1) (v := ?_) rfl (by kernel_rfl) (by kernel_rfl) (by kernel_rfl) (fun _ _ _ h => h) (Or.inl ⟨by rfl, ?hy1⟩) (by assumption) ?_
     case hy1 => (intro w hSw; (try dsimp only at hSw); go_simp; try with_reducible rfl)
     try simp only [Act.put, List.setIfInBounds_toArray, List.set_cons_zero, List.set_cons_succ]
     refine take_lit (i := 2) (v := ?_) rfl (by kernel_rfl) (by kernel_rfl) (by kernel_rfl) (fun _ _ _ h => h) (Or.inl ⟨by rfl, ?hy2⟩) (by assumption) ?_
     case hy2 => (intro w hSw; (try dsimp only at hSw); go_simp; try with_reducible rfl)
     try simp only [Act.put, List.setIfInBounds_toArray, List.set_cons_zero, List.set_cons_succ]
     refine take_lit (i := 3) (v := ?_) rfl (by kernel_rfl) (by kernel_rfl) (by kernel_rfl) (fun _ _ _ h => h) (Or.inl ⟨by rfl, ?hy3⟩) (by assumption) ?_
     case hy3 => (intro w hSw; (try dsimp only at hSw); go_simp; try with_reducible rfl)
     try simp only [Act.put, List.setIfInBounds_toArray, List.set_cons_zero, List.set_cons_succ]
     refine take_lit (i := 4) (v := ?_) rfl (by kernel_rfl) (by kernel_rfl) (by kernel_rfl) (fun _ _ _ h => h) (Or.inl ⟨by rfl, ?hy4⟩) (by assumption) ?_
     case hy4 => (intro w hSw; (try dsimp only at hSw); go_simp; try with_reducible rfl)
     try simp only [Act.put, List.setIfInBounds_toArray, List.set_cons_zero, List.set_cons_succ]
     refine take_lit (i := 5) (v := ?_) rfl (by kernel_rfl) (by kernel_rfl) (by kernel_rfl) (fun _ _ _ h => h) (Or.inl ⟨by rfl, ?hy5⟩) (by assumption) ?_
     case hy5 => (intro w hSw; (try dsimp only at hSw); go_simp; try with_reducible rfl)
     try simp only [Act.put, List.setIfInBounds_toArray, List.set_cons_zero, List.set_cons_succ]
     refine take_lit (i := 6) (v := ?_) rfl (by kernel_rfl) (by kernel_rfl) (by kernel_rfl) (fun _ _ _ h => h) (Or.inl ⟨by rfl, ?hy6⟩) (by assumption) ?_
     case hy6 => (intro w hSw; (try dsimp only at hSw); go_simp; try with_reducible rfl)
     try simp only [Act.put, List.setIfInBounds_toArray, List.set_cons_zero, List.set_cons_succ]
     refine take_lit (i := 7) (v := ?_) rfl (by kernel_rfl) (by kernel_rfl) (by kernel_rfl) (fun _ _ _ h => h) (Or.inl ⟨by rfl, ?hy7⟩) (by assumption) ?_
     case hy7 => (intro w hSw; (try dsimp only at hSw); go_simp; try with_reducible rfl)
     try simp only [Act.put, List.setIfInBounds_toArray, List.set_cons_zero, List.set_cons_succ]
     refine next_lit (i := 8) rfl (by kernel_rfl) (fun K hK => ?_)
     go_simp
     refine HMs.out.mono ?_
     rintro e w2 ⟨ma, mc, rfl, hpm, hb2⟩
     refine hK.out _ _ (HAfter.out w2 hb2) (fun hHeld => ?_)
     clear hK K hHeld
     try simp only [Act.put, List.setIfInBounds_toArray, List.set_cons_zero, List.set_cons_succ]
     refine next_lit (i := 9) rfl (by kernel_rfl) (fun K hK => ?_)
     go_simp
     refine (HCe.out w2 ma mc hb2 hpm).mono ?_
     rintro e w3 ⟨cv, r, rfl, hr200, hrc, hrp, hro, hb3⟩
     have KK := HAfter.out w3 hb3
     refine hK.out _ _ KK (fun hHeld => ?_)
     clear hK K hHeld
     try simp only [Act.put, List.setIfInBounds_toArray, List.set_cons_zero, List.set_cons_succ]
     refine take_lit (i := 10) (v := ?_) rfl (by kernel_rfl) (by kernel_rfl) (by kernel_rfl) (fun _ _ _ h => h) (Or.inl ⟨by rfl, ?hy10⟩) (by assumption) ?_
     case hy10 => (intro w hSw; (try dsimp only at hSw); go_simp; try with_reducible rfl)
     try simp only [Act.put, List.setIfInBounds_toArray, List.set_cons_zero, List.set_cons_succ]
     refine take_lit (i := 11) (v := ?_) rfl (by kernel_rfl) (by kernel_rfl) (by kernel_rfl) (fun _ _ _ h => h) (Or.inl ⟨by rfl, ?hy11⟩) (by assumption) ?_
     case hy11 => (intro w hSw; (try dsimp only at hSw); go_simp; try with_reducible rfl)
     try simp only [Act.put, List.setIfInBounds_toArray, List.set_cons_zero, List.set_cons_succ]
     refine take_lit (i := 12) (v := ?_) rfl (by kernel_rfl) (by kernel_rfl) (by kernel_rfl) (fun _ _ _ h => h) (Or.inl ⟨by rfl, ?hy12⟩) (by assumption) ?_
     case hy12 => (intro w hSw; (try dsimp only at hSw); go_simp; try with_reducible rfl)
     try simp only [Act.put, List.setIfInBounds_toArray, List.set_cons_zero, List.set_cons_succ]
     refine take_lit (i := 13) (v := ?_) rfl (by kernel_rfl) (by kernel_rfl) (by kernel_rfl) (fun _ _ _ h => h) (Or.inl ⟨by rfl, ?hy13⟩) (by assumption) ?_
     case hy13 => (intro w hSw; (try dsimp only at hSw); go_simp; try with_reducible rfl)
     try simp only [Act.put, List.setIfInBounds_toArray, List.set_cons_zero, List.set_cons_succ]
     refine take_lit (i := 14) (v := ?_) rfl (by kernel_rfl) (by kernel_rfl) (by kernel_rfl) (fun _ _ _ h => h) (Or.inl ⟨by rfl, ?hy14⟩) (by assumption) ?_
     case hy14 => (intro w hSw; (try dsimp only at hSw); go_simp; try with_reducible rfl)
     try simp only [Act.put, List.setIfInBounds_toArray, List.set_cons_zero, List.set_cons_succ]
     refine wpAnyH_done (by kernel_rfl) ?_ _
     refine NoPanic.normal ?_
     obtain ⟨ca, cc, rfl, _⟩ := ceAt_of_owns hro
     have HA3 := hideg (HA.out.below hb3)
     have HB3 := hideg (HB.out.trans (hb3.mono HB.out.size))
     have HRC := hideg hrc
     have HRP := hideg hrp
     obtain ⟨L, hL⟩ : ∃ L, L = r.length := ⟨_, rfl⟩
     have HL := hideg hL
     rw [<- hL] at hro hr200 ⊢
     have HRO := hideg (owns_base2 hro (show w.heap.size + 1 <= wr.heap.size by omega))
     clear hL hro hrc hrp hb3 hb2 hpm KK HA HB HMs HCe HAfter SS lN
     go_wp2_with fail
     go_loopw [34] (fun i wq => ∃ (k : Nat) (val : Nat -> Value) (N : Nat -> List P3), k <= L /\ i = .int .i64 k /\ AM wq w.heap.size w.heap.size n val N /\ (∀ v, v < n -> Sm B (N v) /\ ∀ t, tel (N v) t = if v < j then lessF (tel (T v) t) (tel (H v) t) else if v = j then putC (r.take k) t else none) /\ Below w.heap.size w wq /\ wq.ownsRow (w.heap.size + 1) 98 5 (.slice ca L cc) L (encC r)) (fun i _ => L - (intOf i).toNat)
     case atStart => exact ⟨0, _, _, Nat.zero_le _, rfl, HA3.out, fun v hv => ⟨(HI.out v hv).1, fun t => by rw [(HI.out v hv).2 t, List.take_zero]; simp [putC]⟩, HB3.out, HRO.out⟩
     case round =>
       clear HA3 HB3 HI HRO
       obtain ⟨k, va, N, hk, rfl, hA, hI, hb, hro⟩ := hrel
       have HA := hideg hA
       have HI := hideg hI
       have HB := hideg hb
       have HRO := hideg hro
       clear hI
       by_cases hlt : k < L
       · have hki : (k : Int) < (L : Int) := by omega
         have hlt2 : k < r.length := by rw [<- HL.out]; exact hlt
         obtain ⟨ao, cp, e, hce⟩ := ceAt_of_owns hro
         simp only [Value.slice.injEq] at e
         obtain ⟨rfl, hLL, rfl⟩ := e
         clear hLL
         rcases hce with h0 | ⟨cb, cof, rfl, hcl, hcs⟩
         · rw [h0] at hlt2; simp at hlt2
         obtain ⟨c0, c1, c2, c3, c4⟩ := CeAt.get hlt2 hcs
         have hg := HRC.out _ (List.getElem_mem hlt2)
         have HTK : Hid (∀ t, putC (r.take (k + 1)) t = if newsC r[k] = true /\ r[k].1 <= t /\ t < r[k].2.1 then some r[k].2.2.2.2 else putC (r.take k) t) := fun t => by
           have : r.take (k + 1) = r.take k ++ [r[k]] := by rw [List.take_add_one]; simp [hlt2]
           rw [this, putC_snoc]
         clear hcs
         generalize r[k] = c at *
         obtain ⟨cf, ct, cst, chas, cval⟩ := c
         simp only at hg c0 c1 c2 c3 c4
         have HBA : Hid (∀ o, Below w.heap.size w (wr.alloc o)) := fun o => HB.out.alloc HB.out.size o
         have HAA : Hid (∀ o, AM (wr.alloc o) w.heap.size w.heap.size n va N) := fun o => HA.out.below (pal wr o)
         have HRA : Hid (∀ o, (wr.alloc o).ownsRow (w.heap.size + 1) 98 5 (.slice (some ⟨cb, cof, none⟩) L cc) L (encC r)) := fun o => HRO.out.alloc o
         by_cases hw : newsC (cf, ct, cst, chas, cval) = true
         · have HNX : Hid (∀ r3 : List P3, Sm B r3 -> (∀ t, tel r3 t = putF (N j) (cf, ct, cval) t) -> ∀ v, v < n -> Sm B (updF N j r3 v) /\ ∀ t, tel (updF N j r3 v) t = if v < j then lessF (tel (T v) t) (tel (H v) t) else if v = j then putC (r.take (k + 1)) t else none) := by
             intro r3 hs3 ht3 v hv
             by_cases e : v = j
             · subst e
               rw [updF_same]
               refine ⟨hs3, fun t => ?_⟩
               rw [ht3 t, if_neg (by omega), if_pos rfl, HTK.out]
               show (if (decide (cf <= t) && decide (t < ct)) = true then some cval else tel (N v) t) = if newsC (cf, ct, cst, chas, cval) = true /\ cf <= t /\ t < ct then some cval else putC (r.take k) t
               by_cases hc : cf <= t /\ t < ct
               · rw [if_pos (by simp; omega), if_pos ⟨hw, hc⟩]
               · rw [if_neg (by simp; omega), if_neg (fun h => hc h.2), (HI.out v hv).2 t, if_neg (by omega), if_pos rfl]
             · rw [updF_far _ _ e]
               refine ⟨(HI.out v hv).1, fun t => ?_⟩
               rw [(HI.out v hv).2 t, if_neg e, if_neg e]
           have hcase : chas = false \/ (chas = true /\ cval < cst) := by
             unfold newsC at hw
             cases chas <;> simp at hw ⊢
             exact hw
           obtain ⟨o1, ho1⟩ : ∃ o, o = Obj.cells #[.int .i64 cf, .int .i64 ct, .int .i64 cst, .bool chas, .int .i64 cval] 98 := ⟨_, rfl⟩
           have hA1 := HAA.out o1
           have hB1 := HBA.out o1
           have hR1 := HRA.out o1
           obtain ⟨a1, cc1, ev, p1⟩ := pcAt_of_owns (hA1.inn j hjlt)
           have x1 := hA1.out hjlt
           rw [ev] at x1
           obtain ⟨w1, hw1⟩ : ∃ x, x = wr.alloc o1 := ⟨_, rfl⟩
           rw [<- hw1] at hA1 hB1 p1 x1 hR1
           have hbd : Below w1.heap.size w1 w1.drew := (Below.refl _ _).drew
           have HPu : Hid (Calls Seq.prog 39 #[.slice a1 (N j).length cc1, .agg #[.int .i64 cf, .int .i64 ct, .int .i64 cval]] w1.drew fun e w' => ∃ v q, e = .returned (.tuple #[v, .int .i64 0]) /\ Sm B q /\ (∀ t, tel q t = putF (N j) (cf, ct, cval) t) /\ w'.ownsRow w1.heap.size 35 3 v q.length (enc3 q) /\ Below w1.heap.size w1 w') := by
             refine (Put_any a1 cc1 (N j) (cf, ct, cval) w1.drew (p1.below hbd)).mono ?_
             rintro e w' ⟨m, q, hO, v, rfl, ho, hb'⟩
             obtain ⟨rfl, g2, g3⟩ := sm_put (HI.out j hjlt).1 (by simp only; omega) (by simp only; omega) hB hO
             exact ⟨v, q, rfl, g2, g3, ho, hbd.trans hb'⟩
           have l1 := (hA1.own.lt w.heap.size rfl).2
           have z1 : w1.heap.size = wr.heap.size + 1 := by rw [hw1]; simp
           have HAfter : Hid (∀ w3, Below w1.heap.size w1 w3 -> (w3.cell? ⟨wr.heap.size, 0, none⟩ = some (.int .i64 cf) /\ w3.cell? ⟨wr.heap.size, 1, none⟩ = some (.int .i64 ct) /\ w3.cell? ⟨wr.heap.size, 4, none⟩ = some (.int .i64 cval) /\ w3.cell? ⟨w.heap.size, j, none⟩ = some (.slice a1 (N j).length cc1))) := fun w3 h3 =>
             ⟨(h3.cell (p := ⟨wr.heap.size, 0, none⟩) (by simp only; omega)).trans (by rw [hw1, ho1]; simp), (h3.cell (p := ⟨wr.heap.size, 1, none⟩) (by simp only; omega)).trans (by rw [hw1, ho1]; simp), (h3.cell (p := ⟨wr.heap.size, 4, none⟩) (by simp only; omega)).trans (by rw [hw1, ho1]; simp), (h3.cell (p := ⟨w.heap.size, j, none⟩) l1).trans x1⟩
           have SS := HAfter.out _ hbd
           have HA1 := hideg hA1
           have HB1 := hideg hB1
           have HR1 := hideg hR1
           subst ho1
           clear hA hb hro hA1 hB1 hR1 p1 ev x1 hbd HAA HBA HRA HTK z1 hw hg HRO hlt2
           subst hw1
           rcases hcase with rfl | ⟨rfl, hlc⟩
           · go_wp2_with fail
             refine wp_region_backX 16 (S := fun w3 => w3.cell? ⟨wr.heap.size, 0, none⟩ = some (.int .i64 cf) /\ w3.cell? ⟨wr.heap.size, 1, none⟩ = some (.int .i64 ct) /\ w3.cell? ⟨wr.heap.size, 4, none⟩ = some (.int .i64 cval) /\ w3.cell? ⟨w.heap.size, j, none⟩ = some (.slice a1 (N j).length cc1)) (by kernel_rfl) (by simp) (by kernel_rfl) (by kernel_rfl) (by kernel_rfl) (by kernel_rfl) SS (fun hHeld => ?_)
             simp only [List.pop_toArray, List.dropLast, List.back!_toArray, List.getLast!]
             refine take_lit (i := 0) (v := ?_) rfl (by kernel_rfl) (by kernel_rfl) (by kernel_rfl) (fun _ _ _ h => h) (Or.inl ⟨by rfl, ?hy0⟩) (by assumption) ?_
             case hy0 => (intro w hSw; (try dsimp only at hSw); go_simp; try with_reducible rfl)
             try simp only [Act.put, List.setIfInBounds_toArray, List.set_cons_zero, List.set_cons_succ]
             refine take_lit (i := 1) (v := ?_) rfl (by kernel_rfl) (by kernel_rfl) (by kernel_rfl) (fun _ _ _ h => h) (Or.inl ⟨by rfl, ?hy1⟩) (by assumption) ?_
             case hy1 => (intro w hSw; (try dsimp only at hSw); go_simp; try with_reducible rfl)
             try simp only [Act.put, List.setIfInBounds_toArray, List.set_cons_zero, List.set_cons_succ]
             refine take_lit (i := 2) (v := ?_) rfl (by kernel_rfl) (by kernel_rfl) (by kernel_rfl) (fun _ _ _ h => h) (Or.inl ⟨by rfl, ?hy2⟩) (by assumption) ?_
             case hy2 => (intro w hSw; (try dsimp only at hSw); go_simp; try with_reducible rfl)
             try simp only [Act.put, List.setIfInBounds_toArray, List.set_cons_zero, List.set_cons_succ]
             refine take_lit (i := 3) (v := ?_) rfl (by kernel_rfl) (by kernel_rfl) (by kernel_rfl) (fun _ _ _ h => h) (Or.inl ⟨by rfl, ?hy3⟩) (by assumption) ?_
             case hy3 => (intro w hSw; (try dsimp only at hSw); go_simp; try with_reducible rfl)
             try simp only [Act.put, List.setIfInBounds_toArray, List.set_cons_zero, List.set_cons_succ]
             refine take_lit (i := 4) (v := ?_) rfl (by kernel_rfl) (by kernel_rfl) (by kernel_rfl) (fun _ _ _ h => h) (Or.inl ⟨by rfl, ?hy4⟩) (by assumption) ?_
             case hy4 => (intro w hSw; (try dsimp only at hSw); go_simp; try with_reducible rfl)
             try simp only [Act.put, List.setIfInBounds_toArray, List.set_cons_zero, List.set_cons_succ]
             refine take_lit (i := 5) (v := ?_) rfl (by kernel_rfl) (by kernel_rfl) (by kernel_rfl) (fun _ _ _ h => h) (Or.inl ⟨by rfl, ?hy5⟩) (by assumption) ?_
             case hy5 => (intro w hSw; (try dsimp only at hSw); go_simp; try with_reducible rfl)
             try simp only [Act.put, List.setIfInBounds_toArray, List.set_cons_zero, List.set_cons_succ]
             refine take_lit (i := 6) (v := ?_) rfl (by kernel_rfl) (by kernel_rfl) (by kernel_rfl) (fun _ _ _ h => h) (Or.inl ⟨by rfl, ?hy6⟩) (by assumption) ?_
             case hy6 => (intro w hSw; (try dsimp only at hSw); go_simp; try with_reducible rfl)
             try simp only [Act.put, List.setIfInBounds_toArray, List.set_cons_zero, List.set_cons_succ]
             refine take_lit (i := 7) (v := ?_) rfl (by kernel_rfl) (by kernel_rfl) (by kernel_rfl) (fun _ _ _ h => h) (Or.inl ⟨by rfl, ?hy7⟩) (by assumption) ?_
             case hy7 => (intro w hSw; (try dsimp only at hSw); go_simp; try with_reducible rfl)
             try simp only [Act.put, List.setIfInBounds_toArray, List.set_cons_zero, List.set_cons_succ]
             refine take_lit (i := 8) (v := ?_) rfl (by kernel_rfl) (by kernel_rfl) (by kernel_rfl) (fun _ _ _ h => h) (Or.inl ⟨by rfl, ?hy8⟩) (by assumption) ?_
             case hy8 => (intro w hSw; (try dsimp only at hSw); go_simp; try with_reducible rfl)
             try simp only [Act.put, List.setIfInBounds_toArray, List.set_cons_zero, List.set_cons_succ]
             refine take_lit (i := 9) (v := ?_) rfl (by kernel_rfl) (by kernel_rfl) (by kernel_rfl) (fun _ _ _ h => h) (Or.inl ⟨by rfl, ?hy9⟩) (by assumption) ?_
             case hy9 => (intro w hSw; (try dsimp only at hSw); go_simp; try with_reducible rfl)
             try simp only [Act.put, List.setIfInBounds_toArray, List.set_cons_zero, List.set_cons_succ]
             refine take_lit (i := 10) (v := ?_) rfl (by kernel_rfl) (by kernel_rfl) (by kernel_rfl) (fun _ _ _ h => h) (Or.inl ⟨by rfl, ?hy10⟩) (by assumption) ?_
             case hy10 => (intro w hSw; (try dsimp only at hSw); go_simp; try with_reducible rfl)
             try simp only [Act.put, List.setIfInBounds_toArray, List.set_cons_zero, List.set_cons_succ]
             refine take_lit (i := 11) (v := ?_) rfl (by kernel_rfl) (by kernel_rfl) (by kernel_rfl) (fun _ _ _ h => h) (Or.inl ⟨by rfl, ?hy11⟩) (by assumption) ?_
             case hy11 => (intro w hSw; (try dsimp only at hSw); go_simp; try with_reducible rfl)
             try simp only [Act.put, List.setIfInBounds_toArray, List.set_cons_zero, List.set_cons_succ]
             refine take_lit (i := 12) (v := ?_) rfl (by kernel_rfl) (by kernel_rfl) (by kernel_rfl) (fun _ _ _ h => h) (Or.inl ⟨by rfl, ?hy12⟩) (by assumption) ?_
             case hy12 => (intro w hSw; (try dsimp only at hSw); go_simp; try with_reducible rfl)
             try simp only [Act.put, List.setIfInBounds_toArray, List.set_cons_zero, List.set_cons_succ]
             refine next_lit (i := 13) rfl (by kernel_rfl) (fun K hK => ?_)
             go_simp
             refine HPu.out.mono ?_
             rintro e w3 ⟨v3, r3, rfl, hs3, ht3, ho3, hb3⟩
             obtain ⟨a3, c3, rfl, _⟩ := pcAt_of_owns ho3
             have KK := HAfter.out w3 hb3
             refine hK.out _ _ KK (fun hHeld => ?_)
             clear hK K hHeld
             try simp only [Act.put, List.setIfInBounds_toArray, List.set_cons_zero, List.set_cons_succ]
             refine take_lit (i := 14) (v := ?_) rfl (by kernel_rfl) (by kernel_rfl) (by kernel_rfl) (fun _ _ _ h => h) (Or.inl ⟨by rfl, ?hy14⟩) (by assumption) ?_
             case hy14 => (intro w hSw; (try dsimp only at hSw); go_simp; try with_reducible rfl)
             try simp only [Act.put, List.setIfInBounds_toArray, List.set_cons_zero, List.set_cons_succ]
             refine take_lit (i := 15) (v := ?_) rfl (by kernel_rfl) (by kernel_rfl) (by kernel_rfl) (fun _ _ _ h => h) (Or.inl ⟨by rfl, ?hy15⟩) (by assumption) ?_
             case hy15 => (intro w hSw; (try dsimp only at hSw); go_simp; try with_reducible rfl)
             try simp only [Act.put, List.setIfInBounds_toArray, List.set_cons_zero, List.set_cons_succ]
             refine take_lit (i := 16) (v := ?_) rfl (by kernel_rfl) (by kernel_rfl) (by kernel_rfl) (fun _ _ _ h => h) (Or.inl ⟨by rfl, ?hy16⟩) (by assumption) ?_
             case hy16 => (intro w hSw; (try dsimp only at hSw); go_simp; try with_reducible rfl)
             try simp only [Act.put, List.setIfInBounds_toArray, List.set_cons_zero, List.set_cons_succ]
             refine take_lit (i := 17) (v := ?_) rfl (by kernel_rfl) (by kernel_rfl) (by kernel_rfl) (fun _ _ _ h => h) (Or.inl ⟨by rfl, ?hy17⟩) (by assumption) ?_
             case hy17 => (intro w hSw; (try dsimp only at hSw); go_simp; try with_reducible rfl)
             try simp only [Act.put, List.setIfInBounds_toArray, List.set_cons_zero, List.set_cons_succ]
             refine wpAnyH_done (by kernel_rfl) ?_ _
             refine back_last (fun K hK => ?_)
             have A3 := HA1.out.below hb3
             have fz3 := World.ownsRow.frozenAt A3.own j
             have x3 := KK.2.2.2
             have HS5 := hideg (HA1.out.set hjlt hb3 HB1.out.size ho3)
             have HB7 := hideg ((HB1.out.trans (hb3.mono HB1.out.size)).setCell (p := ⟨w.heap.size, j, none⟩) (Nat.le_refl _) (.slice a3 r3.length c3))
             have HI7 := hideg (HNX.out r3 hs3 ht3)
             have HR7 := hideg (ownsRow_setBox (j := j) (u := .slice a3 r3.length c3) (ownsRow_below HR1.out hb3) (show (Value.slice (some ⟨cb, cof, none⟩) L cc).ownBlock ≠ some w.heap.size from fun e => by have := (HR1.out.lt _ e).1; omega))
             clear A3 KK ho3 hb3 hs3 ht3 HNX
             go_simp
             refine hK.out _ _ (NoPanic.normal ?_)
             clear hK K
             go_wp2
             go_roundw
             case rel => exact ⟨k + 1, _, _, by omega, by go_num, HS5.out, HI7.out, HB7.out, HR7.out⟩
             case measure => simp [intOf]; omega
           · go_wp2_with fail
             refine wp_region_backX 16 (S := fun w3 => w3.cell? ⟨wr.heap.size, 0, none⟩ = some (.int .i64 cf) /\ w3.cell? ⟨wr.heap.size, 1, none⟩ = some (.int .i64 ct) /\ w3.cell? ⟨wr.heap.size, 4, none⟩ = some (.int .i64 cval) /\ w3.cell? ⟨w.heap.size, j, none⟩ = some (.slice a1 (N j).length cc1)) (by kernel_rfl) (by simp) (by kernel_rfl) (by kernel_rfl) (by kernel_rfl) (by kernel_rfl) SS (fun hHeld => ?_)
             simp only [List.pop_toArray, List.dropLast, List.back!_toArray, List.getLast!]
             refine take_lit (i := 0) (v := ?_) rfl (by kernel_rfl) (by kernel_rfl) (by kernel_rfl) (fun _ _ _ h => h) (Or.inl ⟨by rfl, ?hy0⟩) (by assumption) ?_
             case hy0 => (intro w hSw; (try dsimp only at hSw); go_simp; try with_reducible rfl)
             try simp only [Act.put, List.setIfInBounds_toArray, List.set_cons_zero, List.set_cons_succ]
             refine take_lit (i := 1) (v := ?_) rfl (by kernel_rfl) (by kernel_rfl) (by kernel_rfl) (fun _ _ _ h => h) (Or.inl ⟨by rfl, ?hy1⟩) (by assumption) ?_
             case hy1 => (intro w hSw; (try dsimp only at hSw); go_simp; try with_reducible rfl)
             try simp only [Act.put, List.setIfInBounds_toArray, List.set_cons_zero, List.set_cons_succ]
             refine take_lit (i := 2) (v := ?_) rfl (by kernel_rfl) (by kernel_rfl) (by kernel_rfl) (fun _ _ _ h => h) (Or.inl ⟨by rfl, ?hy2⟩) (by assumption) ?_
             case hy2 => (intro w hSw; (try dsimp only at hSw); go_simp; try with_reducible rfl)
             try simp only [Act.put, List.setIfInBounds_toArray, List.set_cons_zero, List.set_cons_succ]
             refine take_lit (i := 3) (v := ?_) rfl (by kernel_rfl) (by kernel_rfl) (by kernel_rfl) (fun _ _ _ h => h) (Or.inl ⟨by rfl, ?hy3⟩) (by assumption) ?_
             case hy3 => (intro w hSw; (try dsimp only at hSw); go_simp; try with_reducible rfl)
             try simp only [Act.put, List.setIfInBounds_toArray, List.set_cons_zero, List.set_cons_succ]
             refine take_lit (i := 4) (v := ?_) rfl (by kernel_rfl) (by kernel_rfl) (by kernel_rfl) (fun _ _ _ h => h) (Or.inl ⟨by rfl, ?hy4⟩) (by assumption) ?_
             case hy4 => (intro w hSw; (try dsimp only at hSw); go_simp; try with_reducible rfl)
             try simp only [Act.put, List.setIfInBounds_toArray, List.set_cons_zero, List.set_cons_succ]
             refine take_lit (i := 5) (v := ?_) rfl (by kernel_rfl) (by kernel_rfl) (by kernel_rfl) (fun _ _ _ h => h) (Or.inl ⟨by rfl, ?hy5⟩) (by assumption) ?_
             case hy5 => (intro w hSw; (try dsimp only at hSw); go_simp; try with_reducible rfl)
             try simp only [Act.put, List.setIfInBounds_toArray, List.set_cons_zero, List.set_cons_succ]
             refine take_lit (i := 6) (v := ?_) rfl (by kernel_rfl) (by kernel_rfl) (by kernel_rfl) (fun _ _ _ h => h) (Or.inl ⟨by rfl, ?hy6⟩) (by assumption) ?_
             case hy6 => (intro w hSw; (try dsimp only at hSw); go_simp; try with_reducible rfl)
             try simp only [Act.put, List.setIfInBounds_toArray, List.set_cons_zero, List.set_cons_succ]
             refine take_lit (i := 7) (v := ?_) rfl (by kernel_rfl) (by kernel_rfl) (by kernel_rfl) (fun _ _ _ h => h) (Or.inl ⟨by rfl, ?hy7⟩) (by assumption) ?_
             case hy7 => (intro w hSw; (try dsimp only at hSw); go_simp; try with_reducible rfl)
             try simp only [Act.put, List.setIfInBounds_toArray, List.set_cons_zero, List.set_cons_succ]
             refine take_lit (i := 8) (v := ?_) rfl (by kernel_rfl) (by kernel_rfl) (by kernel_rfl) (fun _ _ _ h => h) (Or.inl ⟨by rfl, ?hy8⟩) (by assumption) ?_
             case hy8 => (intro w hSw; (try dsimp only at hSw); go_simp; try with_reducible rfl)
             try simp only [Act.put, List.setIfInBounds_toArray, List.set_cons_zero, List.set_cons_succ]
             refine take_lit (i := 9) (v := ?_) rfl (by kernel_rfl) (by kernel_rfl) (by kernel_rfl) (fun _ _ _ h => h) (Or.inl ⟨by rfl, ?hy9⟩) (by assumption) ?_
             case hy9 => (intro w hSw; (try dsimp only at hSw); go_simp; try with_reducible rfl)
             try simp only [Act.put, List.setIfInBounds_toArray, List.set_cons_zero, List.set_cons_succ]
             refine take_lit (i := 10) (v := ?_) rfl (by kernel_rfl) (by kernel_rfl) (by kernel_rfl) (fun _ _ _ h => h) (Or.inl ⟨by rfl, ?hy10⟩) (by assumption) ?_
             case hy10 => (intro w hSw; (try dsimp only at hSw); go_simp; try with_reducible rfl)
             try simp only [Act.put, List.setIfInBounds_toArray, List.set_cons_zero, List.set_cons_succ]
             refine take_lit (i := 11) (v := ?_) rfl (by kernel_rfl) (by kernel_rfl) (by kernel_rfl) (fun _ _ _ h => h) (Or.inl ⟨by rfl, ?hy11⟩) (by assumption) ?_
             case hy11 => (intro w hSw; (try dsimp only at hSw); go_simp; try with_reducible rfl)
             try simp only [Act.put, List.setIfInBounds_toArray, List.set_cons_zero, List.set_cons_succ]
             refine take_lit (i := 12) (v := ?_) rfl (by kernel_rfl) (by kernel_rfl) (by kernel_rfl) (fun _ _ _ h => h) (Or.inl ⟨by rfl, ?hy12⟩) (by assumption) ?_
             case hy12 => (intro w hSw; (try dsimp only at hSw); go_simp; try with_reducible rfl)
             try simp only [Act.put, List.setIfInBounds_toArray, List.set_cons_zero, List.set_cons_succ]
             refine next_lit (i := 13) rfl (by kernel_rfl) (fun K hK => ?_)
             go_simp
             refine HPu.out.mono ?_
             rintro e w3 ⟨v3, r3, rfl, hs3, ht3, ho3, hb3⟩
             obtain ⟨a3, c3, rfl, _⟩ := pcAt_of_owns ho3
             have KK := HAfter.out w3 hb3
             refine hK.out _ _ KK (fun hHeld => ?_)
             clear hK K hHeld
             try simp only [Act.put, List.setIfInBounds_toArray, List.set_cons_zero, List.set_cons_succ]
             refine take_lit (i := 14) (v := ?_) rfl (by kernel_rfl) (by kernel_rfl) (by kernel_rfl) (fun _ _ _ h => h) (Or.inl ⟨by rfl, ?hy14⟩) (by assumption) ?_
             case hy14 => (intro w hSw; (try dsimp only at hSw); go_simp; try with_reducible rfl)
             try simp only [Act.put, List.setIfInBounds_toArray, List.set_cons_zero, List.set_cons_succ]
             refine take_lit (i := 15) (v := ?_) rfl (by kernel_rfl) (by kernel_rfl) (by kernel_rfl) (fun _ _ _ h => h) (Or.inl ⟨by rfl, ?hy15⟩) (by assumption) ?_
             case hy15 => (intro w hSw; (try dsimp only at hSw); go_simp; try with_reducible rfl)
             try simp only [Act.put, List.setIfInBounds_toArray, List.set_cons_zero, List.set_cons_succ]
             refine take_lit (i := 16) (v := ?_) rfl (by kernel_rfl) (by kernel_rfl) (by kernel_rfl) (fun _ _ _ h => h) (Or.inl ⟨by rfl, ?hy16⟩) (by assumption) ?_
             case hy16 => (intro w hSw; (try dsimp only at hSw); go_simp; try with_reducible rfl)
             try simp only [Act.put, List.setIfInBounds_toArray, List.set_cons_zero, List.set_cons_succ]
             refine take_lit (i := 17) (v := ?_) rfl (by kernel_rfl) (by kernel_rfl) (by kernel_rfl) (fun _ _ _ h => h) (Or.inl ⟨by rfl, ?hy17⟩) (by assumption) ?_
             case hy17 => (intro w hSw; (try dsimp only at hSw); go_simp; try with_reducible rfl)
             try simp only [Act.put, List.setIfInBounds_toArray, List.set_cons_zero, List.set_cons_succ]
             refine wpAnyH_done (by kernel_rfl) ?_ _
             refine back_last (fun K hK => ?_)
             have A3 := HA1.out.below hb3
             have fz3 := World.ownsRow.frozenAt A3.own j
             have x3 := KK.2.2.2
             have HS5 := hideg (HA1.out.set hjlt hb3 HB1.out.size ho3)
             have HB7 := hideg ((HB1.out.trans (hb3.mono HB1.out.size)).setCell (p := ⟨w.heap.size, j, none⟩) (Nat.le_refl _) (.slice a3 r3.length c3))
             have HI7 := hideg (HNX.out r3 hs3 ht3)
             have HR7 := hideg (ownsRow_setBox (j := j) (u := .slice a3 r3.length c3) (ownsRow_below HR1.out hb3) (show (Value.slice (some ⟨cb, cof, none⟩) L cc).ownBlock ≠ some w.heap.size from fun e => by have := (HR1.out.lt _ e).1; omega))
             clear A3 KK ho3 hb3 hs3 ht3 HNX
             go_simp
             refine hK.out _ _ (NoPanic.normal ?_)
             clear hK K
             go_wp2
             go_roundw
             case rel => exact ⟨k + 1, _, _, by omega, by go_num, HS5.out, HI7.out, HB7.out, HR7.out⟩
             case measure => simp [intOf]; omega
         · have hcase : chas = true /\ ¬ cval < cst := by
             unfold newsC at hw
             cases chas <;> simp at hw ⊢
             exact hw
           obtain ⟨rfl, hge⟩ := hcase
           have HI2 : Hid (∀ v, v < n -> Sm B (N v) /\ ∀ t, tel (N v) t = if v < j then lessF (tel (T v) t) (tel (H v) t) else if v = j then putC (r.take (k + 1)) t else none) := fun v hv => ⟨(HI.out v hv).1, fun t => by
             have e := HTK.out t
             rw [if_neg (fun h => hw h.1)] at e
             rw [(HI.out v hv).2 t, e]⟩
           clear hA hb hro hw HTK hlt2
           go_wp2
           go_roundw
           case rel => exact ⟨k + 1, _, _, by omega, by go_num, HAA.out _, HI2.out, HBA.out _, HRA.out _⟩
           case measure => simp [intOf]; omega
       · have hkL : k = L := by omega
         have HI2 : Hid (∀ v, v < n -> Sm B (N v) /\ ∀ t, tel (N v) t = if v < j + 1 then lessF (tel (T v) t) (tel (H v) t) else none) := fun v hv => ⟨(HI.out v hv).1, fun t => by
           rw [(HI.out v hv).2 t]
           by_cases e : v = j
           · subst e
             rw [if_neg (by omega), if_pos rfl, if_pos (by omega), List.take_of_length_le (by rw [<- HL.out]; omega), HRP.out]
           · by_cases h : v < j
             · rw [if_pos h, if_pos (by omega)]
             · rw [if_neg h, if_neg e, if_neg (by omega)]⟩
         subst hkL
         clear hA hb hro
         go_wp2
         go_roundw
         case rel => exact ⟨j + 1, _, _, by omega, by go_num, HA.out, HI2.out, HB.out⟩
         case measure => simp [intOf]; omega
   · have hjn : j = n := by omega
     subst hjn
     have HA := hideg hA
     have HB := hideg hb
     have HI : Hid (∀ v, v < j -> Sm B (N0 v) /\ ∀ t, tel (N0 v) t = lessF (tel (T v) t) (tel (H v) t)) := fun v hv => ⟨(hI v hv).1, fun t => by rw [(hI v hv).2 t, if_pos hv]⟩
     clear hA hb hI
     go_wp2
     go_ret
     exact ⟨_, _, rfl, HA.out, HI.out, HB.out⟩
end Go.Proofs.YtkgbgkcbflicmabGreat.Q
namespace Go.Proofs.YtkgbgkcbflicmabGreat
namespace Crw
open Go.Conc Sim Go.RowKit
def WpF (P : Program) (f : FuncId) (c : Code) (Q : Exit -> Act -> World -> Prop) (a : Act) (w : World) : Prop :=
 ∀ (b : Frame), b.fn = f -> ∀ (k : List Item) (cs : List Frame), ∃ e a' w', Q e a' w' /\ Arrives P (lone (b.at a (.code c :: k)) cs w) b k cs e a' w'
theorem wpF_of {P : Program} {f : FuncId} {c : Code} {Q : Exit -> Act -> World -> Prop} {a : Act} {w : World} (h : c.wp P Q a w) : WpF P f c Q a w := fun b _ k cs => h b k cs
theorem wpF_seq {P : Program} {f : FuncId} {x y : Code} {Q : Exit -> Act -> World -> Prop} {a : Act} {w : World} (h : WpF P f x (Exit.then (WpF P f y Q) Q) a w) : WpF P f (.seq x y) Q a w := by
 intro b hb k cs
 obtain ⟨e, a₁, w₁, hq, harr⟩ := h b hb (.code y :: k) cs
 cases e with
 | normal =>
   obtain ⟨e₂, a₂, w₂, hq₂, harr₂⟩ := hq b hb k cs
   exact ⟨e₂, a₂, w₂, hq₂, .of_steps (.head step_seq harr) harr₂⟩
 | exit id => exact ⟨_, a₁, w₁, hq, .of_steps (.one step_seq) (.pass (x := .code y) rfl (fun _ _ => .inl (by simp)) harr)⟩
 | goto l => exact ⟨_, a₁, w₁, hq, .of_steps (.one step_seq) (.pass (x := .code y) rfl (fun _ _ => .inl (by simp)) harr)⟩
 | ret => exact ⟨_, a₁, w₁, hq, .of_steps (.one step_seq) (.pass (x := .code y) rfl (fun _ _ => .inl (by simp)) harr)⟩
 | panic ch => exact ⟨_, a₁, w₁, hq, .of_steps (.one step_seq) (.pass (x := .code y) rfl (fun _ _ => .inl (by simp)) harr)⟩
 | outgrown => exact ⟨_, a₁, w₁, hq, .of_steps (.one step_seq) (.pass (x := .code y) rfl (fun _ _ => .inl (by simp)) harr)⟩
theorem wpF_draw {P : Program} {f : FuncId} {id : Nat} {ops : Array Oper} {Q : Exit -> Act -> World -> Prop} {a : Act} {w : World}
   (h : wpOps P ops Q (Region.schedule (P.follows .mixedOrders) ops (w.tape w.drawn (.order f id))) a { w with drawn := w.drawn + 1 }) : WpF P f (.region id ops true) Q a w := by
 intro b hb k cs
 obtain ⟨e, a', w', q, r⟩ := wp_ops _ a _ h b k cs
 refine ⟨e, a', w', q, .of_steps (.one ?_) r⟩
 rw [step_region_draw, hb]
theorem calls_of_wpF {P : Program} {f : FuncId} {fn : Func} {c : Code} {args : Array Value} {w : World} {R : Ending -> World -> Prop}
   (hf : P.funcs[f]? = some fn) (hb : fn.body = some c)
   (h : WpF P f c (bodyPost P fn R) { tmps := args ++ Array.replicate (fn.ntmps - args.size) undef, defers := [] } w) :
   Calls P f args w R := by
 intro cs
 let b : Frame := { (default : Frame) with fn := f, kind := .normal }
 have henter : Frame.enter P f args .normal =
     b.at { tmps := args ++ Array.replicate (fn.ntmps - args.size) undef, defers := [] } [.code c] := by
   simp [Frame.enter, Frame.at, hf, hb, b]
 obtain ⟨e, a', w', hq, harr⟩ := h b rfl [] cs
 rw [<- henter] at harr
 cases e with
 | normal =>
   obtain ⟨hd, v, hr, hR⟩ := hq
   exact ⟨.returned v, w', _, hR, Steps.trans harr (.one step_end), rfl, rfl, hd, rfl, fn, hf, hr⟩
 | ret =>
   obtain ⟨hd, v, hr, hR⟩ := hq
   obtain ⟨todo, hs⟩ := harr
   exact ⟨.returned v, w', _, hR, hs, rfl, rfl, hd, rfl, fn, hf, hr⟩
 | panic chain =>
   obtain ⟨hd, hR⟩ := hq
   obtain ⟨todo, hs⟩ := harr
   exact ⟨.panicked chain, w', _, hR, hs, rfl, rfl, hd, fn, hf⟩
 | exit id => exact hq.elim
 | goto l => exact hq.elim
 | outgrown => exact ⟨.outgrown, w', b, hq, harr.resolve_left (by simp [b]), rfl, trivial⟩
theorem sched_any (t : Nat) : Region.schedule (Seq.prog.follows .mixedOrders) opsq t = if t % 2 = 0 then [0, 1] else [1, 0] := by
 have h0 : Region.schedule (Seq.prog.follows .mixedOrders) opsq t = Region.linearise .any opsq t := by
   have : Seq.prog.follows .mixedOrders = true := by kernel_rfl
   rw [this]; rfl
 have h1 : Region.linearise .any opsq t = (match ([0, 1] : List Nat)[t % 2]? with | some i => Region.linearise.go .any opsq 1 (t / 2) ((Array.replicate 2 false).setIfInBounds i true) [i] | none => []) := by kernel_rfl
 have h : t % 2 = 0 \/ t % 2 = 1 := by omega
 rw [h0, h1]
 rcases h with h | h
 · rw [h, if_pos rfl]
   have : Region.linearise.go .any opsq 1 (t / 2) ((Array.replicate 2 false).setIfInBounds 0 true) [0] = (match ([1] : List Nat)[(t / 2) % 1]? with | some i => Region.linearise.go .any opsq 0 (t / 2 / 1) (((Array.replicate 2 false).setIfInBounds 0 true).setIfInBounds i true) [i, 0] | none => [0]) := by kernel_rfl
   show Region.linearise.go .any opsq 1 (t / 2) ((Array.replicate 2 false).setIfInBounds 0 true) [0] = _
   rw [this, Nat.mod_one]; rfl
 · rw [h, if_neg (by decide)]
   have : Region.linearise.go .any opsq 1 (t / 2) ((Array.replicate 2 false).setIfInBounds 1 true) [1] = (match ([0] : List Nat)[(t / 2) % 1]? with | some i => Region.linearise.go .any opsq 0 (t / 2 / 1) (((Array.replicate 2 false).setIfInBounds 1 true).setIfInBounds i true) [i, 1] | none => [1]) := by kernel_rfl
   show Region.linearise.go .any opsq 1 (t / 2) ((Array.replicate 2 false).setIfInBounds 1 true) [1] = _
   rw [this, Nat.mod_one]; rfl
section
variable {F : FuncId -> Prop} {θ ρ : Ren} {s : World}
theorem ok_int (k : IntKind) (n : Int) : okCell F θ ρ (.int k n) := fun v' h => by cases h; exact .int _ _
theorem ok_slice {a : Addr} (l c : Nat) (hc : isCells s a.block = true) : okCell F θ (shared θ s) (.slice (some a) l c) := by
 intro v' h
 cases h with
 | slice l c h =>
   refine .slice l c ?_
   obtain ⟨e, h1, h2⟩ := h
   exact ⟨{ e with own := false }, by unfold shared; rw [if_pos hc, h1]; rfl, h2⟩
 | void a a' => exact .void a a'
theorem ok_nil : okCell F θ ρ (.slice none 0 0) := fun v' h => by cases h; exact .nilSlice _ _
theorem owns_cells {base e size : Nat} {g n cap : Nat} {xs : List Value} (h : s.ownsRow base e size (.slice (some ⟨g, 0, none⟩) n cap) n xs) : isCells s g = true := by
 rcases h.2 with ⟨h1, _⟩ | ⟨g', cap', cur, h1, _, hh, _⟩
 · cases h1
 · cases h1
   unfold isCells; rw [hh]
theorem ok_row {base e size : Nat} {v : Value} {n : Nat} {xs : List Value} (h : s.ownsRow base e size v n xs) : okCell F θ (shared θ s) v := by
 rcases h.2 with ⟨rfl, h0⟩ | ⟨g, cap, cur, rfl, _, hh, _⟩
 · exact ok_nil
 · exact ok_slice _ _ (by show isCells s g = true; unfold isCells; rw [hh])
theorem frz_row {base e size : Nat} {g n cap : Nat} {xs : List Value} (h : s.ownsRow base e size (.slice (some ⟨g, 0, none⟩) n cap) n xs) (hk : ∀ x ∈ xs, okCell F θ (shared θ s) x) (τ : Nat -> Question -> Nat) (d : Nat) {i : Nat} {v : Value} (hi : xs[i]? = some v) : (tp (frz F θ s) τ d).cell? ⟨g, i, none⟩ = some v := by
 rcases h.2 with ⟨h1, _⟩ | ⟨g', cap', cur, h1, _, hh, _, _, _, ht⟩
 · cases h1
 · cases h1
   have hc : ∀ j u, j < xs.length -> cur[j]? = some u -> xs[j]? = some u := fun j u hj hu => by
     have hj2 : j < n * size := by have := h.1; omega
     rw [<- ht, List.getElem?_take_of_lt hj2]; simpa using hu
   have hil : i < xs.length := (List.getElem?_eq_some_iff.1 hi).1
   have hci : cur[i]? = some v := by
     have hj2 : i < n * size := by have := h.1; omega
     rw [<- ht, List.getElem?_take_of_lt hj2] at hi
     simpa using hi
   exact frz_keep hh hci (fun j u hj hu => hk u (List.mem_of_getElem? (hc j u (by omega) hu)))
end
end Crw
end Go.Proofs.YtkgbgkcbflicmabGreat
namespace Go.Proofs.YtkgbgkcbflicmabGreat.Q
open Sim (Seq.prog)
open Go.RowKit
open Crw (Ready DeadAt zqs WpF wpF_of wpF_seq wpF_draw calls_of_wpF sched_any ok_int ok_row frz_row owns_cells)
open Sim (tp frz Zt isCells shared okCell opsq bodyS fS clo wqD Fp Fv)
structure NwAt (W : World) (go n cap : Nat) (val : Nat -> Value) (N : Nat -> List P3) : Prop where
 own : ∃ base, W.ownsRow base 32 1 (.slice (some ⟨go, 0, none⟩) n cap) n ((List.range n).map val)
 inn : ∀ v, v < n -> ∃ base, W.ownsRow base 35 3 (val v) (N v).length (enc3 (N v))
theorem AM.nw {W : World} {base go n : Nat} {val : Nat -> Value} {pcs : Nat -> List P3} (A : AM W base go n val pcs) : NwAt W go n n val pcs := ⟨⟨base, A.own⟩, fun v hv => ⟨base, A.inn v hv⟩⟩
theorem NwAt.read {W : World} {go n cap : Nat} {val : Nat -> Value} {N : Nat -> List P3} (A : NwAt W go n cap val N) : MsAt W (some ⟨go, 0, none⟩) n N := by
 obtain ⟨base, h⟩ := A.own
 refine .inr ⟨go, 0, rfl, (World.ownsRow.lt h go rfl).2, fun v hv => ?_⟩
 obtain ⟨b2, h2⟩ := A.inn v hv
 obtain ⟨a, c, h1, h2⟩ := pcAt_of_owns h2
 exact ⟨a, c, by rw [Nat.zero_add, World.ownsRow.cellAt h v (by omega)]; simp [hv, h1], h2⟩
def encP (c : Pt) : List Value := [.int .i64 c.1, .int .i64 c.2.1, .int .i64 c.2.2.1, .int .i64 c.2.2.2.1, .int .i64 c.2.2.2.2]
def encPs (l : List Pt) : List Value := l.flatMap encP
theorem encPs_append (a b : List Pt) : encPs (a ++ b) = encPs a ++ encPs b := by simp [encPs]
theorem encPs_length (l : List Pt) : (encPs l).length = l.length * 5 := by
 induction l with
 | nil => rfl
 | cons c l ih => simp only [encPs, List.flatMap_cons, List.length_append, List.length_cons] at ih ⊢; rw [ih]; simp [encP]; omega
theorem encPs_get (l : List Pt) (j : Nat) (h : j < l.length) : (encPs l)[j * 5]? = some (.int .i64 (l.getD j pt0).1) /\ (encPs l)[j * 5 + 1]? = some (.int .i64 (l.getD j pt0).2.1) /\ (encPs l)[j * 5 + 2]? = some (.int .i64 (l.getD j pt0).2.2.1) /\ (encPs l)[j * 5 + 3]? = some (.int .i64 (l.getD j pt0).2.2.2.1) /\ (encPs l)[j * 5 + 4]? = some (.int .i64 (l.getD j pt0).2.2.2.2) := by
 induction l generalizing j with
 | nil => simp at h
 | cons c l ih =>
   have e : encPs (c :: l) = .int .i64 c.1 :: .int .i64 c.2.1 :: .int .i64 c.2.2.1 :: .int .i64 c.2.2.2.1 :: .int .i64 c.2.2.2.2 :: encPs l := by simp [encPs, encP]
   rw [e]
   cases j with
   | zero => exact ⟨rfl, rfl, rfl, rfl, rfl⟩
   | succ j =>
     have := ih j (by simpa using h)
     rw [show (j + 1) * 5 = j * 5 + 1 + 1 + 1 + 1 + 1 by omega]
     simpa using this
theorem ptsAt_of_owns {w : World} {base e : Nat} {v : Value} {n : Nat} {l : List Pt} (h : w.ownsRow base e 5 v n (encPs l)) : ∃ ao cap, v = .slice ao l.length cap /\ PtsAt w ao l /\ ∀ a, ao = some a -> isCells w a.block = true := by
 obtain ⟨h1, h2⟩ := h
 simp only [encPs_length] at h1
 have hn : n = l.length := by omega
 subst hn
 rcases h2 with ⟨rfl, h0⟩ | ⟨g, cap, cur, rfl, hb, hh, h3, h4, h5, h6⟩
 · exact ⟨none, 0, by rw [h0], .inl (List.eq_nil_of_length_eq_zero h0), fun a ha => by cases ha⟩
 · have hown : w.ownsRow base e 5 (.slice (some ⟨g, 0, none⟩) l.length cap) l.length (encPs l) := ⟨by simp [encPs_length], .inr ⟨g, cap, cur, rfl, hb, hh, h3, h4, h5, h6⟩⟩
   refine ⟨_, cap, rfl, .inr ⟨g, 0, rfl, (Array.getElem?_eq_some_iff.1 hh).1, fun j hj => ?_⟩, fun a ha => by cases ha; exact owns_cells hown⟩
   obtain ⟨f0, f1, f2, f3, f4⟩ := encPs_get l j hj
   rw [Nat.zero_add, hown.cellAt (j * 5) (by omega), hown.cellAt (j * 5 + 1) (by omega), hown.cellAt (j * 5 + 2) (by omega), hown.cellAt (j * 5 + 3) (by omega), hown.cellAt (j * 5 + 4) (by omega)]
   exact ⟨f0, f1, f2, f3, f4⟩
section
variable {θ : Sim.Ren} {s : World}
theorem frz_pcs {base : Nat} {v : Value} {N : List P3} (h : s.ownsRow base 35 3 v N.length (enc3 N)) (τ : Nat -> Question -> Nat) (d : Nat) : ∃ a c, v = .slice a N.length c /\ PcAt (tp (frz (Fp Fv) θ s) τ d) a N := by
 have hok : ∀ x ∈ enc3 N, okCell (Fp Fv) θ (shared θ s) x := fun x hx => by
   unfold enc3 at hx
   rw [List.mem_map] at hx
   obtain ⟨y, _, rfl⟩ := hx
   exact ok_int _ _
 have hh := h
 rcases h.2 with ⟨rfl, h0⟩ | ⟨g, cap, cur, rfl, hb, hg, _⟩
 · exact ⟨none, 0, by rw [h0], .inl (List.eq_nil_of_length_eq_zero h0)⟩
 · refine ⟨some ⟨g, 0, none⟩, cap, rfl, .inr ⟨g, 0, rfl, ?_, fun j hj => ?_⟩⟩
   · show g < (frz (Fp Fv) θ s).heap.size
     rw [Sim.frz_size]; exact (Array.getElem?_eq_some_iff.1 hg).1
   · obtain ⟨f0, f1, f2⟩ := flat3_getD N j hj
     refine ⟨?_, ?_, ?_⟩
     · rw [Nat.zero_add]; exact frz_row hh hok τ d (by simp only [enc3, List.getElem?_map, f0]; rfl)
     · rw [Nat.zero_add]; exact frz_row hh hok τ d (by simp only [enc3, List.getElem?_map, f1]; rfl)
     · rw [Nat.zero_add]; exact frz_row hh hok τ d (by simp only [enc3, List.getElem?_map, f2]; rfl)
theorem frz_ms {go n cap : Nat} {val : Nat -> Value} {N : Nat -> List P3} (A : NwAt s go n cap val N) (τ : Nat -> Question -> Nat) (d : Nat) : MsAt (tp (frz (Fp Fv) θ s) τ d) (some ⟨go, 0, none⟩) n N := by
 obtain ⟨base, h⟩ := A.own
 have hok : ∀ x ∈ (List.range n).map val, okCell (Fp Fv) θ (shared θ s) x := fun x hx => by
   rw [List.mem_map] at hx
   obtain ⟨v, hv, rfl⟩ := hx
   obtain ⟨b2, h2⟩ := A.inn v (List.mem_range.1 hv)
   exact ok_row h2
 refine .inr ⟨go, 0, rfl, ?_, fun v hv => ?_⟩
 · show go < (frz (Fp Fv) θ s).heap.size
   rw [Sim.frz_size]; exact (World.ownsRow.lt h go rfl).2
 · obtain ⟨b2, h2⟩ := A.inn v hv
   obtain ⟨a, c, h3, h4⟩ := frz_pcs (θ := θ) h2 τ d
   exact ⟨a, c, by rw [Nat.zero_add, <- h3]; exact frz_row h hok τ d (by simp [hv]), h4⟩
theorem frz_pts {base : Nat} {po : Option Addr} {pc : Nat} {l : List Pt} (h : s.ownsRow base 78 5 (.slice po l.length pc) l.length (encPs l)) (τ : Nat -> Question -> Nat) (d : Nat) : PtsAt (tp (frz (Fp Fv) θ s) τ d) po l := by
 have hok : ∀ x ∈ encPs l, okCell (Fp Fv) θ (shared θ s) x := fun x hx => by
   unfold encPs at hx
   rw [List.mem_flatMap] at hx
   obtain ⟨y, _, hx⟩ := hx
   simp only [encP, List.mem_cons, List.not_mem_nil, or_false] at hx
   rcases hx with rfl | rfl | rfl | rfl | rfl <;> exact ok_int _ _
 have hh := h
 rcases h.2 with ⟨_, h0⟩ | ⟨g, cap, cur, e, hb, hg, _⟩
 · exact .inl (List.eq_nil_of_length_eq_zero h0)
 · cases e
   refine .inr ⟨g, 0, rfl, ?_, fun j hj => ?_⟩
   · show g < (frz (Fp Fv) θ s).heap.size
     rw [Sim.frz_size]; exact (Array.getElem?_eq_some_iff.1 hg).1
   · obtain ⟨f0, f1, f2, f3, f4⟩ := encPs_get l j hj
     refine ⟨?_, ?_, ?_, ?_, ?_⟩
     · rw [Nat.zero_add]; exact frz_row hh hok τ d f0
     · rw [Nat.zero_add]; exact frz_row hh hok τ d f1
     · rw [Nat.zero_add]; exact frz_row hh hok τ d f2
     · rw [Nat.zero_add]; exact frz_row hh hok τ d f3
     · rw [Nat.zero_add]; exact frz_row hh hok τ d f4
theorem ready_of {go n nc bp W : Nat} {val : Nat -> Value} {N : Nat -> List P3} {ps : List Pt} {pv : Value} {B : Int} (hB : B <= 400000) (hn : n <= 12) (hW : 1 <= W /\ W <= 64) (hp : ps.length <= 100000) (A : NwAt s go n nc val N) (hP : s.ownsRow bp 78 5 pv ps.length (encPs ps)) (hG : ∀ π ∈ ps, GoodPt n π) (hS : ∀ v, v < n -> Sm B (N v)) :
   Ready s (.slice (some ⟨go, 0, none⟩) n nc) pv (.int .i64 W) := by
 obtain ⟨po, pc, rfl, _, hpc⟩ := ptsAt_of_owns hP
 obtain ⟨base, h⟩ := A.own
 refine ⟨some ⟨go, 0, none⟩, n, nc, po, ps.length, pc, W, rfl, rfl, rfl, hW.1, hW.2, fun a ha => by cases ha; exact owns_cells h, hpc, fun θ w x' y' hw hx hy i hi τ d => ?_⟩
 refine (bsSend_any (some ⟨go, 0, none⟩) po nc pc n N ps i W B hB hn ⟨by omega, by omega⟩ hp _ (frz_ms A τ d) (frz_pts hP τ d) hG hS).mono ?_
 rintro e w' ⟨val, H, rfl, _⟩
 exact ⟨_, rfl, _, _, _, rfl⟩
theorem ready_tp {x y z : Value} (h : Ready s x y z) (τ : Nat -> Question -> Nat) (d : Nat) : Ready (tp s τ d) x y z := by
 obtain ⟨na, nl, nc, pa, pl, pc, n, h1, h2, h3, h4, h5, h6, h7, h8⟩ := h
 refine ⟨na, nl, nc, pa, pl, pc, n, h1, h2, h3, h4, h5, h6, h7, fun θ w x' y' hw hx hy i hi τ' d' => ?_⟩
 have := h8 θ w x' y' (hw.of_heap rfl rfl) hx hy i hi τ' d'
 exact this
end
end Go.Proofs.YtkgbgkcbflicmabGreat.Q
namespace Go.Proofs.YtkgbgkcbflicmabGreat.Q
open Sim (Seq.prog)
open Go.RowKit
open Crw (Ready DeadAt zqs WpF wpF_of wpF_seq wpF_draw calls_of_wpF sched_any ok_int ok_row frz_row owns_cells wqD_heap)
open Sim (tp frz Zt isCells shared okCell opsq ops3 ops6 codeL bodyS fS clo wqD wqM wq1 wq2 wq3 wq2_cell wq2_frozen wq3_cell aL Fp Fv q_alloc q_load q_store q_eq q_clo q_box q_die q_make q_move0 q_lss q_call q_index q_put q_add q_mv op1 setCell_this setCell_other)
section
variable {P : Program} {ops : Array Oper} {Q : Exit -> Act -> World -> Prop} {a : Act} {w w' : World} {i : Nat} {rest : List Nat} {o : Oper}
theorem ops_value {v : Value} (ho : ops[i]? = some o) (hw : Region.wanted o (yielded ops a.tmps) = true) (hr : (execOp a.eval o).run P w = .ok (.value v) w') (h : wpOps P ops Q rest (a.put o.dst v) w') : wpOps P ops Q (i :: rest) a w := by
 simp only [wpOps, ho]
 rw [if_pos hw]
 left
 unfold Oper.wp
 rw [hr]
 exact h
theorem ops_skip (ho : ops[i]? = some o) (hw : Region.wanted o (yielded ops a.tmps) = true) (hr : (execOp a.eval o).run P w = .ok .skip w') (h : wpOps P ops Q rest (a.put o.dst undef) w') : wpOps P ops Q (i :: rest) a w := by
 simp only [wpOps, ho]
 rw [if_pos hw]
 left
 unfold Oper.wp
 rw [hr]
 exact h
theorem ops_panic {v : Value} (ho : ops[i]? = some o) (hw : Region.wanted o (yielded ops a.tmps) = true) (hr : (execOp a.eval o).run P w = .halt (.panic v) w') (h : Q (.panic [{ v, recovered := false }]) a w') : wpOps P ops Q (i :: rest) a w := by
 simp only [wpOps, ho]
 rw [if_pos hw]
 left
 unfold Oper.wp
 rw [hr]
 exact h
theorem ops_enter {f : FuncId} {args : Array Value} {R : Ending -> World -> Prop} (ho : ops[i]? = some o) (hw : Region.wanted o (yielded ops a.tmps) = true) (hr : (execOp a.eval o).run P w = .ok (.enter f args) w') (hc : Calls P f args w' R) (h : ∀ e w'', R e w'' -> ∃ v, e = .returned v /\ wpOps P ops Q rest (a.put o.dst v) w'') : wpOps P ops Q (i :: rest) a w := by
 simp only [wpOps, ho]
 rw [if_pos hw]
 left
 unfold Oper.wp
 rw [hr]
 refine hc.mono ?_
 intro e w'' he
 obtain ⟨v, rfl, h2⟩ := h e w'' he
 exact h2
end
structure LpI (w : World) (Bx W n : Nat) (N : Nat -> List P3) (ps : List Pt) (B : Int) (i : Nat) (σ : World) : Prop where
 bel : Below w.heap.size w σ
 lo : w.heap.size <= Bx
 hi : Bx < σ.heap.size
 row : ∃ cur, σ.heap[Bx]? = some (.cells cur 51) /\ cur.size = W
 box : ∀ j, j < i -> ∃ g base val H, σ.cell? ⟨Bx, j, none⟩ = some (.slice (some ⟨g, 0, none⟩) n n) /\ Bx < base /\ AM σ base g n val H /\ ∀ v, v < n -> Sm (B + 1000) (H v) /\ ∀ t, tel (H v) t = sndF N (j : Int) (W : Int) ps ps.length v t
theorem LpI.step {w σ σ1 : World} {Bx W n i : Nat} {N : Nat -> List P3} {ps : List Pt} {B : Int} {val : Nat -> Value} {H : Nat -> List P3} (I : LpI w Bx W n N ps B i σ) (hi : i < W) (hb : Below σ.heap.size σ σ1) (A : AM σ1 σ.heap.size σ.heap.size n val H) (hH : ∀ v, v < n -> Sm (B + 1000) (H v) /\ ∀ t, tel (H v) t = sndF N (i : Int) (W : Int) ps ps.length v t) :
   LpI w Bx W n N ps B (i + 1) (σ1.setCell ⟨Bx, i, none⟩ (.slice (some ⟨σ.heap.size, 0, none⟩) n n)) := by
 obtain ⟨cur, hc, hs⟩ := I.row
 have hc1 : σ1.heap[Bx]? = some (.cells cur 51) := by rw [hb.block _ I.hi]; exact hc
 have hB1 := (I.bel.trans (hb.mono I.bel.size)).setCell (p := ⟨Bx, i, none⟩) I.lo (.slice (some ⟨σ.heap.size, 0, none⟩) n n)
 have hrow := setCell_this (i := i) (v := (.slice (some ⟨σ.heap.size, 0, none⟩) n n)) hc1
 refine ⟨hB1, I.lo, (Array.getElem?_eq_some_iff.1 hrow).1, ⟨_, hrow, by simpa using hs⟩, fun j hj => ?_⟩
 by_cases e : j = i
 · subst e
   refine ⟨σ.heap.size, σ.heap.size, val, H, ?_, I.hi, A.setFar I.hi, hH⟩
   simp [World.cell?, hrow, hs, hi]
 · obtain ⟨g, base, val2, H2, h1, h2, h3, h4⟩ := I.box j (by omega)
   refine ⟨g, base, val2, H2, ?_, h2, (h3.below hb).setFar h2, h4⟩
   simp [World.cell?, hc] at h1
   simp only [World.cell?, hrow]
   simp [Ne.symm e, h1]
set_option maxRecDepth 100000 in
set_option maxHeartbeats 1000000 in
theorem bsSendAll_any {go n nc bp W : Nat} {val : Nat -> Value} {N : Nat -> List P3} {ps : List Pt} {pv : Value} {B : Int} (w : World) (hB : B <= 400000) (hn : n <= 12) (hW : 1 <= W /\ W <= 64) (hp : ps.length <= 100000) (A : NwAt w go n nc val N) (hP : w.ownsRow bp 78 5 pv ps.length (encPs ps)) (hG : ∀ π ∈ ps, GoodPt n π) (hS : ∀ v, v < n -> Sm B (N v)) :
   Calls Seq.prog 20 #[.slice (some ⟨go, 0, none⟩) n nc, pv, .int .i64 W] w fun e w' => (∃ ao M, e = .returned (.slice ao W W) /\ BoxesAt w' ao W n M /\ (∀ j, j < W -> ∀ v, v < n -> Sm (B + 1000) (M j v) /\ ∀ t, tel (M j v) t = sndF N (j : Int) (W : Int) ps ps.length v t) /\ Below w.heap.size w w') \/ (¬ Zt zqs w.tape /\ ∃ ch, e = .panicked ch /\ DeadAt w') := by
 have hRd := ready_of hB hn hW hp A hP hG hS
 obtain ⟨x, hx⟩ : ∃ x, x = Value.slice (some ⟨go, 0, none⟩) n nc := ⟨_, rfl⟩
 obtain ⟨po, pc, hpv, hpt, _⟩ := ptsAt_of_owns hP
 have b1 : Below w.heap.size w (wq1 w) := gal w _
 have b2 : Below w.heap.size w (wq2 w) := ⟨b1.os, b1.tape, b1.output, b1.size, b1.block⟩
 have b3 : Below w.heap.size w (wq3 w) := b2.setCell (p := ⟨w.heap.size, 0, none⟩) (Nat.le_refl _) _
 have b4 : Below w.heap.size w (wqM w W) := b3.alloc b3.size _
 refine calls_of_wpF Seq.sp rfl ?_
 rw [<- hx] at hRd ⊢
 show WpF Seq.prog 20 bodyS _ { tmps := #[x, pv, .int .i64 W, undef, undef, undef, undef, undef, undef, undef, undef, undef, undef, undef, undef], defers := [] } w
 refine wpF_seq (wpF_of (wp_region ?_))
 show wpOps _ _ _ [0] _ _
 refine ops_value rfl rfl (q_alloc _ _) ?_
 refine wpF_seq (wpF_draw ?_)
 show wpOps Seq.prog opsq _ (Region.schedule (Seq.prog.follows .mixedOrders) opsq (w.tape w.drawn (.order 20 1))) _ (wq2 w)
 rw [sched_any]
 by_cases ht : w.tape w.drawn (.order 20 1) % 2 = 0
 · rw [if_pos ht]
   refine ops_value rfl rfl (q_load (r := w.heap.size) (n := 0) rfl (wq2_cell w)) ?_
   refine ops_skip (w' := wq3 w) rfl rfl (q_store (r := w.heap.size) rfl (wq2_cell w) (wq2_frozen w)) ?_
   refine wpF_of (wp_seq (wp_region ?_))
   show wpOps _ _ _ [0] _ _
   refine ops_value rfl rfl (q_eq (n := 0) rfl) ?_
   refine wp_cond (t := false) rfl ?_
   refine wp_seq (wp_region ?_)
   show wpOps _ _ _ [0, 1] _ _
   refine ops_value rfl rfl (q_make (n := W) rfl hW.2) ?_
   refine ops_value rfl rfl q_move0 ?_
   refine wp_seq (wp_block (wp_loop (fun a σ => ∃ i u1 u2 u3 u4, a = aL x pv W w.heap.size (wq3 w).heap.size i u1 u2 u3 u4 /\ i <= W /\ LpI w (wq3 w).heap.size W n N ps B i σ) (fun (a : Act) (_ : World) => W - (match a.tmps[10]? with | some (Value.int _ i) => i.toNat | _ => 0)) ?_ ?_))
   · refine ⟨0, undef, undef, undef, undef, rfl, Nat.zero_le _, b4, b3.size, ?_, ⟨madeCells #[.slice none 0 0] W, ?_, ?_⟩, fun j hj => absurd hj (by omega)⟩
     · show _ < ((wq3 w).heap.push _).size
       simp
     · show ((wq3 w).heap.push _)[_]? = _
       simp
     · simp [madeCells]
   · rintro a σ ⟨i, u1, u2, u3, u4, rfl, hi, I⟩
     refine wp_seq (wp_region ?_)
     show wpOps _ _ _ [0] _ _
     refine ops_value rfl rfl (q_lss (i := i) (n := W) rfl rfl) ?_
     by_cases hlt : i < W
     · refine wp_cond (t := true) (by show Value.bool (decide ((i : Int) < W)) = _; rw [decide_eq_true (by omega)]) ?_
       refine wp_region ?_
       show wpOps _ ops6 _ [0, 1, 2, 3, 4] _ _
       have hcl := bsSend_any (some ⟨go, 0, none⟩) po nc pc n N ps i W B hB hn ⟨by omega, by omega⟩ hp σ (A.read.below I.bel) (hpt.below I.bel) hG hS
       refine ops_enter rfl rfl (q_call (x := x) (y := pv) (z := .int .i64 i) (u := .int .i64 W) rfl rfl rfl rfl) (by rw [hx, hpv]; exact hcl) ?_
       rintro e σ1 ⟨val1, H, rfl, A1, hH, hb⟩
       refine ⟨_, rfl, ?_⟩
       have I1 := I.step hlt hb A1 hH
       obtain ⟨cur, hc, hs⟩ := I.row
       have hc1 : σ1.heap[(wq3 w).heap.size]? = some (.cells cur 51) := by rw [hb.block _ I.hi]; exact hc
       refine ops_value rfl rfl (q_index (B := (wq3 w).heap.size) (i := i) (n := W) rfl rfl hlt) ?_
       refine ops_skip rfl rfl (q_put (B := (wq3 w).heap.size) (i := i) (sa := some ⟨σ.heap.size, 0, none⟩) (sl := n) (sc := n) (u := cur[i]'(by omega)) rfl rfl (by simp [World.cell?, hc1, hs, hlt]) (by simp [World.frozen?, hc1])) ?_
       refine ops_value rfl rfl (q_add (i := i) rfl (by omega)) ?_
       refine ops_value rfl rfl (q_mv (z := .int .i64 ((i + 1 : Nat) : Int)) rfl) ?_
       refine ⟨⟨i + 1, _, _, _, _, rfl, hlt, I1⟩, ?_⟩
       show W - (((i + 1 : Nat) : Int).toNat) < W - ((i : Int).toNat)
       omega
     · refine wp_cond (t := false) (by show Value.bool (decide ((i : Int) < W)) = _; rw [decide_eq_false (by omega)]) ?_
       refine wp_exit ?_
       refine wp_ret ?_
       have hiW : i = W := by omega
       subst hiW
       have hM : ∀ j : Nat, ∃ H : Nat -> List P3, j < i -> (∃ a c, σ.cell? ⟨(wq3 w).heap.size, 0 + j, none⟩ = some (.slice a n c) /\ MsAt σ a n H) /\ ∀ v, v < n -> Sm (B + 1000) (H v) /\ ∀ t, tel (H v) t = sndF N (j : Int) (i : Int) ps ps.length v t := fun j => by
         by_cases hj : j < i
         · obtain ⟨g, base, val2, H2, h1, _, h3, h4⟩ := I.box j hj
           exact ⟨H2, fun _ => ⟨⟨_, _, by rw [Nat.zero_add]; exact h1, h3.read⟩, h4⟩⟩
         · exact ⟨fun _ => [], fun h => absurd h hj⟩
       obtain ⟨M, hM⟩ := Classical.axiomOfChoice hM
       refine ⟨rfl, .slice (some ⟨(wq3 w).heap.size, 0, none⟩) i i, ?_, .inl ⟨_, M, rfl, .inr ⟨(wq3 w).heap.size, 0, rfl, I.hi, fun j hj => (hM j hj).1⟩, fun j hj => (hM j hj).2, I.bel⟩⟩
       show (results fS (aL x pv i w.heap.size (wq3 w).heap.size i (.bool (decide ((i : Int) < i))) u2 u3 u4).tmps).run Seq.prog σ = _
       simp [results, show fS.results = #[.tmp 3] from rfl, aL]
 · rw [if_neg ht]
   refine ops_skip (w' := wq3 w) rfl rfl (q_store (r := w.heap.size) rfl (wq2_cell w) (wq2_frozen w)) ?_
   refine ops_value rfl rfl (q_load (r := w.heap.size) (n := 1) rfl (wq3_cell w)) ?_
   refine wpF_of (wp_seq (wp_region ?_))
   show wpOps _ _ _ [0] _ _
   refine ops_value rfl rfl (q_eq (n := 1) rfl) ?_
   refine wp_cond (t := true) rfl ?_
   refine wp_region ?_
   show wpOps _ ops3 _ [0, 1, 2] _ _
   refine ops_value rfl rfl q_clo ?_
   refine ops_value (w' := wqD w x pv (.int .i64 W)) rfl rfl (q_box (x := x) (y := pv) (z := .int .i64 W) rfl) ?_
   obtain ⟨v, hv⟩ := q_die (a := ⟨#[x, pv, .int .i64 W, undef, .pointer (some ⟨w.heap.size, 0, none⟩), .int .i64 1, .bool true, clo x pv (.int .i64 W), .pointer (some ⟨(wq3 w).heap.size, 0, none⟩), undef, undef, undef, undef, undef, undef], []⟩) (s := wqD w x pv (.int .i64 W))
   refine ops_panic rfl rfl hv ?_
   refine ⟨rfl, .inr ⟨fun hz => ht ?_, _, rfl, w.heap, x, pv, .int .i64 W, wqD_heap _ _ _ _, ready_tp hRd w.tape (w.drawn + 1)⟩⟩
   rw [hz _ _ (by decide)]
end Go.Proofs.YtkgbgkcbflicmabGreat.Q
