/-
  A region that draws its order and falls into two parts: all of the second part waits for all of the first one. The first part only reads, and its callees only make new memory: one walk in the order of the text serves every order; the second part is gone through behind it.
-/
import Derived.Test.YtjjhhmlogddnkaiDoorHeldC
namespace Go.Proofs.YtjjhhmlogddnkaiDoor
open Go.RowKit

/-- an operation waits for each of some others, itself or by way of another one of them -/
def waitsAll (ops : Array Oper) (o : Oper) : Bool := (List.range ops.size).all fun j =>
  o.after.any (fun e => Region.binds .any e && e.on == j) || (List.range ops.size).any fun k => decide (j < k) && match ops[k]? with
    | some o => o.after.any fun e => Region.binds .any e && e.on == j
    | none => false
theorem all_of_waits {ops : Array Oper} {o : Oper} {listed : Array Bool} (hl : waitsAll ops o = true) (hc : Closed ops listed) (hsz : listed.size = ops.size) (hs : ∀ e ∈ o.after, Region.binds .any e = true → e.on < ops.size → listed.getD e.on false = true) : ∀ d j, j + d = ops.size → j < ops.size → listed.getD j false = true := by
  intro d
  induction d using Nat.strongRecOn with
  | _ d ih =>
    intro j hd hj
    have h1 := List.all_eq_true.1 hl j (List.mem_range.2 hj)
    rw [Bool.or_eq_true] at h1
    rcases h1 with h1 | h1
    · obtain ⟨e, he, h2⟩ := arr_any h1
      rw [Bool.and_eq_true, beq_iff_eq] at h2
      rw [← h2.2]
      exact hs e he h2.1 (by rw [h2.2]; exact hj)
    · obtain ⟨k, hk, h2⟩ := List.any_eq_true.1 h1
      rw [List.mem_range] at hk
      rw [Bool.and_eq_true, decide_eq_true_eq] at h2
      have ho : ops[k]? = some ops[k] := Array.getElem?_eq_getElem hk
      simp only [ho] at h2
      obtain ⟨e, he, h3⟩ := arr_any h2.2
      rw [Bool.and_eq_true, beq_iff_eq] at h3
      have hkl := ih (d - (k - j)) (by omega) k (by omega) hk
      rw [← h3.2]
      refine hc k _ ho ?_ e he h3.1
      have hk' : k < listed.size := by omega
      simpa [hk'] using hkl

theorem getD_app {l r : Array Bool} {j : Nat} (d : Bool) (h : j < l.size) : (l ++ r).getD j d = l.getD j d := by
  simp [Nat.lt_of_lt_of_le h]
theorem getElem_app {ops suf : Array Oper} {j : Nat} (h : j < ops.size) : (ops ++ suf)[j]? = ops[j]? := Array.getElem?_append_left h

theorem ready_split {ops suf : Array Oper} {listed r : Array Bool} (hf : fwdB ops = true) (hw : ∀ o ∈ suf, waitsAll ops o = true) (hc : Closed ops listed) (hsz : listed.size = ops.size) (hne : Region.ready .any ops listed ≠ []) (i : Nat) :
    i ∈ Region.ready .any (ops ++ suf) (listed ++ r) ↔ i ∈ Region.ready .any ops listed := by
  rw [mem_ready, mem_ready]
  rcases Nat.lt_or_ge i ops.size with hi | hi
  · rw [getD_app true (by omega), getElem_app hi]
    refine and_congr_right fun _ => exists_congr fun o => and_congr_right fun ho => forall_congr' fun e => forall_congr' fun he => forall_congr' fun hb => ?_
    have := (fwd_spec hf ho).2 e he hb
    rw [getD_app false (by omega)]
  · constructor
    · rintro ⟨_, o, ho, hall⟩
      exfalso
      rw [Array.getElem?_append_right hi] at ho
      have hm : o ∈ suf := Array.mem_of_getElem? ho
      apply hne
      have hall2 := all_of_waits (hw o hm) hc hsz (fun e he hb hlt => by have := hall e he hb; rwa [getD_app false (by omega)] at this)
      apply List.eq_nil_iff_forall_not_mem.2
      intro j hj
      rw [mem_ready] at hj
      obtain ⟨h0, o, hoj, _⟩ := hj
      have hjlt : j < ops.size := (Array.getElem?_eq_some_iff.1 hoj).1
      have h1 := hall2 (ops.size - j) j (by omega) hjlt
      have hj' : j < listed.size := by omega
      simp [hj'] at h0 h1
      rw [h0] at h1
      cases h1
    · rintro ⟨_, o, ho, _⟩
      rw [Array.getElem?_eq_none hi] at ho
      cases ho

/-- the post of the first part -/
def SplitQ (R : Act → World → Prop) (Q : Exit → Act → World → Prop) : Exit → Act → World → Prop
  | .normal, a, w => R a w
  | e, a, w => Q e a w
theorem wp_split {P : Program} {o : Oper} {R : Act → World → Prop} {Q : Exit → Act → World → Prop} {K K' : Act → World → Prop} {a : Act} {w : World} (hK : ∀ a w, K a w → K' a w) (h : o.wp P a w K (SplitQ R Q)) : o.wp P a w K' Q := by
  unfold Oper.wp at *
  generalize (execOp a.eval o).run P w = r at *
  cases r with
  | ok n w' =>
    cases n <;> simp only [Oper.upon] at h ⊢ <;>
      first
        | exact hK _ _ h
        | exact Calls.mono h (fun e w'' he => by cases e <;> first | exact hK _ _ he | exact he)
        | exact Rows.mono h (fun _ _ he => hK _ _ he)
  | halt x w' => cases x <;> simp only [Oper.upon] at h ⊢ <;> exact h

theorem wpAny_more {P : Program} {md : Region.Mode} {ops : Array Oper} {Q : Exit → Act → World → Prop} : ∀ (fuel : Nat) (listed : Array Bool) (a : Act) (w : World), wpAny P md ops Q fuel listed a w → wpAny P md ops Q (fuel + 1) listed a w
  | 0, _, _, _, h => ⟨fun _ => h.2, by rw [h.1]; simp⟩
  | fuel + 1, _, _, _, h => ⟨h.1, fun i hi => wpOp_mono (fun a' w' h' => wpAny_more fuel _ a' w' h') (h.2 i hi)⟩
theorem wpAny_mores {P : Program} {md : Region.Mode} {ops : Array Oper} {Q : Exit → Act → World → Prop} {n : Nat} {listed : Array Bool} {a : Act} {w : World} (h : wpAny P md ops Q n listed a w) : ∀ k, wpAny P md ops Q (k + n) listed a w
  | 0 => by rwa [Nat.zero_add]
  | k + 1 => by rw [show k + 1 + n = (k + n) + 1 by omega]; exact wpAny_more _ _ _ _ (wpAny_mores h k)

theorem split_sound {P : Program} {ops suf : Array Oper} {Q : Exit → Act → World → Prop} (hf : fwdB ops = true) (hw : ∀ o ∈ suf, waitsAll ops o = true) : ∀ (fuel : Nat) (listed : Array Bool) (a : Act) (w : World), listed.size = ops.size → Closed ops listed →
    wpAny P .any ops (SplitQ (fun a w => wpAny P .any (ops ++ suf) Q suf.size (Array.replicate ops.size true ++ Array.replicate suf.size false) a w) Q) fuel listed a w → wpAny P .any (ops ++ suf) Q (fuel + suf.size) (listed ++ Array.replicate suf.size false) a w := by
  have fin : ∀ (fuel : Nat) (listed : Array Bool) (a : Act) (w : World), listed.size = ops.size → Region.ready .any ops listed = [] → wpAny P .any (ops ++ suf) Q suf.size (Array.replicate ops.size true ++ Array.replicate suf.size false) a w → wpAny P .any (ops ++ suf) Q (fuel + suf.size) (listed ++ Array.replicate suf.size false) a w := by
    intro fuel listed a w hsz hr hq
    have hall := all_listed hf hsz hr
    have e : listed = Array.replicate ops.size true := by
      apply Array.ext
      · simpa using hsz
      · intro j h1 h2
        have := hall j (by omega)
        simpa [h1] using this
    rw [e]
    exact wpAny_mores hq fuel
  intro fuel
  induction fuel with
  | zero =>
    intro listed a w hsz hc h
    exact fin 0 listed a w hsz h.1 h.2
  | succ fuel ih =>
    intro listed a w hsz hc h
    by_cases hr : Region.ready .any ops listed = []
    · exact fin (fuel + 1) listed a w hsz hr (h.1 hr)
    · rw [show fuel + 1 + suf.size = (fuel + suf.size) + 1 by omega]
      refine ⟨fun h0 => ?_, fun i hi => ?_⟩
      · exfalso
        apply hr
        apply List.eq_nil_iff_forall_not_mem.2
        intro j hj
        have := (ready_split (r := Array.replicate suf.size false) hf hw hc hsz hr j).2 hj
        rw [h0] at this
        cases this
      · have hi' := (ready_split hf hw hc hsz hr i).1 hi
        have h1 := h.2 i hi'
        obtain ⟨hun, o, ho, hdep⟩ := mem_ready.1 hi'
        have hilt : i < ops.size := (Array.getElem?_eq_some_iff.1 ho).1
        have ho' : (ops ++ suf)[i]? = some o := by rw [getElem_app hilt]; exact ho
        have hg := (fwd_spec hf ho).1
        have eset : (listed ++ Array.replicate suf.size false).setIfInBounds i true = (listed.setIfInBounds i true) ++ Array.replicate suf.size false := by
          rw [Array.setIfInBounds_append_left (by omega)]
        have hc' : Closed ops (listed.setIfInBounds i true) := by
          intro j oj hoj hlj e he hb
          by_cases hij : i = j
          · subst hij
            rw [ho] at hoj
            cases hoj
            exact getD_set_true (hdep e he hb)
          · rw [getD_set_ne true hij] at hlj
            exact getD_set_true (hc j oj hoj hlj e he hb)
        unfold wpOp at h1 ⊢
        simp only [ho, ho', Region.wanted, hg, if_true] at h1 ⊢
        rw [eset]
        refine h1.imp (fun hh => wp_split (fun a' w' hk => ih _ a' w' (by simpa using hsz) hc' hk) hh) (fun hh => ⟨hh.1, hh.2⟩)

/-- the beginning: m operations are the first part -/
theorem wp_region_split {P : Program} (w0 : World) (m : Nat) {id : Nat} {l : List Oper} {Q : Exit → Act → World → Prop} {a : Act} {w : World} (h0 : Below w0.heap.size w0 w) (hm : P.follows .mixedOrders = true) (hB : Region.lexB .any (l.take m).toArray = true) (hf : fwdB (l.take m).toArray = true) (hw : (l.drop m).all (waitsAll (l.take m).toArray) = true)
    (h : wpQuiet P (l.take m).toArray (fun w' => ∃ s : HeldIn w0, w' = s.w) (fun a' => ∀ w', (∃ s : HeldIn w0, w' = s.w) → wpAnyH P .any l.toArray Q (fun _ => True) (l.drop m).length (Array.replicate (l.take m).length true ++ Array.replicate (l.drop m).length false) a' w') (l.take m) a) : (Code.region id l.toArray true).wp P Q a w := by
  have e : l.toArray = (l.take m).toArray ++ (l.drop m).toArray := by simp
  generalize hp : l.take m = p at *
  generalize hs : l.drop m = s at *
  clear hp hs
  refine wp_region_any hm ?_
  simp only [Region.lexB, Bool.and_eq_true] at hB
  rw [e] at h ⊢
  have h1 : wpAny P .any p.toArray (SplitQ (fun a w => wpAny P .any (p.toArray ++ s.toArray) Q s.toArray.size (Array.replicate p.toArray.size true ++ Array.replicate s.toArray.size false) a w) Q) p.toArray.size (Array.replicate p.toArray.size false) a w.drew := by
    refine wpAny_of_quiet (C := fun w' => ∃ s : HeldIn w0, w' = s.w) (Q := fun a' => ∀ w', (∃ s : HeldIn w0, w' = s.w) → wpAnyH P .any (p.toArray ++ s.toArray) Q (fun _ => True) s.length (Array.replicate p.length true ++ Array.replicate s.length false) a' w') (fun _ w' hw' h => by have := wpAny_of_held _ _ _ _ (h w' hw'); simpa [SplitQ] using this) _ _ _ _ ⟨⟨_, h0.drew⟩, rfl⟩ ?_
    have := wpAnyQ_lex (C := fun w' => ∃ s : HeldIn w0, w' = s.w) (md := .any) hB.1 p 0 (Array.replicate p.toArray.size false) a (by simp) (by simpa using hB.2) h
    simpa using this
  have h2 := split_sound hf (fun o ho => List.all_eq_true.1 hw o (by simpa using ho)) p.toArray.size _ a w.drew (by simp) (by
    intro j o hj hlj
    have : j < p.toArray.size := (Array.getElem?_eq_some_iff.1 hj).1
    simp at this
    simp [this] at hlj) h1
  have e1 : (Array.replicate p.toArray.size false) ++ (Array.replicate s.toArray.size false) = Array.replicate (p.toArray ++ s.toArray).size false := by simp
  have e2 : p.toArray.size + s.toArray.size = (p.toArray ++ s.toArray).size := by simp
  rw [e1, e2] at h2
  exact h2

end Go.Proofs.YtjjhhmlogddnkaiDoor
