/-
  PROVED: whatever is handed in, the law CheapWays returns true (Way of the cheapest answers a journey that costs as little as can be, or the error that the document says), and its arguments read afterwards as they read before. Conditions: none.
-/
import Derived.ProofKit
import Derived.OpenShut
import Derived.ChangeOld
import Derived.Deep.SlicePairs
import Derived.Test.YtkgbgkcbflicmacPk1
import Derived.Test.YtkgbgkcbflicmacPk2
import Derived.Test.YtkgbgkcbflicmacPk3

namespace Go.Proofs.Ytkgbgkcbflicmac
open Go.RowKit

/-- an operation waits for each of some others, itself or by way of another one of them -/
def waitsAll (ops : Array Oper) (o : Oper) : Bool := (List.range ops.size).all fun j =>
  o.after.any (fun e => Region.binds .any e && e.on == j) || (List.range ops.size).any fun k => decide (j < k) && match ops[k]? with
    | some o => o.after.any fun e => Region.binds .any e && e.on == j
    | none => false
theorem all_of_waits {ops : Array Oper} {o : Oper} {listed : Array Bool} (hl : waitsAll ops o = true) (hc : Closed ops listed) (hsz : listed.size = ops.size) (hs : ∀ e ∈ o.after, Region.binds .any e = true → e.on < ops.size → listed.getD e.on false = true) : ∀ d j, j + d = ops.size → j < ops.size → listed.getD j false = true := by
  intro d
  induction d using Nat.strongRecOn with
  | _ d ih =>
    intro j hd hj
    have h1 := List.all_eq_true.1 hl j (List.mem_range.2 hj)
    rw [Bool.or_eq_true] at h1
    rcases h1 with h1 | h1
    · obtain ⟨e, he, h2⟩ := arr_any h1
      rw [Bool.and_eq_true, beq_iff_eq] at h2
      rw [← h2.2]
      exact hs e he h2.1 (by rw [h2.2]; exact hj)
    · obtain ⟨k, hk, h2⟩ := List.any_eq_true.1 h1
      rw [List.mem_range] at hk
      rw [Bool.and_eq_true, decide_eq_true_eq] at h2
      have ho : ops[k]? = some ops[k] := Array.getElem?_eq_getElem hk
      simp only [ho] at h2
      obtain ⟨e, he, h3⟩ := arr_any h2.2
      rw [Bool.and_eq_true, beq_iff_eq] at h3
      have hkl := ih (d - (k - j)) (by omega) k (by omega) hk
      rw [← h3.2]
      refine hc k _ ho ?_ e he h3.1
      have hk' : k < listed.size := by omega
      simpa [hk'] using hkl

theorem getD_app {l r : Array Bool} {j : Nat} (d : Bool) (h : j < l.size) : (l ++ r).getD j d = l.getD j d := by
  simp [Nat.lt_of_lt_of_le h]
theorem getElem_app {ops suf : Array Oper} {j : Nat} (h : j < ops.size) : (ops ++ suf)[j]? = ops[j]? := Array.getElem?_append_left h

theorem ready_split {ops suf : Array Oper} {listed r : Array Bool} (hf : fwdB ops = true) (hw : ∀ o ∈ suf, waitsAll ops o = true) (hc : Closed ops listed) (hsz : listed.size = ops.size) (hne : Region.ready .any ops listed ≠ []) (i : Nat) :
    i ∈ Region.ready .any (ops ++ suf) (listed ++ r) ↔ i ∈ Region.ready .any ops listed := by
  rw [mem_ready, mem_ready]
  rcases Nat.lt_or_ge i ops.size with hi | hi
  · rw [getD_app true (by omega), getElem_app hi]
    refine and_congr_right fun _ => exists_congr fun o => and_congr_right fun ho => forall_congr' fun e => forall_congr' fun he => forall_congr' fun hb => ?_
    have := (fwd_spec hf ho).2 e he hb
    rw [getD_app false (by omega)]
  · constructor
    · rintro ⟨_, o, ho, hall⟩
      exfalso
      rw [Array.getElem?_append_right hi] at ho
      have hm : o ∈ suf := Array.mem_of_getElem? ho
      apply hne
      have hall2 := all_of_waits (hw o hm) hc hsz (fun e he hb hlt => by have := hall e he hb; rwa [getD_app false (by omega)] at this)
      apply List.eq_nil_iff_forall_not_mem.2
      intro j hj
      rw [mem_ready] at hj
      obtain ⟨h0, o, hoj, _⟩ := hj
      have hjlt : j < ops.size := (Array.getElem?_eq_some_iff.1 hoj).1
      have h1 := hall2 (ops.size - j) j (by omega) hjlt
      have hj' : j < listed.size := by omega
      simp [hj'] at h0 h1
      rw [h0] at h1
      cases h1
    · rintro ⟨_, o, ho, _⟩
      rw [Array.getElem?_eq_none hi] at ho
      cases ho

/-- the post of the first part -/
def SplitQ (R : Act → World → Prop) (Q : Exit → Act → World → Prop) : Exit → Act → World → Prop
  | .normal, a, w => R a w
  | e, a, w => Q e a w
theorem wp_split {P : Program} {o : Oper} {R : Act → World → Prop} {Q : Exit → Act → World → Prop} {K K' : Act → World → Prop} {a : Act} {w : World} (hK : ∀ a w, K a w → K' a w) (h : o.wp P a w K (SplitQ R Q)) : o.wp P a w K' Q := by
  unfold Oper.wp at *
  generalize (execOp a.eval o).run P w = r at *
  cases r with
  | ok n w' =>
    cases n <;> simp only [Oper.upon] at h ⊢ <;>
      first
        | exact hK _ _ h
        | exact Calls.mono h (fun e w'' he => by cases e <;> first | exact hK _ _ he | exact he)
        | exact Rows.mono h (fun _ _ he => hK _ _ he)
  | halt x w' => cases x <;> simp only [Oper.upon] at h ⊢ <;> exact h

theorem wpAny_more {P : Program} {md : Region.Mode} {ops : Array Oper} {Q : Exit → Act → World → Prop} : ∀ (fuel : Nat) (listed : Array Bool) (a : Act) (w : World), wpAny P md ops Q fuel listed a w → wpAny P md ops Q (fuel + 1) listed a w
  | 0, _, _, _, h => ⟨fun _ => h.2, by rw [h.1]; simp⟩
  | fuel + 1, _, _, _, h => ⟨h.1, fun i hi => wpOp_mono (fun a' w' h' => wpAny_more fuel _ a' w' h') (h.2 i hi)⟩
theorem wpAny_mores {P : Program} {md : Region.Mode} {ops : Array Oper} {Q : Exit → Act → World → Prop} {n : Nat} {listed : Array Bool} {a : Act} {w : World} (h : wpAny P md ops Q n listed a w) : ∀ k, wpAny P md ops Q (k + n) listed a w
  | 0 => by rwa [Nat.zero_add]
  | k + 1 => by rw [show k + 1 + n = (k + n) + 1 by omega]; exact wpAny_more _ _ _ _ (wpAny_mores h k)

theorem split_sound {P : Program} {ops suf : Array Oper} {Q : Exit → Act → World → Prop} (hf : fwdB ops = true) (hw : ∀ o ∈ suf, waitsAll ops o = true) : ∀ (fuel : Nat) (listed : Array Bool) (a : Act) (w : World), listed.size = ops.size → Closed ops listed →
    wpAny P .any ops (SplitQ (fun a w => wpAny P .any (ops ++ suf) Q suf.size (Array.replicate ops.size true ++ Array.replicate suf.size false) a w) Q) fuel listed a w → wpAny P .any (ops ++ suf) Q (fuel + suf.size) (listed ++ Array.replicate suf.size false) a w := by
  have fin : ∀ (fuel : Nat) (listed : Array Bool) (a : Act) (w : World), listed.size = ops.size → Region.ready .any ops listed = [] → wpAny P .any (ops ++ suf) Q suf.size (Array.replicate ops.size true ++ Array.replicate suf.size false) a w → wpAny P .any (ops ++ suf) Q (fuel + suf.size) (listed ++ Array.replicate suf.size false) a w := by
    intro fuel listed a w hsz hr hq
    have hall := all_listed hf hsz hr
    have e : listed = Array.replicate ops.size true := by
      apply Array.ext
      · simpa using hsz
      · intro j h1 h2
        have := hall j (by omega)
        simpa [h1] using this
    rw [e]
    exact wpAny_mores hq fuel
  intro fuel
  induction fuel with
  | zero =>
    intro listed a w hsz hc h
    exact fin 0 listed a w hsz h.1 h.2
  | succ fuel ih =>
    intro listed a w hsz hc h
    by_cases hr : Region.ready .any ops listed = []
    · exact fin (fuel + 1) listed a w hsz hr (h.1 hr)
    · rw [show fuel + 1 + suf.size = (fuel + suf.size) + 1 by omega]
      refine ⟨fun h0 => ?_, fun i hi => ?_⟩
      · exfalso
        apply hr
        apply List.eq_nil_iff_forall_not_mem.2
        intro j hj
        have := (ready_split (r := Array.replicate suf.size false) hf hw hc hsz hr j).2 hj
        rw [h0] at this
        cases this
      · have hi' := (ready_split hf hw hc hsz hr i).1 hi
        have h1 := h.2 i hi'
        obtain ⟨hun, o, ho, hdep⟩ := mem_ready.1 hi'
        have hilt : i < ops.size := (Array.getElem?_eq_some_iff.1 ho).1
        have ho' : (ops ++ suf)[i]? = some o := by rw [getElem_app hilt]; exact ho
        have hg := (fwd_spec hf ho).1
        have eset : (listed ++ Array.replicate suf.size false).setIfInBounds i true = (listed.setIfInBounds i true) ++ Array.replicate suf.size false := by
          rw [Array.setIfInBounds_append_left (by omega)]
        have hc' : Closed ops (listed.setIfInBounds i true) := by
          intro j oj hoj hlj e he hb
          by_cases hij : i = j
          · subst hij
            rw [ho] at hoj
            cases hoj
            exact getD_set_true (hdep e he hb)
          · rw [getD_set_ne true hij] at hlj
            exact getD_set_true (hc j oj hoj hlj e he hb)
        unfold wpOp at h1 ⊢
        simp only [ho, ho', Region.wanted, hg, if_true] at h1 ⊢
        rw [eset]
        refine h1.imp (fun hh => wp_split (fun a' w' hk => ih _ a' w' (by simpa using hsz) hc' hk) hh) (fun hh => ⟨hh.1, hh.2⟩)

/-- the beginning: m operations are the first part -/
theorem wp_region_split {P : Program} (w0 : World) (m : Nat) {id : Nat} {l : List Oper} {Q : Exit → Act → World → Prop} {a : Act} {w : World} (h0 : Below w0.heap.size w0 w) (hm : P.follows .mixedOrders = true) (hB : Region.lexB .any (l.take m).toArray = true) (hf : fwdB (l.take m).toArray = true) (hw : (l.drop m).all (waitsAll (l.take m).toArray) = true)
    (h : wpQuiet P (l.take m).toArray (fun w' => ∃ s : HeldIn w0, w' = s.w) (fun a' => ∀ w', (∃ s : HeldIn w0, w' = s.w) → wpAnyH P .any l.toArray Q (fun _ => True) (l.drop m).length (Array.replicate (l.take m).length true ++ Array.replicate (l.drop m).length false) a' w') (l.take m) a) : (Code.region id l.toArray true).wp P Q a w := by
  have e : l.toArray = (l.take m).toArray ++ (l.drop m).toArray := by simp
  generalize hp : l.take m = p at *
  generalize hs : l.drop m = s at *
  clear hp hs
  refine wp_region_any hm ?_
  simp only [Region.lexB, Bool.and_eq_true] at hB
  rw [e] at h ⊢
  have h1 : wpAny P .any p.toArray (SplitQ (fun a w => wpAny P .any (p.toArray ++ s.toArray) Q s.toArray.size (Array.replicate p.toArray.size true ++ Array.replicate s.toArray.size false) a w) Q) p.toArray.size (Array.replicate p.toArray.size false) a w.drew := by
    refine wpAny_of_quiet (C := fun w' => ∃ s : HeldIn w0, w' = s.w) (Q := fun a' => ∀ w', (∃ s : HeldIn w0, w' = s.w) → wpAnyH P .any (p.toArray ++ s.toArray) Q (fun _ => True) s.length (Array.replicate p.length true ++ Array.replicate s.length false) a' w') (fun _ w' hw' h => by have := wpAny_of_held _ _ _ _ (h w' hw'); simpa [SplitQ] using this) _ _ _ _ ⟨⟨_, h0.drew⟩, rfl⟩ ?_
    have := wpAnyQ_lex (C := fun w' => ∃ s : HeldIn w0, w' = s.w) (md := .any) hB.1 p 0 (Array.replicate p.toArray.size false) a (by simp) (by simpa using hB.2) h
    simpa using this
  have h2 := split_sound hf (fun o ho => List.all_eq_true.1 hw o (by simpa using ho)) p.toArray.size _ a w.drew (by simp) (by
    intro j o hj hlj
    have : j < p.toArray.size := (Array.getElem?_eq_some_iff.1 hj).1
    simp at this
    simp [this] at hlj) h1
  have e1 : (Array.replicate p.toArray.size false) ++ (Array.replicate s.toArray.size false) = Array.replicate (p.toArray ++ s.toArray).size false := by simp
  have e2 : p.toArray.size + s.toArray.size = (p.toArray ++ s.toArray).size := by simp
  rw [e1, e2] at h2
  exact h2

end Go.Proofs.Ytkgbgkcbflicmac

namespace Go.Proofs.Ytkgbgkcbflicmac
open Go.RowKit

theorem results_tmp4j {fn : Func} {t u v x : Tmp} (h : fn.results = #[.tmp t, .tmp u, .tmp v, .tmp x]) (tmps : Array Value) (P : Program) (w : World) :
    (results fn tmps).run P w = .ok (.tuple #[tmps.getD t undef, tmps.getD u undef, tmps.getD v undef, tmps.getD x undef]) w := by
  simp [results, h]
/-- what Go hands back -/
def goW (a : Int × Int × Int × Int) : Value := .tuple #[.int .i64 a.1, .int .i64 a.2.1, .int .i64 a.2.2.1, .int .i64 a.2.2.2]
/-- a stop in a box: where one is, if one is anywhere -/
structure SBx (W : World) (B : Nat) (q : Int × Int × Int) : Prop where
  c0 : W.cell? ⟨B, 0, none⟩ = some (.int .i64 q.1)
  c1 : W.cell? ⟨B, 1, none⟩ = some (.int .i64 q.2.1)
  c2 : W.cell? ⟨B, 2, none⟩ = some (.int .i64 q.2.2)
  fz : ∀ j, W.frozen? ⟨B, j, none⟩ = false
  lt : B < W.heap.size
theorem SBx.below {W W' : World} {B : Nat} {q : Int × Int × Int} (h : SBx W B q) (hb : Below W.heap.size W W') : SBx W' B q :=
  ⟨(hb.cell (p := ⟨B, 0, none⟩) h.lt).trans h.c0, (hb.cell (p := ⟨B, 1, none⟩) h.lt).trans h.c1, (hb.cell (p := ⟨B, 2, none⟩) h.lt).trans h.c2, fun j => (hb.frozen (p := ⟨B, j, none⟩) h.lt).trans (h.fz j), Nat.lt_of_lt_of_le h.lt hb.size⟩
theorem SBx.set {W : World} {B : Nat} {q : Int × Int × Int} (h : SBx W B q) (p : Int × Int × Int) : SBx (((W.setCell ⟨B, 0, none⟩ (.int .i64 p.1)).setCell ⟨B, 1, none⟩ (.int .i64 p.2.1)).setCell ⟨B, 2, none⟩ (.int .i64 p.2.2)) B p := by
  have h0 := h.c0
  have h1 := h.c1
  have h2 := h.c2
  have hf := h.fz
  refine ⟨?_, ?_, ?_, fun j => ?_, by simpa using h.lt⟩
  · rw [World.cell?_setCell_other _ _ _ _ (by simp), World.cell?_setCell_other _ _ _ _ (by simp)]; exact World.cell?_setCell_same _ _ _ h0
  · rw [World.cell?_setCell_other _ _ _ _ (by simp)]; exact World.cell?_setCell_same _ _ _ (by rw [World.cell?_setCell_other _ _ _ _ (by simp)]; exact h1)
  · exact World.cell?_setCell_same _ _ _ (by rw [World.cell?_setCell_other _ _ _ _ (by simp), World.cell?_setCell_other _ _ _ _ (by simp)]; exact h2)
  · simp [hf]
theorem sbx_start {W : World} {q : Int × Int × Int} {T : TypeId} : SBx (W.alloc (.cells #[.int .i64 q.1, .int .i64 q.2.1, .int .i64 q.2.2] T)) W.heap.size q :=
  ⟨new_cell rfl rfl, new_cell rfl rfl, new_cell rfl rfl, fun _ => new_frozen rfl, by simp⟩
/-- the graph's box and the stop's -/
theorem GBx.set {w W : World} {B D : Nat} {g : Gr} {la ea : Option Addr} {lc ec : Nat} (h : GBx w W B g la ea lc ec) (hne : B ≠ D) (hD : w.heap.size ≤ D) (x y z : Value) : GBx w (((W.setCell ⟨D, 0, none⟩ x).setCell ⟨D, 1, none⟩ y).setCell ⟨D, 2, none⟩ z) B g la ea lc ec := by
  have h0 := h.c0
  have h1 := h.c1
  have h2 := h.c2
  have hne' : ¬ D = B := fun e => hne e.symm
  refine ⟨?_, ?_, ?_, set3 h.bel hD _ _ _, by simpa using h.lt⟩
  · rw [World.cell?_setCell_far _ _ _ _ hne', World.cell?_setCell_far _ _ _ _ hne', World.cell?_setCell_far _ _ _ _ hne']; exact h0
  · rw [World.cell?_setCell_far _ _ _ _ hne', World.cell?_setCell_far _ _ _ _ hne', World.cell?_setCell_far _ _ _ _ hne']; exact h1
  · rw [World.cell?_setCell_far _ _ _ _ hne', World.cell?_setCell_far _ _ _ _ hne', World.cell?_setCell_far _ _ _ _ hne']; exact h2

end Go.Proofs.Ytkgbgkcbflicmac

namespace Go.Proofs.Ytkgbgkcbflicmac
open Go.RowKit

/-- two vertices, one edge -/
def gPair : Gr := ⟨10, [(0, 10), (2, 9)], [(0, 1, [(1, 4, 3, 7)])]⟩

theorem pair_at (w : World) (o : Obj) (T1 T2 T3 : TypeId) : GAt ((((w.alloc o).alloc (.cells #[.int .i64 0, .int .i64 10, .int .i64 2, .int .i64 9] T1)).alloc (.cells #[.int .i64 1, .int .i64 4, .int .i64 3, .int .i64 7] T2)).alloc (.cells #[.int .i64 0, .int .i64 1, .slice (some ⟨w.heap.size + 1 + 1, 0, none⟩) 1 1] T3)) (some ⟨w.heap.size + 1, 0, none⟩) (some ⟨w.heap.size + 1 + 1 + 1, 0, none⟩) gPair := by
  refine ⟨.inr ⟨_, _, rfl, by simp <;> omega, fun j hj => ?_⟩, .inr ⟨_, _, rfl, by simp, fun j hj => ?_⟩, by simp [gPair], by simp [gPair]⟩
  · have hj' : j = 0 ∨ j = 1 := by simp [gPair] at hj; omega
    rcases hj' with rfl | rfl
    · exact ⟨by rw [(gal _ _).cell (by simp <;> omega), (gal _ _).cell (by simp <;> omega)]; exact new_cell (by simp) rfl, by rw [(gal _ _).cell (by simp <;> omega), (gal _ _).cell (by simp <;> omega)]; exact new_cell (by simp) rfl⟩
    · exact ⟨by rw [(gal _ _).cell (by simp <;> omega), (gal _ _).cell (by simp <;> omega)]; exact new_cell (by simp) rfl, by rw [(gal _ _).cell (by simp <;> omega), (gal _ _).cell (by simp <;> omega)]; exact new_cell (by simp) rfl⟩
  · have hj' : j = 0 := by simp [gPair] at hj; omega
    subst hj'
    refine ⟨new_cell (by simp) rfl, new_cell (by simp) rfl, some ⟨w.heap.size + 1 + 1, 0, none⟩, 1, new_cell (by simp) rfl, .inr ⟨_, _, rfl, by simp <;> omega, fun k hk => ?_⟩, by simp [gPair], by omega⟩
    have hk' : k = 0 := by simp [gPair] at hk; omega
    subst hk'
    exact ⟨by rw [(gal _ _).cell (by simp <;> omega)]; exact new_cell (by simp) rfl, by rw [(gal _ _).cell (by simp <;> omega)]; exact new_cell (by simp) rfl, by rw [(gal _ _).cell (by simp <;> omega)]; exact new_cell (by simp) rfl, by rw [(gal _ _).cell (by simp <;> omega)]; exact new_cell (by simp) rfl⟩

theorem pair_yes : goAns gPair 0 0 [(0, 3)] = (1, 6, 7, 0) := by decide
theorem pair_no : goAns gPair 0 0 [(0, 4)] = (0, 0, 0, 5) := by decide

theorem one_hop (w : World) (T : TypeId) (a b : Int) : IvAt (w.alloc (.cells #[.int .i64 a, .int .i64 b] T)) (some ⟨w.heap.size, 0, none⟩) [(a, b)] := by
  refine .inr ⟨_, _, rfl, by simp, fun j hj => ?_⟩
  have hj' : j = 0 := by simp at hj; omega
  subst hj'
  exact ⟨new_cell rfl rfl, new_cell rfl rfl⟩

end Go.Proofs.Ytkgbgkcbflicmac

namespace Go.Proofs.Ytkgbgkcbflicmac
open Go.RowKit

theorem outsF_len {g : Gr} {v t : Int} (hp : placeE g v t = 0) : (outsF g v t).length ≤ 3000 := by
  obtain ⟨hg0, _, ht0, _⟩ := placeE_zero hp
  have hR := gChk_right hg0
  have h1 := hR.hor
  have h2 := hR.eds
  unfold outsF
  split
  · exact Nat.le_trans (outsTo_len g v t _) (Nat.le_trans (Nat.mul_le_mul (show (g.hor - t).toNat ≤ 100 by omega) h2) (by omega))
  · simp

/-- what walk tells: a journey, and where one is behind it -/
def WalkIs (g : Gr) (v t : Int) (l : List Hp) (a b : Int) : Prop := (l = [] ∧ a = v ∧ b = t) ∨ (gChk g = 0 ∧ There g (v, t, 0) ∧ ∃ c, goF g (some (v, t, 0)) l = some (a, b, c))
theorem WalkIs.more {g : Gr} {v t a b n u c : Int} {l : List Hp} {h : Hp} (hw : WalkIs g v t l a b) (hg : goAns g a b [h] = (n, u, c, 0)) : WalkIs g v t (l ++ [h]) n u := by
  obtain ⟨h1, h2, _, h3⟩ := goAns_right hg
  right
  rcases hw with ⟨rfl, rfl, rfl⟩ | ⟨k1, k2, c', k3⟩
  · exact ⟨h1, h2, c, h3⟩
  · refine ⟨k1, k2, c + c', ?_⟩
    rw [goF_append, k3, goF_cost, h3]
    rfl

theorem results_tmp3j {fn : Func} {t u v : Tmp} (h : fn.results = #[.tmp t, .tmp u, .tmp v]) (tmps : Array Value) (P : Program) (w : World) :
    (results fn tmps).run P w = .ok (.tuple #[tmps.getD t undef, tmps.getD u undef, tmps.getD v undef]) w := by
  simp [results, h]

end Go.Proofs.Ytkgbgkcbflicmac

namespace Go.Proofs.Ytkgbgkcbflicmac
open Go.RowKit

/-- is a number that of a vertex? -/
def vtxB (g : Gr) (v : Int) : Bool := decide (0 ≤ v) && decide (v < (g.lives.length : Int))
theorem vtxB_iff (g : Gr) (v : Int) : vtxB g v = true ↔ 0 ≤ v ∧ v < (g.lives.length : Int) := by unfold vtxB; simp
set_option maxRecDepth 100000 in
theorem hasVertex_any (g : Gr) (la ea : Option Addr) (lc ec : Nat) (v : Int) (w : World) :
    Calls Try.prog 28 #[.agg #[.int .i64 g.hor, .slice la g.lives.length lc, .slice ea g.edges.length ec], .int .i64 v] w fun r w' => r = .returned (.bool (vtxB g v)) ∧ Below w.heap.size w w' := by
  have HB := hideg (gal w)
  by_cases h1 : 0 ≤ v
  · have d1 : decide (0 ≤ v) = true := by simpa using h1
    have HE : Hid (vtxB g v = decide (v < (g.lives.length : Int))) := by show _ = _; unfold vtxB; rw [d1, Bool.true_and]
    go_enter Try.func28, Try.ntmps28
    go_wp2
    go_ret
    exact ⟨by rw [HE.out]; rfl, HB.out _⟩
  · have d1 : decide (0 ≤ v) = false := by simpa using h1
    have HE : Hid (vtxB g v = false) := by show _ = _; unfold vtxB; rw [d1, Bool.false_and]
    go_enter Try.func28, Try.ntmps28
    go_wp2
    go_ret
    exact ⟨by rw [HE.out]; rfl, HB.out _⟩

/-- what Fastest tells -/
def FastE (g : Gr) (v q d a e : Int) : Prop :=
  (gChk g ≠ 0 ∧ e = gChk g ∧ d = 0 ∧ a = 0) ∨ (gChk g = 0 ∧ ¬ ((0 ≤ v ∧ v < (g.lives.length : Int)) ∧ 0 ≤ q ∧ q < (g.lives.length : Int)) ∧ e = 4 ∧ d = 0 ∧ a = 0) ∨
  (gChk g = 0 ∧ ((0 ≤ v ∧ v < (g.lives.length : Int)) ∧ 0 ≤ q ∧ q < (g.lives.length : Int)) ∧ FastIs g v q d a e)

/-- the states at which one may set out, of the times up to t -/
def outM (g : Gr) (v t : Int) : Mp := fun x y => if x = v ∧ aliveB y g.lives v = true ∧ y < t then some (-y, 0, 0, 0, 0, 0, 0) else none

theorem outM_first {g : Gr} {V : Nat} (hV : V < g.lives.length) : outM g (V : Int) g.lives[V].1 = fun _ _ => none := by
  funext x y
  unfold outM
  rw [if_neg]
  rintro ⟨_, h1, h2⟩
  rw [aliveB_at _ _ _ hV] at h1
  have := (hasB_iff _ _ _).1 h1
  omega
theorem outM_next {g : Gr} {V : Nat} (hV : V < g.lives.length) {t : Int} (h1 : g.lives[V].1 ≤ t) (h2 : t < g.lives[V].2) : mset (outM g (V : Int) t) (V : Int) t (-t, 0, 0, 0, 0, 0, 0) = outM g (V : Int) (t + 1) := by
  have ha : aliveB t g.lives (V : Int) = true := by rw [aliveB_at _ _ _ hV]; exact (hasB_iff _ _ _).2 ⟨h1, h2⟩
  funext x y
  unfold mset outM
  by_cases e : x = (V : Int) ∧ y = t
  · obtain ⟨rfl, rfl⟩ := e
    rw [if_pos ⟨rfl, rfl⟩, if_pos ⟨rfl, ha, by omega⟩]
  · rw [if_neg e]
    by_cases e2 : x = (V : Int) ∧ aliveB y g.lives (V : Int) = true ∧ y < t
    · rw [if_pos e2, if_pos ⟨e2.1, e2.2.1, by omega⟩]
    · rw [if_neg e2, if_neg (fun k => e2 ⟨k.1, k.2.1, by have := fun h => e ⟨k.1, h⟩; omega⟩)]
theorem outM_last {g : Gr} {V : Nat} (hV : V < g.lives.length) (x y : Int) : (outM g (V : Int) g.lives[V].2 x y).map (·.1) = FF g (V : Int) x y := by
  unfold outM FF
  by_cases e : x = (V : Int) ∧ aliveB y g.lives (V : Int) = true
  · have h1 := e.2
    rw [aliveB_at _ _ _ hV] at h1
    have := (hasB_iff _ _ _).1 h1
    rw [if_pos ⟨e.1, e.2, by omega⟩, if_pos e]; rfl
  · rw [if_neg (fun k => e ⟨k.1, k.2.1⟩), if_neg e]; rfl

set_option maxRecDepth 100000 in
set_option maxHeartbeats 1000000 in
theorem cFastest_any (g : Gr) (la ea : Option Addr) (lc ec : Nat) (v q : Int) (w : World) (hG : GAt w la ea g) :
    Calls Try.prog 15 #[.agg #[.int .i64 g.hor, .slice la g.lives.length lc, .slice ea g.edges.length ec], .int .i64 v, .int .i64 q] w fun r w' => ∃ d a e, r = .returned (.tuple #[.int .i64 d, .int .i64 a, .int .i64 e]) ∧ FastE g v q d a e ∧ Below w.heap.size w w' := by
  have B0 := gbx_start w g la ea lc ec 25
  have h1 := gCheck_any g la ea lc ec _ (hG.below B0.bel)
  by_cases e1 : gChk g = 0
  case neg =>
    have HP : Hid (FastE g v q 0 0 (gChk g)) := .inl ⟨e1, rfl, rfl, rfl⟩
    have d1 : (gChk g != 0) = true := by simpa using e1
    generalize gChk g = n at *
    clear e1 hG
    go_enter Try.func15, Try.ntmps15
    go_wp2_with fail
    refine h1.mono ?_
    rintro r w1 ⟨rfl, hb1⟩
    have hbF := (B0.below hb1).bel
    clear h1 hb1 B0
    go_wp2
    (try simp only [Exit.inBlock, Exit.then]); refine bodyPost_ret (results_tmp3j rfl _ _ _) rfl ?_
    exact ⟨_, _, _, rfl, HP.out, hbF⟩
  have hR := gChk_right e1
  have hv := fun W => hasVertex_any g la ea lc ec v W
  have hq := fun W => hasVertex_any g la ea lc ec q W
  have HNo : Hid (¬ (vtxB g v = true ∧ vtxB g q = true) → FastE g v q 0 0 4) := fun h => .inr (.inl ⟨e1, by rw [vtxB_iff, vtxB_iff] at h; exact h, rfl, rfl, rfl⟩)
  have HYes : Hid (vtxB g v = true ∧ vtxB g q = true → ∀ d a e, FastIs g v q d a e → FastE g v q d a e) := fun h d a e h' => .inr (.inr ⟨e1, by rw [vtxB_iff, vtxB_iff] at h; exact h, h'⟩)
  rw [e1] at h1
  have HVi := hideg (vtxB_iff g v)
  have HQi := hideg (vtxB_iff g q)
  have HRt := hideg hR
  have HG0 := hideg hG
  clear e1 hR hG
  cases bv : vtxB g v with
  | false =>
    rw [bv] at hv HNo
    have HF := hideg (HNo.out (by simp))
    clear HYes HNo HVi HQi hq bv
    go_enter Try.func15, Try.ntmps15
    go_wp2_with fail
    refine h1.mono ?_
    rintro r w1 ⟨rfl, hb1⟩
    have B1 := B0.below hb1
    have g0 := B1.c0
    have g1 := B1.c1
    have g2 := B1.c2
    clear h1 hb1 B0
    go_wp2_with fail
    refine (hv _).mono ?_
    rintro r w2 ⟨rfl, hb2⟩
    have hbF := (B1.below hb2).bel
    clear hv hb2 B1 g0 g1 g2
    go_wp2
    (try simp only [Exit.inBlock, Exit.then]); refine bodyPost_ret (results_tmp3j rfl _ _ _) rfl ?_
    exact ⟨_, _, _, rfl, HF.out, hbF⟩
  | true =>
    cases bq : vtxB g q with
    | false =>
      rw [bv] at hv
      rw [bq] at hq HNo
      have HF := hideg (HNo.out (by simp))
      clear HYes HNo HVi HQi bv bq
      go_enter Try.func15, Try.ntmps15
      go_wp2_with fail
      refine h1.mono ?_
      rintro r w1 ⟨rfl, hb1⟩
      have B1 := B0.below hb1
      have g0 := B1.c0
      have g1 := B1.c1
      have g2 := B1.c2
      clear h1 hb1 B0
      go_wp2_with fail
      refine (hv _).mono ?_
      rintro r w2 ⟨rfl, hb2⟩
      have B2 := B1.below hb2
      clear hv hb2 B1 g0 g1 g2
      have g0 := B2.c0
      have g1 := B2.c1
      have g2 := B2.c2
      go_wp2_with fail
      refine (hq _).mono ?_
      rintro r w3 ⟨rfl, hb3⟩
      have hbF := (B2.below hb3).bel
      clear hq hb3 B2 g0 g1 g2
      go_wp2
      (try simp only [Exit.inBlock, Exit.then]); refine bodyPost_ret (results_tmp3j rfl _ _ _) rfl ?_
      exact ⟨_, _, _, rfl, HF.out, hbF⟩
    | true =>
      rw [bv] at hv
      rw [bq] at hq
      have HY := hideg (HYes.out ⟨bv, bq⟩)
      obtain ⟨hv0, hv1⟩ := HVi.out.1 bv
      obtain ⟨hq0, hq1⟩ := HQi.out.1 bq
      clear HYes HNo HVi HQi bv bq
      obtain ⟨V, rfl⟩ : ∃ V : Nat, v = (V : Int) := ⟨v.toNat, by omega⟩
      obtain ⟨Y, rfl⟩ : ∃ Y : Nat, q = (Y : Int) := ⟨q.toNat, by omega⟩
      have hVg : V < g.lives.length := by omega
      have hVi : (V : Int) < (g.lives.length : Int) := by omega
      have hlf := HRt.out.life _ (List.getElem_mem hVg)
      have hhor := HRt.out.hor
      have hlv := HRt.out.lvs
      have HSp := hideg (fun b n M0 W (hGW : GAt W la ea g) (hMW : MapAt W b n M0) (hn : n ≤ 200) (hM0 : ∀ x y, (M0 x y).map (·.1) = FF g (V : Int) x y) => spread_any g la ea lc ec (FF g (V : Int)) prZero 0 30 (fun args w => Try.call30 args w) b n M0 W hGW HRt.out (FF_ok HRt.out hv0) hMW hn ⟨by omega, by omega⟩ hM0 (prZero_ok g) (fun x y p h => by have := ff_range HRt.out h; omega) nothing_any)
      have HF1 := hideg (outM_first hVg)
      have HF2 := hideg (fun t => outM_next (t := t) hVg)
      have HF3 := hideg (outM_last hVg)
      have HFa := hideg (fun M (S : SpE g (FF g (V : Int)) (fun _ => 0) M) => fast_of HRt.out (q := (Y : Int)) hv0 S)
      have HFr := hideg (fun M (S : SpE g (FF g (V : Int)) (fun _ => 0) M) x y z (hz : M x y = some z) => ff_range HRt.out (S.snd x y z hz))
      have hmm := @run_makeMap Try.prog
      have hY12 : (Y : Int) < 100 := by omega
      clear hq0 hq1 hv0 hv1
      go_enter Try.func15, Try.ntmps15
      go_wp2_with fail
      refine h1.mono ?_
      rintro r w1 ⟨rfl, hb1⟩
      have B1 := B0.below hb1
      have g0 := B1.c0
      have g1 := B1.c1
      have g2 := B1.c2
      clear h1 hb1 B0
      go_wp2_with fail
      refine (hv _).mono ?_
      rintro r w2 ⟨rfl, hb2⟩
      have B2 := B1.below hb2
      clear hv hb2 B1 g0 g1 g2
      have g0 := B2.c0
      have g1 := B2.c1
      have g2 := B2.c2
      go_wp2_with fail
      refine (hq _).mono ?_
      rintro r w3 ⟨rfl, hb3⟩
      have B3 := B2.below hb3
      clear hq hb3 B2 g0 g1 g2
      obtain ⟨w4, hw4⟩ : ∃ x, x = w3.alloc (.map #[] 0) := ⟨_, rfl⟩
      have hM4 : MapAt w4 w3.heap.size 0 (fun _ _ => none) := by rw [hw4]; exact mapAt_made w3
      have b4 : Below w3.heap.size w3 w4 := by rw [hw4]; exact gal w3 _
      have B4 := B3.below b4
      have G4 := HG0.out.below B4.bel
      have s3 := B3.lt
      obtain ⟨lb, lof, rfl, hlb, l0, l1⟩ : ∃ b off, la = some ⟨b, off, none⟩ ∧ b < w4.heap.size ∧ (w4.cell? ⟨b, off + V * 2, none⟩ = some (.int .i64 g.lives[V].1) ∧ w4.cell? ⟨b, off + V * 2 + 1, none⟩ = some (.int .i64 g.lives[V].2)) := by
        rcases G4.lv with h0 | ⟨b, off, rfl, hbr, hc⟩
        · rw [h0] at hVg; simp at hVg
        exact ⟨b, off, rfl, hbr, IvAt.get hVg hc⟩
      have hw4s := hw4.symm
      have HM4 := hideg hM4
      have HB4 := hideg B4
      have HG4 := hideg G4
      have HbB : Hid (w.heap.size ≤ w3.heap.size) := B3.bel.size
      have HL0 := hideg l0
      have HL1 := hideg l1
      have g1 := B4.c1
      obtain ⟨b, hb⟩ : ∃ b, b = w3.heap.size := ⟨_, rfl⟩
      generalize g.lives[V] = lf at *
      clear hw4 b4 hM4 B4 G4 B3 s3
      go_wp2_with fail
      clear hw4s
      rw [← hb] at HM4 HbB ⊢
      clear hb g1 l0 l1 hlb
      go_loopw [11] (fun x wr => ∃ k : Nat, lf.1 + (k : Int) ≤ lf.2 ∧ x = .int .i64 (lf.1 + (k : Int)) ∧ MapAt wr b k (outM g (V : Int) (lf.1 + (k : Int))) ∧ w4.grownBy wr (some b)) (fun x _ => (lf.2 - intOf x).toNat)
      case atStart => exact ⟨0, by simp only [Int.natCast_zero, Int.add_zero]; omega, by simp, by simp only [Int.natCast_zero, Int.add_zero]; rw [HF1.out]; exact HM4.out, gby_refl _ _⟩
      case round =>
        obtain ⟨k, hk, rfl, hMk, hg⟩ := hrel
        obtain ⟨g0, g1, g2⟩ := GBx.gby HM4.out hg HB4.out
        have l0 := HM4.out.cell hg HL0.out
        have l1 := HM4.out.cell hg HL1.out
        by_cases hkl : lf.1 + (k : Int) < lf.2
        · have hww : IntKind.i64.wrap (lf.1 + (k : Int) + 1) = lf.1 + (k : Int) + 1 := wrap_nj _ (by omega) (by omega)
          have hwn : IntKind.i64.wrap (-(lf.1 + (k : Int))) = -(lf.1 + (k : Int)) := wrap_nj _ (by omega) (by omega)
          have HF2k := hideg (HF2.out (lf.1 + (k : Int)) (by omega) hkl)
          obtain ⟨w5, hup, hM5, hg5⟩ := hMk.store (by unfold maxLen; omega) (v := (V : Int)) (t := lf.1 + (k : Int)) (wi_small (by omega) (by omega)) (wi_small (by omega) (by omega)) (-(lf.1 + (k : Int)), 0, 0, 0, 0, 0, 0)
          simp only [keyV, encV_mk] at hup
          rw [HF2k.out] at hM5
          have HM5 := hideg hM5
          have HG5 := hideg (gby_trans hg hg5)
          clear hMk hg hM5 hg5 HF2k
          go_wp2
          go_roundw
          case rel => exact ⟨k + 1, by omega, by congr 1; omega, by rw [show lf.1 + ((k + 1 : Nat) : Int) = lf.1 + (k : Int) + 1 by omega]; exact HM5.out, HG5.out⟩
          case measure => simp [intOf]; omega
        · have hke : lf.1 + (k : Int) = lf.2 := by omega
          rw [hke] at hMk hkl ⊢
          have hSp := HSp.out b k _ wr (HM4.out.gat hg HG4.out) hMk (by omega) HF3.out
          have HBr : Hid (∀ W, wr.grownBy W (some b) → Below w.heap.size w W ∧ W.cell? ⟨w.heap.size, 0, none⟩ = some (.int .i64 g.hor)) := fun W h => ⟨((HB4.out.bel.grown hg HB4.out.bel.size (fun j hj => by cases hj; exact HbB.out)).grown h (Nat.le_trans HB4.out.bel.size hg.size) (fun j hj => by cases hj; exact HbB.out)), HM4.out.cell (gby_trans hg h) HB4.out.c0⟩
          clear hMk hg HSp HF1 HF2 HF3 hke
          go_wp2_with fail
          refine hSp.mono ?_
          rintro r w5 ⟨⟨vv, rfl⟩, ⟨n5, M5, hM5, hE5⟩, hg5⟩
          obtain ⟨hb5, k0⟩ := HBr.out w5 hg5
          have HB5 := hideg hb5
          have HM5 := hideg hM5
          obtain ⟨HA1, HA2⟩ := HFa.out M5 hE5
          have HA1 := hideg HA1
          have HA2 := hideg HA2
          have HR5 := hideg (HFr.out M5 hE5 (Y : Int))
          obtain ⟨H, hH⟩ : ∃ H : Nat, g.hor = (H : Int) := ⟨g.hor.toNat, by omega⟩
          rw [hH, Int.toNat_natCast] at HA1 HA2
          rw [hH] at k0
          clear hSp hM5 hE5 hg5 hb5 g0 g1 g2 l0 l1 HBr HFa HFr HM4 HB4 HG4 HL0 HL1
          have hH1 : H ≤ 100 := by omega
          go_wp2_with fail
          clear k0
          go_loopw [12, 13, 61] (fun x y i wr => ∃ k : Nat, k ≤ H ∧ i = .int .i64 k ∧ x = .int .i64 (fsF M5 (Y : Int) k).1 ∧ y = .int .i64 (fsF M5 (Y : Int) k).2 ∧ Below w5.heap.size w5 wr) (fun _ _ i _ => H - (intOf i).toNat)
          case atStart => exact ⟨0, Nat.zero_le _, rfl, rfl, rfl, Below.refl _ _⟩
          case round =>
            obtain ⟨k, hk, rfl, rfl, rfl, hbr⟩ := hrel
            by_cases hkl : k < H
            · have hki : (k : Int) < (H : Int) := by omega
              have hkw : IntKind.i64.wrap ((k : Int) + 1) = (k : Int) + 1 := wrap_nj _ (by omega) (by omega)
              have q1 := (HM5.out.below hbr).look (v := (Y : Int)) (t := (k : Int)) (wi_small (by omega) (by omega)) (wi_small (by omega) (by omega))
              have HSu : Hid (fsF M5 (Y : Int) (k + 1) = match M5 (Y : Int) (k : Int) with | none => fsF M5 (Y : Int) k | some z => if (k : Int) + z.1 < (fsF M5 (Y : Int) k).1 then ((k : Int) + z.1, -z.1) else fsF M5 (Y : Int) k) := rfl
              have HBk : Hid (∀ o N, Below w5.heap.size w5 ((wr.alloc o).drewN N)) := fun o N => below_drewN (hbr.alloc hbr.size o) N
              have HBk0 : Hid (∀ o, Below w5.heap.size w5 (wr.alloc o)) := fun o => hbr.alloc hbr.size o
              generalize fsF M5 (Y : Int) k = fk at *
              obtain ⟨x0, y0⟩ := fk
              clear hbr
              cases hz : M5 (Y : Int) (k : Int) with
              | none =>
                rw [hz] at q1 HSu
                simp only [keyV, Option.getD_none, encV_mk, Option.isSome_none] at q1
                simp only at HSu ⊢
                clear hz
                go_wp2
                go_roundw
                case rel => exact ⟨k + 1, by omega, by go_num, by rw [HSu.out], by rw [HSu.out], HBk0.out _⟩
                case measure => simp [intOf]; omega
              | some z =>
                obtain ⟨q, E2, d2, a2, e2, ar2, c2⟩ := z
                have hqr := HR5.out (k : Int) _ hz
                rw [hz] at q1 HSu
                simp only [keyV, Option.getD_some, encV_mk, Option.isSome_some] at q1
                simp only at HSu hqr ⊢
                have hw2 : IntKind.i64.wrap ((k : Int) + q) = (k : Int) + q := wrap_nj _ (by omega) (by omega)
                have hw3 : IntKind.i64.wrap (-q) = -q := wrap_nj _ (by omega) (by omega)
                obtain ⟨wa, hwa⟩ : ∃ x, x = wr.alloc (.cells #[.int .i64 q, .int .i64 E2, .int .i64 d2, .int .i64 a2, .int .i64 e2, .int .i64 ar2, .int .i64 c2] 68) := ⟨_, rfl⟩
                have v0 : wa.cell? ⟨wr.heap.size, 0, none⟩ = some (.int .i64 q) := by rw [hwa]; exact new_cell rfl rfl
                have HBa : Hid (∀ N, Below w5.heap.size w5 (wa.drewN N)) := fun N => by rw [hwa]; exact HBk.out _ N
                have HBb : Hid (Below w5.heap.size w5 wa) := by rw [hwa]; exact HBk0.out _
                have hwas := hwa.symm
                clear hwa hz HBk HBk0
                by_cases hl : (k : Int) + q < x0
                · have HS2 : Hid (fsF M5 (Y : Int) (k + 1) = ((k : Int) + q, -q)) := by show _ = _; rw [HSu.out, if_pos hl]
                  clear HSu
                  go_wp2_with fail
                  go_quiet (fail)
                  clear v0
                  go_wp2
                  go_roundw
                  case rel => exact ⟨k + 1, by omega, by go_num, by rw [HS2.out], by rw [HS2.out], HBa.out _⟩
                  case measure => simp [intOf]; omega
                · have HS2 : Hid (fsF M5 (Y : Int) (k + 1) = (x0, y0)) := by show _ = _; rw [HSu.out, if_neg hl]
                  clear HSu
                  go_wp2
                  go_roundw
                  case rel => exact ⟨k + 1, by omega, by go_num, by rw [HS2.out], by rw [HS2.out], HBb.out⟩
                  case measure => simp [intOf]; omega
            · have hke : H = k := by omega
              subst hke
              have HbF : Hid (Below w.heap.size w wr) := HB5.out.trans (hbr.mono HB5.out.size)
              clear hbr
              generalize fsF M5 (Y : Int) H = fk at *
              obtain ⟨x0, y0⟩ := fk
              simp only at HA1 HA2 ⊢
              by_cases hx : x0 = 1099511627776
              · have HX := hideg (HY.out _ _ _ (HA1.out hx))
                have dx : (x0 == 1099511627776) = true := by simpa using hx
                clear HA1 HA2 HY
                go_wp2
                (try simp only [Exit.inBlock, Exit.then]); refine bodyPost_ret (results_tmp3j rfl _ _ _) rfl ?_
                exact ⟨_, _, _, rfl, HX.out, HbF.out⟩
              · have HX := hideg (HY.out _ _ _ (HA2.out hx))
                have dx : (x0 == 1099511627776) = false := by simpa using hx
                clear HA1 HA2 HY
                go_wp2
                (try simp only [Exit.inBlock, Exit.then]); refine bodyPost_ret (results_tmp3j rfl _ _ _) rfl ?_
                exact ⟨_, _, _, rfl, HX.out, HbF.out⟩

end Go.Proofs.Ytkgbgkcbflicmac

namespace Go.Proofs.Ytkgbgkcbflicmac
open Go.RowKit

theorem VisOk.none {g : Gr} (R : Right g) {pr : Ri → Int} {v t : Int} (h0 : 0 ≤ v) {M : Mp} (h : VisOk g pr v t M) {x : Nat} (hx : x < g.lives.length) (hz : M (x : Int) (lastT g x) = .none) : ∀ τ p, ¬ Pay g pr v t (x : Int) τ p := fun τ p hp => by
  obtain ⟨k1, k2, _⟩ := last_alive R hx
  obtain ⟨z, hz', _⟩ := h.all (hp.waits R h0 (k2 _ (hp.place R h0).2.2.1) k1)
  rw [hz] at hz'; cases hz'
theorem VisOk.least {g : Gr} (R : Right g) {pr : Ri → Int} {v t : Int} (h0 : 0 ≤ v) {M : Mp} (h : VisOk g pr v t M) {x : Nat} (hx : x < g.lives.length) {z : Vs} (hz : M (x : Int) (lastT g x) = some z) : ∀ τ p, Pay g pr v t (x : Int) τ p → z.1 ≤ p := fun τ p hp => by
  obtain ⟨k1, k2, _⟩ := last_alive R hx
  obtain ⟨z', hz', h1⟩ := h.all (hp.waits R h0 (k2 _ (hp.place R h0).2.2.1) k1)
  rw [hz] at hz'; cases hz'; exact h1
/-- on the way back: at x at y, the hops l (the last one first) lead on to q -/
structure Bk (g : Gr) (M : Mp) (q P x y : Int) (l : List Hp) : Prop where
  at_ : ∃ z, M x y = some z ∧ ∃ K, Leads g x y q K l.reverse ∧ z.1 + K = P
  len : (l.length : Int) + y ≤ 100
theorem Bk.step {g : Gr} (R : Right g) {v t : Int} {M : Mp} (S : SpE g (F1 v t) prCost M) {q P x y : Int} {l : List Hp} (h : Bk g M q P x y l) (hx : x ≠ v) {z : Vs} (hz : M x y = some z) :
    Bk g M q P z.2.2.2.1 z.2.2.1 (l ++ [(z.2.1, z.2.2.1)]) ∧ z.2.2.1 < y ∧ RideOk g z.2 := by
  obtain ⟨⟨z', hz', K, hL, hP⟩, hl⟩ := h
  rw [hz] at hz'; cases hz'
  rcases S.way _ _ _ hz with ⟨t0, h1, _⟩ | ⟨h1, h2, h3, z2, h4, h5⟩
  · unfold F1 at h1
    split at h1
    · rename_i e; exact absurd e.1 hx
    · cases h1
  · have hok := mem_rides R h1
    have hlt := hok.lt
    refine ⟨⟨⟨z2, h4, K + z.2.2.2.2.2.2, ?_, ?_⟩, ?_⟩, by omega, hok⟩
    · rw [List.reverse_append]; exact hL.cons hok h2 h3
    · unfold prCost at h5; omega
    · rw [List.length_append, List.length_singleton]; omega
theorem Bk.fin {g : Gr} (R : Right g) {v t : Int} (h0 : 0 ≤ v) (ha : aliveB t g.lives v = true) {M : Mp} (S : SpE g (F1 v t) prCost M) {q P y : Int} {l : List Hp} (h : Bk g M q P v y l) : ∃ τ, goF g (some (v, t, 0)) l.reverse = some (q, τ, P) := by
  obtain ⟨⟨z, hz, K, hL, hP⟩, _⟩ := h
  obtain ⟨k1, k2⟩ := own_zero R (prCost_ok R) h0 ha S hz
  obtain ⟨τ, h1⟩ := hL t 0 k2
  exact ⟨τ, by rw [h1]; congr 3; omega⟩

theorem gby_ownW {w1 wq w3 : World} {ge : Nat} {v : Value} (h : w1.grownBy wq (some ge)) (o : Obj) (hgr : (wq.alloc o).grownBy w3 v.ownBlock) (hv : ∀ j, v.ownBlock = some j → w1.heap.size ≤ j) : w1.grownBy w3 (some ge) :=
  ⟨hgr.os.trans h.os, hgr.tape.trans h.tape, hgr.output.trans h.output, Nat.le_trans h.size (Nat.le_trans (gal wq o).size hgr.size), fun k hk hne => by
    have hk2 : k < wq.heap.size := Nat.lt_of_lt_of_le hk h.size
    rw [hgr.block k (Nat.lt_of_lt_of_le hk2 (gal wq o).size) (fun e => by have := hv k e.symm; omega), (gal wq o).block k hk2]
    exact h.block k hk hne⟩

theorem run_by (p E d a e ar c : Int) (w : World) : (Instr.field 68 (.agg #[.int .i64 p, .int .i64 E, .int .i64 d, .int .i64 a, .int .i64 e, .int .i64 ar, .int .i64 c]) 1).run Try.prog w = .ok (.agg #[.int .i64 E, .int .i64 d, .int .i64 a, .int .i64 e, .int .i64 ar, .int .i64 c]) w := by kernel_rfl
set_option maxRecDepth 100000 in
set_option maxHeartbeats 1000000 in
theorem cWay_any (g : Gr) (la ea : Option Addr) (lc ec : Nat) (v t q : Int) (w : World) (hG : GAt w la ea g) :
    Calls Try.prog 20 #[.agg #[.int .i64 g.hor, .slice la g.lives.length lc, .slice ea g.edges.length ec], .int .i64 v, .int .i64 t, .int .i64 q] w fun r w' => ∃ u e l, r = .returned (.tuple #[u, .int .i64 e]) ∧ CWayIs g v t q e l ∧ w'.ownsRow w.heap.size 48 2 u l.length (encs l) ∧ Below w.heap.size w w' := by
  obtain ⟨i0, hi, hz0, hz1, hz2⟩ := info_parts Try.infoHopE
  have B0 := gbx_start w g la ea lc ec 25
  have h1 := jcheck_any g la ea lc ec v t _ (hG.below B0.bel)
  by_cases e1 : placeE g v t = 0
  case neg =>
    have HP : Hid (CWayIs g v t q (placeE g v t) []) := .inl ⟨e1, rfl, rfl⟩
    have d1 : (placeE g v t != 0) = true := by simpa using e1
    generalize placeE g v t = n at *
    clear e1 hG
    go_enter Try.func20, Try.ntmps20
    go_wp2_with fail
    refine h1.mono ?_
    rintro r w1 ⟨rfl, hb1⟩
    have hbF := (B0.below hb1).bel
    clear h1 hb1 B0
    go_wp2
    (try simp only [Exit.inBlock, Exit.then]); refine bodyPost_ret (results_two_e rfl _ _ _) rfl ?_
    exact ⟨_, _, _, rfl, HP.out, World.ownsRow_nil _ _ _ _, hbF⟩
  obtain ⟨hg0, ⟨hv0, hv1⟩, ht0, ht1⟩ := placeE_zero e1
  have hR := gChk_right hg0
  have hlv := hR.lvs
  have hhor := hR.hor
  have hq := fun W => hasVertex_any g la ea lc ec q W
  have HQi := hideg (vtxB_iff g q)
  have HP2 : Hid ((¬ (0 ≤ q ∧ q < g.lives.length) ∨ ∀ τ p, ¬ Pay g prCost v t q τ p) → CWayIs g v t q 4 []) := fun h => .inr (.inl ⟨e1, h, rfl, rfl⟩)
  have HP3 : Hid ((0 ≤ q ∧ q < g.lives.length) → ∀ (l : List Hp) (τ P : Int), l.length ≤ 100 → aliveB t g.lives v = true → goF g (some (v, t, 0)) l = some (q, τ, P) → (∃ τ', Pay g prCost v t q τ' P) → (∀ τ' p, Pay g prCost v t q τ' p → P ≤ p) → CWayIs g v t q 0 l) := fun k1 l τ P k2 k3 k4 k5 k6 => .inr (.inr ⟨e1, k1, rfl, k2, τ, P, k3, k4, k5, k6⟩)
  have HVf := hideg (fun W (hW : Below w.heap.size w W) => visitsFrom_any g la ea lc ec prCost v t 25 (fun args w => Try.call25 args w) W (hG.below hW) e1 (prCost_ok hR) costOf_any)
  have HAl := hideg (fun W (hW : Below w.heap.size w W) (x : Nat) (hx : x < g.lives.length) => atLast_any g la ea lc ec x W (hG.below hW) hR hx)
  rw [e1] at h1
  have HRt := hideg hR
  clear hG e1 hg0 hR
  cases bq : vtxB g q with
  | false =>
    rw [bq] at hq HQi
    have HW := hideg (HP2.out (.inl (fun h => by have := HQi.out.2 h; cases this)))
    clear HP2 HP3 HVf HAl HQi bq
    go_enter Try.func20, Try.ntmps20
    go_wp2_with fail
    refine h1.mono ?_
    rintro r w1 ⟨rfl, hb1⟩
    have B1 := B0.below hb1
    have g0 := B1.c0
    have g1 := B1.c1
    have g2 := B1.c2
    clear h1 hb1 B0
    go_wp2_with fail
    refine (hq _).mono ?_
    rintro r w2 ⟨rfl, hb2⟩
    have hbF := (B1.below hb2).bel
    clear hq hb2 B1 g0 g1 g2
    go_wp2
    (try simp only [Exit.inBlock, Exit.then]); refine bodyPost_ret (results_two_e rfl _ _ _) rfl ?_
    exact ⟨_, _, _, rfl, HW.out, World.ownsRow_nil _ _ _ _, hbF⟩
  | true =>
    have hq01 := HQi.out.1 bq
    rw [bq] at hq
    obtain ⟨Y, rfl⟩ : ∃ Y : Nat, q = (Y : Int) := ⟨q.toNat, by omega⟩
    have hY : Y < g.lives.length := by omega
    obtain ⟨lk1, lk2, lk3, lk4⟩ := last_alive HRt.out hY
    have HNone : Hid (∀ M, VisOk g prCost v t M → M (Y : Int) (lastT g Y) = none → CWayIs g v t (Y : Int) 4 []) := fun M h hz => HP2.out (.inr (h.none HRt.out hv0 hY hz))
    have HSome : Hid (∀ M, VisOk g prCost v t M → ∀ z, M (Y : Int) (lastT g Y) = some z → Bk g M (Y : Int) z.1 (Y : Int) (lastT g Y) [] ∧ (∀ y l, Bk g M (Y : Int) z.1 v y l → l.length ≤ 100 → CWayIs g v t (Y : Int) 0 l.reverse) ∧ ∀ x y l, Bk g M (Y : Int) z.1 x y l → x ≠ v → ∀ z', M x y = some z' → Bk g M (Y : Int) z.1 z'.2.2.2.1 z'.2.2.1 (l ++ [(z'.2.1, z'.2.2.1)]) ∧ z'.2.2.1 < y ∧ RideOk g z'.2) := fun M h z hz => by
      have hP := h.snd hz
      have S : SpE g (F1 v t) prCost M := by
        rcases h with ⟨_, h⟩ | ⟨ha, _⟩
        · exact h
        · rw [hP.1] at ha; cases ha
      refine ⟨⟨⟨z, hz, 0, leads_nil g _ _, by omega⟩, by simp; omega⟩, fun y l hB hl => ?_, fun x y l hB hx z' hz' => hB.step HRt.out S hx hz'⟩
      obtain ⟨τ, h2⟩ := hB.fin HRt.out hv0 hP.1 S
      exact HP3.out hq01 _ τ z.1 (by rw [List.length_reverse]; exact hl) hP.1 h2 ⟨_, hP⟩ (h.least HRt.out hv0 hY hz)
    have HT0 : Hid (∀ x y l M P, Bk g M (Y : Int) P x y l → ∀ z, M x y = some z → z.1 + 0 = z.1) := fun _ _ _ _ _ _ _ _ => by omega
    clear HP2 HP3 HQi bq lk1 lk2 HT0
    generalize hT : lastT g Y = T at *
    have HTl := hideg hT
    clear hT
    have hTi : Hid (∀ W (hW : Below w.heap.size w W), Calls Try.prog 37 #[.agg #[.int .i64 g.hor, .slice la g.lives.length lc, .slice ea g.edges.length ec], .int .i64 (Y : Int)] W fun r w' => r = .returned (.agg #[.int .i64 (Y : Int), .int .i64 T]) ∧ Below W.heap.size W w') := fun W hW => by rw [← HTl.out]; exact HAl.out W hW Y hY
    clear HAl HTl
    go_enter Try.func20, Try.ntmps20
    go_wp2_with fail
    refine h1.mono ?_
    rintro r w1 ⟨rfl, hb1⟩
    have B1 := B0.below hb1
    have g0 := B1.c0
    have g1 := B1.c1
    have g2 := B1.c2
    clear h1 hb1 B0
    go_wp2_with fail
    refine (hq _).mono ?_
    rintro r w2 ⟨rfl, hb2⟩
    have B2 := B1.below hb2
    have h2 := HVf.out w2 B2.bel
    clear hq hb2 B1 g0 g1 g2 HVf
    have g0 := B2.c0
    have g1 := B2.c1
    have g2 := B2.c2
    go_wp2_with fail
    refine h2.mono ?_
    rintro r w3 ⟨b, n, M, rfl, hM3, hV3, hb3⟩
    have B3 := B2.below hb3
    have h3 := hTi.out w3 B3.bel
    have HN := hideg (HNone.out M hV3)
    have HS := hideg (HSome.out M hV3)
    have HPl : Hid (∀ x y z, M x y = some z → (0 ≤ x ∧ x < 100) ∧ 0 ≤ y ∧ y < 100) := fun x y z h => by
      have := (hV3.snd h).place HRt.out hv0
      omega
    clear h2 hb3 B2 g0 g1 g2 hTi HNone HSome hV3
    have g0 := B3.c0
    have g1 := B3.c1
    have g2 := B3.c2
    go_wp2_with fail
    refine h3.mono ?_
    rintro r w4 ⟨rfl, hb4⟩
    have hbx := (B3.below hb4).bel
    have M4 := hM3.below hb4
    clear h3 hb4 B3 hM3 g0 g1 g2
    obtain ⟨w5, hw5⟩ : ∃ x, x = w4.alloc (.cells #[.int .i64 (Y : Int), .int .i64 T] 70) := ⟨_, rfl⟩
    have b5 : Below w4.heap.size w4 w5 := by rw [hw5]; exact gal w4 _
    have M5 := M4.below b5
    have hMl := M4.lt
    have q5 := M5.look (v := (Y : Int)) (t := T) (wi_small (by omega) (by omega)) (wi_small (by omega) (by omega))
    have s0 : w5.cell? ⟨w4.heap.size, 0, none⟩ = some (.int .i64 (Y : Int)) := by rw [hw5]; exact new_cell rfl rfl
    have s1 : w5.cell? ⟨w4.heap.size, 1, none⟩ = some (.int .i64 T) := by rw [hw5]; exact new_cell rfl rfl
    have z0 : w5.frozen? ⟨w4.heap.size, 0, none⟩ = false := by rw [hw5]; simp
    have z1 : w5.frozen? ⟨w4.heap.size, 1, none⟩ = false := by rw [hw5]; simp
    have hw5s := hw5.symm
    have HB5 := hideg (ptg hbx b5)
    have HM5 := hideg M5
    have hs5 : w4.heap.size < w5.heap.size := by rw [hw5]; simp
    have hs4 := hbx.size
    clear hw5 b5 M5 M4 hbx
    cases hz : M (Y : Int) T with
    | none =>
      have HW := hideg (HN.out hz)
      rw [hz] at q5
      simp only [keyV, Option.getD_none, encV_mk, Option.isSome_none] at q5
      have HBk := hideg (fun o => ptg HB5.out (gal w5 o))
      clear HN HS hz z0 z1
      go_wp2
      (try simp only [Exit.inBlock, Exit.then]); refine bodyPost_ret (results_two_e rfl _ _ _) rfl ?_
      exact ⟨_, _, _, rfl, HW.out, World.ownsRow_nil _ _ _ _, HBk.out _⟩
    | some z =>
      obtain ⟨HB1, HB2, HB3⟩ := HS.out z hz
      have HB1 := hideg HB1
      have HB2 := hideg HB2
      have HB3 := hideg HB3
      rw [hz] at q5
      obtain ⟨P, E2, d2, a2, e2, ar2, c2⟩ := z
      simp only [keyV, Option.getD_some, encV_mk, Option.isSome_some] at q5
      simp only at HB1 HB2 HB3
      obtain ⟨w6, hw6⟩ : ∃ x, x = w5.alloc (.cells #[.int .i64 P, .int .i64 E2, .int .i64 d2, .int .i64 a2, .int .i64 e2, .int .i64 ar2, .int .i64 c2] 68) := ⟨_, rfl⟩
      have b6 : Below w5.heap.size w5 w6 := by rw [hw6]; exact gal w5 _
      have HM6 := hideg (HM5.out.below b6)
      have HB6 := hideg (ptg HB5.out b6)
      have t0 := (b6.cell (p := ⟨w4.heap.size, 0, none⟩) hs5).trans s0
      have t1 := (b6.cell (p := ⟨w4.heap.size, 1, none⟩) hs5).trans s1
      have y0 := (b6.frozen (p := ⟨w4.heap.size, 0, none⟩) hs5).trans z0
      have y1 := (b6.frozen (p := ⟨w4.heap.size, 1, none⟩) hs5).trans z1
      have hs6 : w4.heap.size < w6.heap.size := Nat.lt_of_lt_of_le hs5 b6.size
      have hw6s := hw6.symm
      clear hw6 b6 z0 z1 HN HS hz HB5 HM5
      obtain ⟨V, rfl⟩ : ∃ V : Nat, v = (V : Int) := ⟨v.toNat, by omega⟩
      go_wp2_with fail
      clear hw6s hw5s q5 s0 s1
      obtain ⟨na, hna⟩ : ∃ na, na = w4.heap.size := ⟨_, rfl⟩
      rw [← hna] at t0 t1 y0 y1 hs6 hMl hs4 ⊢
      clear hna hs5
      have hbna : b ≠ na := by omega
      have HN0 : Hid (w.heap.size ≤ na) := hs4
      go_loopw [15] (fun u wr => ∃ (x y : Int) (l : List Hp), Bk g M (Y : Int) P x y l ∧ wr.cell? ⟨na, 0, none⟩ = some (.int .i64 x) ∧ wr.cell? ⟨na, 1, none⟩ = some (.int .i64 y) ∧ wr.frozen? ⟨na, 0, none⟩ = false ∧ wr.frozen? ⟨na, 1, none⟩ = false ∧ wr.ownsRow w6.heap.size 48 2 u l.length (encs l) ∧ w6.grownBy wr (some na)) (fun _ wr => match wr.cell? ⟨na, 1, none⟩ with | some (.int _ y) => y.toNat | _ => 0)
      case atStart => exact ⟨(Y : Int), T, [], HB1.out, t0, t1, y0, y1, World.ownsRow_nil _ _ _ _, gby_refl _ _⟩
      case round =>
        clear t0 t1 y0 y1
        obtain ⟨x, y, l, hB, t0, t1, y0, y1, hown, hg⟩ := hrel
        obtain ⟨z, hz⟩ : ∃ z, M x y = some z := ⟨_, hB.at_.choose_spec.1⟩
        obtain ⟨⟨hx0, hx1⟩, hyy0, hyy1⟩ := HPl.out x y z hz
        have hll : l.length ≤ 100 := by have := hB.len; omega
        have hM := HM6.out.kept hg (fun h => hbna (by cases h; rfl))
        by_cases hxv : x = (V : Int)
        · subst hxv
          have HWl := hideg (HB2.out y l hB hll)
          have hbF : Below w.heap.size w wr := HB6.out.grown hg HB6.out.size (fun j hj => by cases hj; exact HN0.out)
          clear hB hz hM hg hs4
          rcases hown.2 with ⟨hu, h0⟩ | ⟨gb, cap, cur, hu, hgb, hh, h3, h4, h5, h6⟩
          · have hl0 : l = [] := List.eq_nil_of_length_eq_zero h0
            subst hl0
            subst hu
            have hRv := fun W => Reverse_nil W
            clear hown h0
            go_wp2_with fail
            refine (hRv _).mono ?_
            rintro r w5 ⟨⟨vv, rfl⟩, rfl⟩
            clear hRv
            go_wp2
            (try simp only [Exit.inBlock, Exit.then]); refine bodyPost_ret (results_two_e rfl _ _ _) rfl ?_
            exact ⟨_, _, _, rfl, HWl.out, World.ownsRow_nil _ _ _ _, hbF⟩
          · subst hu
            have hRv := Reverse_any w6.heap.size gb cap l wr hown (by omega)
            clear hown hh h6 h5 h3 h4 hgb
            go_wp2_with fail
            refine hRv.mono ?_
            rintro r w7 ⟨⟨vv, rfl⟩, hO7, hb7⟩
            have HO7 : Hid (w7.ownsRow w.heap.size 48 2 (.slice (some ⟨gb, 0, none⟩) l.length cap) l.reverse.length (encs l.reverse)) := by
              rw [List.length_reverse]; exact owns_base2 hO7 HB6.out.size
            have HB7 := hideg (hbF.trans (hb7.mono HB6.out.size))
            clear hRv hO7 hb7
            go_wp2
            (try simp only [Exit.inBlock, Exit.then]); refine bodyPost_ret (results_two_e rfl _ _ _) rfl ?_
            exact ⟨_, _, _, rfl, HWl.out, HO7.out, HB7.out⟩
        · have hxvi : (x != (V : Int)) = true := by simpa using hxv
          obtain ⟨hS, hlt, hok⟩ := HB3.out x y l hB hxv z hz
          have q1 := hM.look1 (v := x) (t := y) (wi_small (by omega) (by omega)) (wi_small (by omega) (by omega))
          rw [hz] at q1
          obtain ⟨p, E, d, a, e, ar, c⟩ := z
          simp only [keyV, Option.getD_some, encV_mk] at q1
          have hd0 := hok.d0
          simp only at hS hlt hd0
          have HS := hideg hS
          obtain ⟨wb, hwb⟩ : ∃ x, x = wr.alloc (.cells #[.int .i64 E, .int .i64 d, .int .i64 a, .int .i64 e, .int .i64 ar, .int .i64 c] 66) := ⟨_, rfl⟩
          have bb : Below wr.heap.size wr wb := by rw [hwb]; exact gal wr _
          have hgb := gby_trans hg (gby_of_below bb (some na))
          have hnr : na < wr.heap.size := Nat.lt_of_lt_of_le hs6 hg.size
          have r0 : wb.cell? ⟨wr.heap.size, 0, none⟩ = some (.int .i64 E) := by rw [hwb]; exact new_cell rfl rfl
          have r1 : wb.cell? ⟨wr.heap.size, 1, none⟩ = some (.int .i64 d) := by rw [hwb]; exact new_cell rfl rfl
          have r2 : wb.cell? ⟨wr.heap.size, 2, none⟩ = some (.int .i64 a) := by rw [hwb]; exact new_cell rfl rfl
          have hownb := ownsRow_below hown bb
          have hsb : wr.heap.size < wb.heap.size := by rw [hwb]; simp
          have ub : ∀ j, u15.ownBlock = some j → w6.heap.size ≤ j ∧ j < wr.heap.size := fun j hj => hown.lt j hj
          have HG5 : Hid (∀ (o : Obj) (W : World), (wb.alloc o).grownBy W u15.ownBlock → w6.grownBy W (some na) ∧ W.cell? ⟨wr.heap.size, 1, none⟩ = some (.int .i64 d) ∧ W.cell? ⟨wr.heap.size, 2, none⟩ = some (.int .i64 a) ∧ W.cell? ⟨na, 0, none⟩ = some (.int .i64 x) ∧ W.cell? ⟨na, 1, none⟩ = some (.int .i64 y) ∧ W.frozen? ⟨na, 0, none⟩ = false ∧ W.frozen? ⟨na, 1, none⟩ = false) := fun o W hgr => by
            have hk : ∀ j, j < wr.heap.size + 1 → (∀ i, u15.ownBlock = some i → i ≠ j) → W.heap[j]? = wb.heap[j]? := fun j hj hne => by
              rw [hgr.block j (by have := (gal wb o).size; omega) (fun e => hne j e.symm rfl), (gal wb o).block j (by omega)]
            have hk1 := hk wr.heap.size (by omega) (fun i h => by have := ub i h; omega)
            have hk2 := (hk na (by omega) (fun i h => by have := ub i h; omega)).trans (bb.block na hnr)
            exact ⟨gby_ownW hgb o hgr (fun j hj => (ub j hj).1), (World.cell?_of_block (a := ⟨wr.heap.size, 1, none⟩) hk1).trans r1, (World.cell?_of_block (a := ⟨wr.heap.size, 2, none⟩) hk1).trans r2, (World.cell?_of_block (a := ⟨na, 0, none⟩) hk2).trans t0, (World.cell?_of_block (a := ⟨na, 1, none⟩) hk2).trans t1, (World.frozen?_of_block (a := ⟨na, 0, none⟩) hk2).trans y0, (World.frozen?_of_block (a := ⟨na, 1, none⟩) hk2).trans y1⟩
          have hwbs := hwb.symm
          have hsr := hg.size
          have HT1 := hideg t1
          clear hwb hB hz hM hg hgb hS hok bb hown
          have hby := run_by p E d a e ar c
          go_wp2_with (at_builtin; refine stopHereR ?_)
          refine hideg ?_
          clear hby
          refine wpList_append_own _ rfl _ _ 41 rfl w6.heap.size 48 i0 _ 2 16 Try.underlying41 hi hz0 hz1 hz2 rfl (by decide) _ _ _ rfl (World.ownsRow.alloc (w := wb) hownb _) ⟨wb.heap.size, 0, none⟩ 1 1 [.int .i64 E, .int .i64 d] rfl rfl (cells_two_new _ _ _ _ _ (by simp)) (by intro u hu; simp at hu; rcases hu with rfl | rfl <;> rfl) (by unfold maxLen; omega) (by omega) (by simp; omega) ?_
          intro v' w7 hown7 hgrow _
          obtain ⟨hg7, f1, f2, f3, f4, f5, f6⟩ := HG5.out _ _ hgrow
          have R7 : w7.ownsRow w6.heap.size 48 2 v' (l ++ [(E, d)]).length (encs (l ++ [(E, d)])) := by
            rw [show encs (l ++ [(E, d)]) = encs l ++ [.int .i64 E, .int .i64 d] from by simp [encs, flat], List.length_append]; exact hown7
          have HR8 : Hid (((w7.setCell ⟨na, 0, none⟩ (.int .i64 a)).setCell ⟨na, 1, none⟩ (.int .i64 d)).ownsRow w6.heap.size 48 2 v' (l ++ [(E, d)]).length (encs (l ++ [(E, d)]))) := by
            have hv' : v'.ownBlock ≠ some na := fun e => by have := (R7.lt na e).1; omega
            exact ownsRow_setCell_other (ownsRow_setCell_other R7 hv' _) hv' _
          have HG8 := hideg (gby_trans (gby_trans hg7 (gby_setOne w7 na 0 (.int .i64 a))) (gby_setOne _ na 1 (.int .i64 d)))
          clear hgrow hown7 HG5 R7 hg7 t0 t1 y0 y1 r0 r1 r2 hwbs q1 ub hownb
          obtain ⟨w8, hw8⟩ : ∃ x, x = (w7.setCell ⟨na, 0, none⟩ (.int .i64 a)).setCell ⟨na, 1, none⟩ (.int .i64 d) := ⟨_, rfl⟩
          have HC : Hid (w8.cell? ⟨na, 0, none⟩ = some (.int .i64 a) ∧ w8.cell? ⟨na, 1, none⟩ = some (.int .i64 d) ∧ w8.frozen? ⟨na, 0, none⟩ = false ∧ w8.frozen? ⟨na, 1, none⟩ = false) := by
            rw [hw8]
            have o1 : (w7.setCell ⟨na, 0, none⟩ (.int .i64 a)).cell? ⟨na, 0, none⟩ = some (.int .i64 a) := World.cell?_setCell_same _ _ _ f3
            have o2 : (w7.setCell ⟨na, 0, none⟩ (.int .i64 a)).cell? ⟨na, 1, none⟩ = some (.int .i64 y) := (World.cell?_setCell_other _ _ _ _ (by simp)).trans f4
            refine ⟨(World.cell?_setCell_other _ _ _ _ (by simp)).trans o1, World.cell?_setCell_same _ _ _ o2, ?_, ?_⟩
            · rw [World.frozen?_setCell, World.frozen?_setCell]; exact f5
            · rw [World.frozen?_setCell, World.frozen?_setCell]; exact f6
          rw [← hw8] at HR8 HG8
          have hw8s := hw8.symm
          clear hw8
          go_wp2
          go_roundw
          case rel => exact ⟨a, d, l ++ [(E, d)], HS.out, HC.out.1, HC.out.2.1, HC.out.2.2.1, HC.out.2.2.2, HR8.out, HG8.out⟩
          case measure => simp only [HC.out.2.1, HT1.out]; omega

end Go.Proofs.Ytkgbgkcbflicmac

namespace Go.Proofs.Ytkgbgkcbflicmac
open Go.RowKit

/-- the least of the first j numbers -/
def minG (f : Nat → Int) : Nat → Int
  | 0 => 1099511627776
  | j + 1 => min (minG f j) (f j)
def lstL (X : Tb) (h k : Nat) : List Int := (List.range k).map fun v => minG (tat X v) h
theorem lstL_succ (X : Tb) (h k : Nat) : (lstL X h (k + 1)).map (Value.int .i64) = (lstL X h k).map (Value.int .i64) ++ [.int .i64 (minG (tat X k) h)] := by simp [lstL, List.range_succ]

set_option maxRecDepth 100000 in
set_option maxHeartbeats 4000000 in
theorem Least_any (base go cap : Nat) (bl : List (Nat × Nat)) (h n : Nat) (X : Tb) (w : World) (M : TabM w base go bl h X) (hn : bl.length = n) (hh : h ≤ 100) (hn12 : n ≤ 12) :
    Calls Try.prog 8 #[.slice (some ⟨go, 0, none⟩) n cap] w fun r w' => ∃ u, r = .returned u ∧ w'.ownsRow w.heap.size 3 1 u n ((lstL X h n).map (Value.int .i64)) ∧ Below w.heap.size w w' := by
  obtain ⟨i0, hi, hz0, hz1, hz2⟩ := info_parts Try.infoInt
  have HM := hideg M
  have HN := hideg hn
  clear M hn
  go_enter Try.func8, Try.ntmps8
  go_wp2_with fail
  go_loopw [3, 4] (fun u i wr => ∃ k : Nat, k ≤ n ∧ i = .int .i64 k ∧ wr.ownsRow w.heap.size 3 1 u k ((lstL X h k).map (Value.int .i64)) ∧ Below w.heap.size w wr) (fun _ i _ => n - (intOf i).toNat)
  case atStart => exact ⟨0, Nat.zero_le _, rfl, World.ownsRow_nil _ _ _ _, Below.refl _ _⟩
  case round =>
    obtain ⟨k, hk, rfl, hown, hb⟩ := hrel
    have hsz := hb.size
    by_cases hkn : k < n
    · have MR := HM.out.below hb
      have x0 := MR.out k (by rw [HN.out]; exact hkn)
      have HX1 := hideg (fun t (ht : t < h) => MR.cell (v := k) (by rw [HN.out]; exact hkn) ht)
      have hki : (k : Int) < (n : Int) := by omega
      have HOwn := hideg hown
      have HBb := hideg hb
      have HSu := hideg (lstL_succ X h k)
      clear MR hown hb
      go_wp2_with fail
      go_loopw [5, 6] (fun nn tt wq => ∃ j : Nat, j ≤ h ∧ tt = .int .i64 j ∧ nn = .int .i64 (minG (tat X k) j) ∧ wq = wr) (fun _ tt _ => h - (intOf tt).toNat)
      case atStart => exact ⟨0, Nat.zero_le _, rfl, rfl, rfl⟩
      case round =>
        obtain ⟨j, hj, rfl, rfl, rfl⟩ := hrel
        by_cases hjH : j < h
        · have x1 := HX1.out j hjH
          have hji : (j : Int) < (h : Int) := by omega
          have HA : Hid (minG (tat X k) (j + 1) = min (minG (tat X k) j) (tat X k j)) := rfl
          have hwj : IntKind.i64.wrap ((j : Int) + 1) = (j : Int) + 1 := wrap_nr _ (by omega) (by omega)
          generalize minG (tat X k) j = m0 at HA ⊢
          generalize tat X k j = m1 at HA x1 ⊢
          by_cases hlt : m1 < m0
          · have HM2 : Hid (min m0 m1 = m1) := by show _ = _; omega
            go_wp2
            go_roundw
            case rel => exact ⟨j + 1, by omega, by go_num, by rw [HA.out, HM2.out], by first | rfl | trivial⟩
            case measure => simp [intOf]; omega
          · have HM2 : Hid (min m0 m1 = m0) := by show _ = _; omega
            go_wp2
            go_roundw
            case rel => exact ⟨j + 1, by omega, by go_num, by rw [HA.out, HM2.out], by first | rfl | trivial⟩
            case measure => simp [intOf]; omega
        · have hje : h = j := by omega
          subst hje
          generalize minG (tat X k) h = m at HSu ⊢
          have hown := HOwn.out
          have hkw : IntKind.i64.wrap ((k : Int) + 1) = (k : Int) + 1 := wrap_nr _ (by omega) (by omega)
          go_wp2_with (at_builtin; refine wpList_append_own _ rfl _ _ 28 rfl w.heap.size 3 i0 (.int .i64 0) 1 8 Try.underlying28 hi hz0 hz1 hz2 rfl (by decide) _ _ _ rfl (World.ownsRow.alloc (w := wr) hown _) ⟨wr.heap.size, 0, none⟩ 1 1 [.int .i64 m] rfl rfl (cell_one_new _ _ _) (by intro u hu; simp at hu; subst hu; rfl) (by unfold maxLen; omega) (by omega) (by simp; omega) ?_; intro v' w5 hown5 hgrow _)
          have hb5 := (HBb.out.alloc hsz _).grown hgrow (by simp; omega) (fun q hq => (hown.lt q hq).1)
          exact ⟨⟨k + 1, by omega, by go_num, by rw [HSu.out]; exact hown5, hb5⟩, by simp [intOf]; omega⟩
    · have hke : n = k := by omega
      subst hke
      have HO := hideg hown
      have HBb := hideg hb
      clear hown hb
      go_wp2
      go_ret
      exact ⟨_, rfl, HO.out, HBb.out⟩

end Go.Proofs.Ytkgbgkcbflicmac

namespace Go.Proofs.Ytkgbgkcbflicmac
open Go.RowKit

/-- the shortest time from one vertex to another of the first k starts, and that start -/
noncomputable def fstF (g : Gr) (v q : Nat) : Nat → Int × Int
  | 0 => (1099511627776, 0)
  | k + 1 => if (arrF g v k).getD q 0 < 1099511627776 ∧ (arrF g v k).getD q 0 - k < (fstF g v q k).1 then ((arrF g v k).getD q 0 - k, (k : Int)) else fstF g v q k
noncomputable def fstA (g : Gr) (v q : Nat) : Value := if (fstF g v q g.hor.toNat).1 = 1099511627776 then .tuple #[.int .i64 0, .int .i64 0, .int .i64 4] else .tuple #[.int .i64 (fstF g v q g.hor.toNat).1, .int .i64 (fstF g v q g.hor.toNat).2, .int .i64 0]

set_option maxRecDepth 100000 in
set_option maxHeartbeats 4000000 in
theorem Fastest_any (g : Gr) (la ea : Option Addr) (lc ec : Nat) (v q : Nat) (w : World) (hG : GAt w la ea g) (hg0 : gChk g = 0) (hv : v < g.lives.length) (hq : q < g.lives.length) :
    Calls Try.prog 14 #[.agg #[.int .i64 g.hor, .slice la g.lives.length lc, .slice ea g.edges.length ec], .int .i64 v, .int .i64 q] w fun r w' => r = .returned (fstA g v q) ∧ Below w.heap.size w w' := by
  have hR := gChk_right hg0
  have hor := hR.hor
  have hlv := hR.lvs
  obtain ⟨H, hH⟩ : ∃ H : Nat, H = g.hor.toNat := ⟨_, rfl⟩
  obtain ⟨n, hn⟩ : ∃ n : Nat, n = g.lives.length := ⟨_, rfl⟩
  have hHi : g.hor = (H : Int) := by omega
  have hH1 : 1 ≤ H ∧ H ≤ 100 := by omega
  have hn12 : n ≤ 12 := by omega
  have hqn : q < n := by omega
  obtain ⟨w1, hw1⟩ : ∃ x, x = w.alloc (.cells #[.int .i64 g.hor, .slice la g.lives.length lc, .slice ea g.edges.length ec] 25) := ⟨_, rfl⟩
  have B1 : GBox w w1 w.heap.size g la ea lc ec := by rw [hw1]; exact gbox_start w g la ea lc ec _
  have hAr : ∀ (k : Nat) (W : World), k < H → Below w1.heap.size w1 W → Calls Try.prog 17 #[.agg #[.int .i64 (H : Int), .slice la n lc, .slice ea g.edges.length ec], .int .i64 v, .int .i64 k] W fun r w' => ∃ gq cap, r = .returned (.slice (some ⟨gq, 0, none⟩) n cap) ∧ Zo w' W.heap.size gq n cap (arrF g v k) ∧ (∀ q, q < n → (arrF g v k).getD q 0 = 1099511627776 ∨ (0 ≤ (arrF g v k).getD q 0 ∧ (arrF g v k).getD q 0 < (H : Int))) ∧ Below W.heap.size W w' := fun k W hk hb => by
    have := Arr_fn g la ea lc ec v k W (hG.below (B1.below hb).bel) (placeE_of hg0 ⟨by omega, by omega⟩ ⟨by omega, by omega⟩)
    rw [← hn, hHi] at this
    exact this
  have HAr := hideg hAr
  have HB1 := hideg B1
  have b0 := B1.c0
  have b1 := B1.c1
  have b2 := B1.c2
  have hw1s := hw1.symm
  have HA : Hid (fstA g v q = if (fstF g v q H).1 = 1099511627776 then .tuple #[.int .i64 0, .int .i64 0, .int .i64 4] else .tuple #[.int .i64 (fstF g v q H).1, .int .i64 (fstF g v q H).2, .int .i64 0]) := by show _ = _; unfold fstA; rw [← hH]
  rw [hHi] at b0 hw1s ⊢
  rw [← hn] at b1 hw1s ⊢
  have HHi := hideg hHi
  have HN := hideg hn
  clear hG hg0 hR hw1 B1 hAr hHi hn hH hor hlv hv hq
  generalize fstA g v q = ans at *
  go_enter Try.func14, Try.ntmps14
  go_wp2_with fail
  clear hw1s
  go_loopw [9, 10, 11] (fun b a i wr => ∃ k : Nat, k ≤ H ∧ i = .int .i64 k ∧ b = .int .i64 (fstF g v q k).1 ∧ a = .int .i64 (fstF g v q k).2 ∧ Below w1.heap.size w1 wr) (fun _ _ i _ => H - (intOf i).toNat)
  case atStart => exact ⟨0, Nat.zero_le _, rfl, rfl, rfl, Below.refl _ _⟩
  case round =>
    clear b0 b1 b2
    obtain ⟨k, hk, rfl, rfl, rfl, hb⟩ := hrel
    have BR := HB1.out.below hb
    have b0 := BR.c0
    have b1 := BR.c1
    have b2 := BR.c2
    rw [HHi.out] at b0
    rw [← HN.out] at b1
    have HBb := hideg hb
    by_cases hkH : k < H
    · have HC := hideg (HAr.out k wr hkH hb)
      have hki : (k : Int) < (H : Int) := by omega
      have hkw : IntKind.i64.wrap ((k : Int) + 1) = (k : Int) + 1 := wrap_nr _ (by omega) (by omega)
      have hqi : (q : Int) < (n : Int) := by omega
      have HS : Hid (fstF g v q (k + 1) = if (arrF g v k).getD q 0 < 1099511627776 ∧ (arrF g v k).getD q 0 - k < (fstF g v q k).1 then ((arrF g v k).getD q 0 - k, (k : Int)) else fstF g v q k) := rfl
      clear BR hb
      generalize fstF g v q k = bb at HS ⊢
      obtain ⟨best, at0⟩ := bb
      simp only at HS ⊢
      go_wp2_with fail
      refine HC.out.mono ?_
      rintro r w3 ⟨gq, cap, rfl, hZ, hx, hb3⟩
      have x1 := hZ.cell hqn
      have hxr := hx q hqn
      have HB3 := hideg (HBb.out.trans (hb3.mono HBb.out.size))
      clear HC hZ hx hb3 b0 b1 b2
      generalize (arrF g v k).getD q 0 = x at HS x1 hxr
      have hwx : IntKind.i64.wrap (x - (k : Int)) = x - (k : Int) := wrap_nr _ (by omega) (by omega)
      by_cases h1 : x < 1099511627776
      · have d1 : decide (x < 1099511627776) = true := by simpa using h1
        by_cases h2 : x - (k : Int) < best
        · have d2 : decide (x - (k : Int) < best) = true := by simpa using h2
          have HS2 : Hid (fstF g v q (k + 1) = (x - (k : Int), (k : Int))) := by show _ = _; rw [HS.out, if_pos ⟨h1, h2⟩]
          clear HS hxr h1 h2
          go_wp2
          go_roundw
          case rel => exact ⟨k + 1, by omega, by go_num, by rw [HS2.out], by rw [HS2.out], HB3.out⟩
          case measure => simp [intOf]; omega
        · have d2 : decide (x - (k : Int) < best) = false := by simpa using h2
          have HS2 : Hid (fstF g v q (k + 1) = (best, at0)) := by show _ = _; rw [HS.out, if_neg (fun h => h2 h.2)]
          clear HS hxr h1 h2
          go_wp2
          go_roundw
          case rel => exact ⟨k + 1, by omega, by go_num, by rw [HS2.out], by rw [HS2.out], HB3.out⟩
          case measure => simp [intOf]; omega
      · have d1 : decide (x < 1099511627776) = false := by simpa using h1
        have HS2 : Hid (fstF g v q (k + 1) = (best, at0)) := by show _ = _; rw [HS.out, if_neg (fun h => h1 h.1)]
        clear HS hxr h1
        go_wp2
        go_roundw
        case rel => exact ⟨k + 1, by omega, by go_num, by rw [HS2.out], by rw [HS2.out], HB3.out⟩
        case measure => simp [intOf]; omega
    · have hke : H = k := by omega
      subst hke
      have HF := hideg BR.bel
      clear BR hb
      generalize fstF g v q H = bb at HA ⊢
      obtain ⟨best, at0⟩ := bb
      simp only at HA ⊢
      by_cases h1 : best = 1099511627776
      · have HA2 : Hid (ans = .tuple #[.int .i64 0, .int .i64 0, .int .i64 4]) := by show _ = _; rw [HA.out, if_pos h1]
        have d1 : (best == 1099511627776) = true := by simpa using h1
        clear h1 HA
        go_wp2
        go_ret3
        exact ⟨by rw [HA2.out]; rfl, HF.out⟩
      · have HA2 : Hid (ans = .tuple #[.int .i64 best, .int .i64 at0, .int .i64 0]) := by show _ = _; rw [HA.out, if_neg h1]
        have d1 : (best == 1099511627776) = false := by simpa using h1
        clear h1 HA
        go_wp2
        go_ret3
        exact ⟨by rw [HA2.out]; rfl, HF.out⟩

end Go.Proofs.Ytkgbgkcbflicmac

namespace Go.Proofs.Ytkgbgkcbflicmac
open Go.RowKit

theorem least_nat {p : Nat → Prop} (h : ∃ n, p n) : ∃ n, p n ∧ ∀ m, p m → n ≤ m := by
  obtain ⟨n, hn⟩ := h
  induction n using Nat.strongRecOn with
  | _ n ih =>
    by_cases h : ∃ m, m < n ∧ p m
    · obtain ⟨m, h1, h2⟩ := h
      exact ih m h1 h2
    · exact ⟨n, hn, fun m hm => Nat.le_of_not_lt fun h' => h ⟨m, h', hm⟩⟩
theorem minG_spec (f : Nat → Int) : ∀ j, (∀ t, t < j → minG f j ≤ f t) ∧ (minG f j = 1099511627776 ∨ ∃ t, t < j ∧ minG f j = f t) ∧ minG f j ≤ 1099511627776
  | 0 => ⟨fun t h => by omega, .inl rfl, Int.le_refl _⟩
  | j + 1 => by
    obtain ⟨h1, h2, h3⟩ := minG_spec f j
    rw [minG]
    refine ⟨fun t ht => ?_, ?_, by omega⟩
    · by_cases e : t = j
      · subst e; omega
      · have := h1 t (by omega); omega
    · rcases Int.le_total (minG f j) (f j) with k | k
      · rw [Int.min_eq_left k]
        rcases h2 with h2 | ⟨t, k1, k2⟩
        · exact .inl h2
        · exact .inr ⟨t, by omega, k2⟩
      · rw [Int.min_eq_right k]; exact .inr ⟨j, by omega, rfl⟩
theorem pay_wait {g : Gr} {pr : Ri → Int} {v t x y p : Int} (h : Pay g pr v t x y p) (ha : aliveB (y + 1) g.lives x = true) : Pay g pr v t x (y + 1) p := ⟨h.1, .wait h.2 ha⟩
theorem pay_ride {g : Gr} (R : Right g) {pr : Ri → Int} {v t y p : Int} {j : Nat} (hj : j < g.edges.length) (h : Pay g pr v t g.edges[j].1 y p) (hy : 0 ≤ y) {q : Int × Int} (hq : lands g g.edges[j] y = some q) : Pay g pr v t g.edges[j].2.1 q.1 (p + pr ((j : Int), y, g.edges[j].1, g.edges[j].2.1, q.1, q.2)) := ⟨h.1, .ride (ride_mem R hj hy hq) h.2⟩
/-- no journey costs less than what Sums tells -/
theorem sum_below {g : Gr} (R : Right g) {pr : Int → Int} {v t : Int} (h0 : 0 ≤ v) {X : Tb} (B : JBest g.lives.length g.hor.toNat (firstT g v t) (allA g pr g.hor.toNat) X) {x y p : Int} (h : Pay g (fun r => pr r.2.2.2.2.2) v t x y p) : tat X x.toNat y.toNat ≤ p := by
  obtain ⟨ha, h⟩ := h
  have hF := F1_ok (g := g) h0 ha
  induction h with
  | @base x y p h =>
    have hv := alive_hor R ha
    unfold F1 at h
    split at h
    · rename_i e
      obtain ⟨rfl, rfl⟩ := e
      cases h
      have := B.mid.le x.toNat y.toNat hv.1 (by omega)
      unfold firstT at this
      rw [if_pos ⟨ha, by omega, by omega⟩] at this
      exact this
    · cases h
  | @wait x y p h hal ih =>
    have hp := h.place R hF
    have hp2 := alive_hor R hal
    have hmem : (x.toNat, y.toNat, x.toNat, y.toNat + 1, (0 : Int)) ∈ allA g pr g.hor.toNat := mem_allA.2 ⟨y.toNat, by omega, .inl (mem_waitA.2 ⟨x.toNat, by omega, by omega, by rw [show ((y.toNat : Nat) : Int) = y by omega, show ((x.toNat : Nat) : Int) = x by omega]; exact hal, rfl⟩)⟩
    have hc := B.cl _ hmem
    unfold dst src at hc
    simp only at hc
    rw [show (y + 1).toNat = y.toNat + 1 by omega]
    omega
  | @ride p r hr h ih =>
    have hp := h.place R hF
    obtain ⟨k, hk, hr'⟩ := mem_ridesTo.1 hr
    obtain ⟨j, hj, q, _, hq, rfl⟩ := (mem_ridesAt (Nat.le_refl _)).1 hr'
    simp only at ih hp ⊢
    have hmem : (g.edges[j].1.toNat, k, g.edges[j].2.1.toNat, q.1.toNat, pr q.2) ∈ allA g pr g.hor.toNat := mem_allA.2 ⟨k, by omega, .inr ((mem_legA (Nat.le_refl _)).2 ⟨j, hj, q, hj, hq, rfl⟩)⟩
    have hc := B.cl _ hmem
    unfold dst src at hc
    simp only at hc
    simp only [Int.toNat_natCast] at ih
    omega
open Classical in
/-- .. and one costs as much -/
theorem sum_is {g : Gr} (R : Right g) {pr : Int → Int} (hpr : ∀ c, 0 ≤ c → c ≤ 1000 → 0 ≤ pr c ∧ pr c ≤ 1000) {v t : Int} (h0 : 0 ≤ v) {X : Tb} (B : JBest g.lives.length g.hor.toNat (firstT g v t) (allA g pr g.hor.toNat) X)
    (x y : Nat) (hx : x < g.lives.length) (hy : y < g.hor.toNat) : 1099511627776 ≤ tat X x y ∨ Pay g (fun r => pr r.2.2.2.2.2) v t (x : Int) (y : Int) (tat X x y) := by
  have hh := R.hor
  have hok := allA_ok R hpr g.hor.toNat (by omega)
  have hP : PrOk g (fun r => pr r.2.2.2.2.2) := fun r hr => by have := (mem_rides R hr).c0; exact hpr _ this.1 this.2
  obtain ⟨Y, hY⟩ : ∃ Y : Nat → Nat → Int, ∀ a b, (Y a b = 1099511627776 ∧ ∀ p, ¬ Pay g (fun r => pr r.2.2.2.2.2) v t (a : Int) (b : Int) p) ∨ (Pay g (fun r => pr r.2.2.2.2.2) v t (a : Int) (b : Int) (Y a b) ∧ ∀ p, Pay g (fun r => pr r.2.2.2.2.2) v t (a : Int) (b : Int) p → Y a b ≤ p) := by
    have key : ∀ a b : Nat, ∃ z : Int, (z = 1099511627776 ∧ ∀ p, ¬ Pay g (fun r => pr r.2.2.2.2.2) v t (a : Int) (b : Int) p) ∨ (Pay g (fun r => pr r.2.2.2.2.2) v t (a : Int) (b : Int) z ∧ ∀ p, Pay g (fun r => pr r.2.2.2.2.2) v t (a : Int) (b : Int) p → z ≤ p) := fun a b => by
      by_cases h : ∃ p, Pay g (fun r => pr r.2.2.2.2.2) v t (a : Int) (b : Int) p
      · obtain ⟨p, hp⟩ := h
        have hr := hp.range R hP h0
        obtain ⟨n, h1, h2⟩ := least_nat (p := fun n => Pay g (fun r => pr r.2.2.2.2.2) v t (a : Int) (b : Int) (n : Int)) ⟨p.toNat, by rw [show ((p.toNat : Nat) : Int) = p by omega]; exact hp⟩
        refine ⟨n, .inr ⟨h1, fun p' hp' => ?_⟩⟩
        have hr' := hp'.range R hP h0
        have := h2 p'.toNat (by rw [show ((p'.toNat : Nat) : Int) = p' by omega]; exact hp')
        omega
      · exact ⟨_, .inl ⟨rfl, fun p hp => h ⟨p, hp⟩⟩⟩
    exact ⟨fun a b => Classical.choose (key a b), fun a b => Classical.choose_spec (key a b)⟩
  have hYle : ∀ a b, Y a b ≤ 1099511627776 := fun a b => by
    rcases hY a b with h | h
    · omega
    · have := h.1.range R hP h0; omega
  have hYp : ∀ a b p, Pay g (fun r => pr r.2.2.2.2.2) v t ((a : Nat) : Int) ((b : Nat) : Int) p → Y a b ≤ p := fun a b p hp => by
    rcases hY a b with h | h
    · exact absurd hp (h.2 p)
    · exact h.2 p hp
  have hadm : JAdm g.lives.length g.hor.toNat (firstT g v t) (allA g pr g.hor.toNat) Y := by
    refine ⟨fun a b ha hb => ?_, fun a ha => ?_⟩
    · unfold firstT
      split
      · rename_i e
        refine hYp a b 0 ⟨e.1, .base ?_⟩
        unfold F1; rw [if_pos ⟨e.2.1, e.2.2⟩]
      · exact hYle a b
    · have hp := (hok a ha).p0
      have hp1 := (hok a ha).p1
      obtain ⟨k, hk, ha | ha⟩ := mem_allA.1 ha
      · obtain ⟨u, h1, h2, h3, rfl⟩ := mem_waitA.1 ha
        simp only at hp ⊢
        rcases hY u k with h | h
        · have := hYle u (k + 1); omega
        · have := hYp u (k + 1) _ (by have := pay_wait h.1 h3; rwa [show (k : Int) + 1 = ((k + 1 : Nat) : Int) by omega] at this)
          omega
      · obtain ⟨j, hj, q, _, hq, rfl⟩ := (mem_legA (Nat.le_refl _)).1 ha
        simp only at hp hp1 ⊢
        obtain ⟨l1, l2, l3, l4, _, _⟩ := lands_lt R hj hq
        obtain ⟨hA, hB, _⟩ := R.ends _ (List.getElem_mem hj)
        have eA : ((g.edges[j].1.toNat : Nat) : Int) = g.edges[j].1 := by omega
        have eB : ((g.edges[j].2.1.toNat : Nat) : Int) = g.edges[j].2.1 := by omega
        have eq : ((q.1.toNat : Nat) : Int) = q.1 := by omega
        rcases hY g.edges[j].1.toNat k with h | h
        · have := hYle g.edges[j].2.1.toNat q.1.toNat; omega
        · have h' := h.1
          rw [eA] at h'
          have := pay_ride R hj h' (by omega) hq
          simp only at this
          exact hYp _ _ _ (by rw [eB, eq]; exact this)
  have hm := B.mid.most Y hadm x y hx hy
  rcases hY x y with h | h
  · left; omega
  · right
    have := sum_below R h0 B h.1
    simp only [Int.toNat_natCast] at this
    have e : Y x y = tat X x y := by omega
    rw [← e]; exact h.1
/-- Least tells the least prices -/
theorem least_ref {g : Gr} (R : Right g) {pr : Int → Int} (hpr : ∀ c, 0 ≤ c → c ≤ 1000 → 0 ≤ pr c ∧ pr c ≤ 1000) {v t : Int} (h0 : 0 ≤ v) {X : Tb} (B : JBest g.lives.length g.hor.toNat (firstT g v t) (allA g pr g.hor.toNat) X) : LeastIs g (fun r => pr r.2.2.2.2.2) v t (lstL X g.hor.toNat g.lives.length) := by
  have hg : ∀ x, x < g.lives.length → (lstL X g.hor.toNat g.lives.length).getD x 0 = minG (tat X x) g.hor.toNat := fun x hx => by simp [lstL, List.getD_eq_getElem?_getD, hx]
  refine ⟨by simp [lstL], fun x hx => ?_, fun x hx y p hp => ?_⟩
  · rw [hg x hx]
    obtain ⟨h1, h2, h3⟩ := minG_spec (tat X x) g.hor.toNat
    rcases h2 with h2 | ⟨y, k1, k2⟩
    · exact .inl h2
    · rcases sum_is R hpr h0 B x y hx k1 with h | h
      · left; omega
      · right; rw [k2]; exact ⟨_, h⟩
  · rw [hg x hx]
    obtain ⟨h1, h2, h3⟩ := minG_spec (tat X x) g.hor.toNat
    have hpl := hp.2.place R (F1_ok h0 hp.1)
    have k1 := h1 y.toNat (by omega)
    have k2 := sum_below R h0 B hp
    simp only [Int.toNat_natCast] at k2
    omega

theorem fstF_spec (g : Gr) (v q : Nat) : ∀ k : Nat, ((fstF g v q k).1 = 1099511627776 ∧ ∀ t : Nat, t < k → ¬ ((arrF g v t).getD q 0 < 1099511627776 ∧ (arrF g v t).getD q 0 - t < 1099511627776)) ∨ ∃ t : Nat, t < k ∧ (arrF g v t).getD q 0 < 1099511627776 ∧ fstF g v q k = ((arrF g v t).getD q 0 - t, (t : Int)) ∧ ∀ t' : Nat, t' < k → (arrF g v t').getD q 0 < 1099511627776 → (arrF g v t).getD q 0 - t ≤ (arrF g v t').getD q 0 - t' ∧ ((arrF g v t).getD q 0 - (t : Int) = (arrF g v t').getD q 0 - t' → t ≤ t')
  | 0 => .inl ⟨rfl, fun t h => by omega⟩
  | k + 1 => by
    have ih := fstF_spec g v q k
    rw [fstF]
    rcases ih with ⟨h1, h2⟩ | ⟨t, h1, h2, h3, h4⟩
    · split
      · rename_i hc
        refine .inr ⟨k, by omega, hc.1, rfl, fun t' ht' hz' => ?_⟩
        by_cases e : t' = k
        · subst e; exact ⟨Int.le_refl _, fun _ => Nat.le_refl _⟩
        · exact absurd ⟨hz', by omega⟩ (h2 t' (by omega))
      · rename_i hc
        refine .inl ⟨h1, fun t ht => ?_⟩
        by_cases e : t = k
        · subst e; rw [h1] at hc; exact hc
        · exact h2 t (by omega)
    · rw [h3]
      simp only
      split
      · rename_i hc
        refine .inr ⟨k, by omega, hc.1, rfl, fun t' ht' hz' => ?_⟩
        by_cases e : t' = k
        · subst e; exact ⟨Int.le_refl _, fun _ => Nat.le_refl _⟩
        · have := (h4 t' (by omega) hz').1
          exact ⟨by omega, fun _ => by omega⟩
      · rename_i hc
        refine .inr ⟨t, by omega, h2, rfl, fun t' ht' hz' => ?_⟩
        by_cases e : t' = k
        · subst e
          have : ¬ ((arrF g v t').getD q 0 - t' < (arrF g v t).getD q 0 - t) := fun h => hc ⟨hz', h⟩
          exact ⟨by omega, fun _ => by omega⟩
        · exact h4 t' (by omega) hz'
/-- .. Fastest the fastest -/
theorem fast_ref {g : Gr} {la ea : Option Addr} {w : World} (hG : GAt w la ea g) (hg0 : gChk g = 0) {v q : Nat} (hv : v < g.lives.length) (hq : q < g.lives.length) :
    ((fstF g v q g.hor.toNat).1 = 1099511627776 → FastIs g v q 0 0 4) ∧ ((fstF g v q g.hor.toNat).1 ≠ 1099511627776 → FastIs g v q (fstF g v q g.hor.toNat).1 (fstF g v q g.hor.toNat).2 0) := by
  have R := gChk_right hg0
  have hh := R.hor
  have hA : ∀ t : Nat, (t : Int) < g.hor → arrF g v t = (erF g v t).1 := fun t ht => arrF_is hG (placeE_of hg0 ⟨by omega, by omega⟩ ⟨by omega, ht⟩)
  have hin : ∀ s τ, Rch g v s q τ → (arrF g v ((s.toNat : Nat) : Int)).getD q 0 ≤ τ ∧ s.toNat < g.hor.toNat ∧ ((s.toNat : Nat) : Int) = s ∧ τ < 1099511627776 := fun s τ h => by
    have h1 := alive_hor R h.src
    have e : ((s.toNat : Nat) : Int) = s := by omega
    have h2 := (erF_ok R (v := (v : Int)) (t := s) (by omega) h.src).2 _ _ h
    have h3 := (h.place R (by omega)).2.2
    rw [hA s.toNat (by omega), e]
    simp only [Int.toNat_natCast] at h2
    exact ⟨h2, by omega, rfl, by omega⟩
  have hout : ∀ t : Nat, t < g.hor.toNat → (arrF g v t).getD q 0 < 1099511627776 → Rch g v t q ((arrF g v t).getD q 0) := fun t ht h => by
    rw [hA t (by omega)] at h ⊢
    by_cases ha : aliveB (t : Int) g.lives (v : Int) = true
    · rcases (erF_ok R (v := (v : Int)) (t := (t : Int)) (by omega) ha).1.is q hq with e | e
      · omega
      · exact e
    · rw [erF_away ha, rep_getD _ _ _ hq] at h; omega
  rcases fstF_spec g v q g.hor.toNat with ⟨h1, h2⟩ | ⟨t, h1, h2, h3, h4⟩
  · refine ⟨fun _ => .inl ⟨rfl, rfl, rfl, fun s τ h => ?_⟩, fun h => absurd h1 h⟩
    obtain ⟨k1, k2, k3, k4⟩ := hin s τ h
    exact h2 s.toNat k2 ⟨by omega, by omega⟩
  · rw [h3]
    refine ⟨fun h => by simp only at h; have := (hout t h1 h2).le R; have := ((hout t h1 h2).place R (by omega)).2.2; omega, fun _ => .inr ⟨rfl, ?_, fun s τ h => ?_, fun s h => ?_⟩⟩
    · have := hout t h1 h2
      simp only
      rw [show (t : Int) + ((arrF g v t).getD q 0 - t) = (arrF g v t).getD q 0 by omega]
      exact this
    · obtain ⟨k1, k2, k3, k4⟩ := hin s τ h
      have := (h4 s.toNat k2 (by omega)).1
      simp only; omega
    · simp only at h ⊢
      obtain ⟨k1, k2, k3, k4⟩ := hin s _ h
      have := h4 s.toNat k2 (by omega)
      omega

end Go.Proofs.Ytkgbgkcbflicmac

namespace Go.Proofs.Ytkgbgkcbflicmac
open Go.RowKit

set_option maxRecDepth 100000 in
set_option maxHeartbeats 1000000 in
theorem cheapWays_walk (g : Gr) (la ea : Option Addr) (lc ec : Nat) (v t q : Int) (w : World) (hG : GAt w la ea g) :
    Calls Try.prog 5 #[.agg #[.int .i64 g.hor, .slice la g.lives.length lc, .slice ea g.edges.length ec], .int .i64 v, .int .i64 t, .int .i64 q] w fun r w' => r = .returned (.bool true) ∧ Below w.heap.size w w' := by
  have B0 := gbx_start w g la ea lc ec 25
  have h1 := cWay_any g la ea lc ec v t q _ (hG.below B0.bel)
  have HP := hideg (fun W (hb : Below w.heap.size w W) => Place_any g la ea lc ec v t W (hG.below hb))
  have HS := hideg (fun (e1 : placeE g v t = 0) W (hb : Below w.heap.size w W) => Sums_any g la ea lc ec v t W (hG.below hb) e1)
  have HG := hideg hG
  clear hG
  go_enter Try.func5, Try.ntmps5
  go_wp2_with fail
  refine h1.mono ?_
  rintro r w1 ⟨u, e, l, rfl, hW, hown, hb1⟩
  have B1 := B0.below hb1
  have g0 := B1.c0
  have g1 := B1.c1
  have g2 := B1.c2
  have h2 := HP.out _ B1.bel
  have HB1 := hideg B1
  have HO1 := hideg hown
  clear h1 hb1 B0 B1 hown
  by_cases e1 : placeE g v t = 0
  case neg =>
    have hel : e = placeE g v t ∧ l = [] := by
      rcases hW with ⟨_, h1, h2⟩ | ⟨h1, _⟩ | ⟨h1, _⟩
      · exact ⟨h1, h2⟩
      · exact absurd h1 e1
      · exact absurd h1 e1
    obtain ⟨rfl, rfl⟩ := hel
    have HWb := hideg (fun ho hc W (hb : Below w.heap.size w W) => ways_bad g la ea lc ec v t q none 0 0 [] ho hc (placeE g v t) W (HG.out.below hb) (.inl ⟨e1, rfl⟩))
    have d0 : (placeE g v t == 0) = false := by simpa using e1
    have d1 : (placeE g v t != 0) = true := by simpa using e1
    generalize placeE g v t = n at *
    clear e1 HS hW
    go_wp2_with fail
    refine h2.mono ?_
    rintro r w2 ⟨rfl, hb2⟩
    have B2 := HB1.out.below hb2
    obtain ⟨ho, hc, rfl, _⟩ := ivAt_of_owns HO1.out
    clear g0 g1 g2 h2 hb2
    have g0 := B2.c0
    have g1 := B2.c1
    have g2 := B2.c2
    have h3 := HWb.out ho hc _ B2.bel
    have hbx := B2.bel
    clear HWb B2 HB1 HO1
    go_wp2_with fail
    refine h3.mono ?_
    rintro r w3 ⟨rfl, hb3⟩
    have hbF := ptg hbx hb3
    clear h3 hb3 hbx g0 g1 g2
    go_wp2
    go_ret
    exact ⟨rfl, hbF⟩
  obtain ⟨hg0, ⟨hv0, hv1⟩, ht0, ht1⟩ := placeE_zero e1
  have hR := gChk_right hg0
  have hlen := hR.lvs
  have hhor := hR.hor
  have HLs : Hid (∀ X Y, SumIs g v t X Y → LeastIs g prCost v t (lstL X g.hor.toNat g.lives.length)) := fun X Y S => least_ref hR (pr := id) (fun c h1 h2 => ⟨h1, h2⟩) hv0 S.costs
  have HWb : Hid (∀ ho hc gq cap W T, e = 4 → (¬ (0 ≤ q ∧ q < g.lives.length) ∨ ∀ τ p, ¬ Pay g prCost v t q τ p) → LeastIs g prCost v t T → Below w.heap.size w W → ZsAt W (some ⟨gq, 0, none⟩) T → Calls Try.prog 18 #[.agg #[.int .i64 g.hor, .slice la g.lives.length lc, .slice ea g.edges.length ec], .int .i64 v, .int .i64 t, .int .i64 q, .slice (some ⟨gq, 0, none⟩) g.lives.length cap, .slice ho 0 hc, .int .i64 e] W fun r w' => r = .returned (.tuple #[.int .i64 0, .int .i64 0, .bool true]) ∧ Below W.heap.size W w') := fun ho hc gq cap W T he hq hT hb hZ => by
    subst he
    refine ways_bad g la ea lc ec v t q (some ⟨gq, 0, none⟩) g.lives.length cap T ho hc 4 W (HG.out.below hb) (.inr ⟨e1, rfl, ?_⟩)
    by_cases hr : 0 ≤ q ∧ q < g.lives.length
    · rcases hq with hq | hq
      · exact absurd hr hq
      · refine .inr ⟨rfl, hT.len, hZ, ?_, hr⟩
        rcases hT.is q.toNat (by omega) with k | ⟨τ, k⟩
        · exact k
        · rw [show ((q.toNat : Nat) : Int) = q by omega] at k
          exact absurd k (hq _ _)
    · exact .inl hr
  have HWk : Hid (∀ (Y : Nat) ho hc gq cap W T τ P, e = 0 → q = (Y : Int) → Y < g.lives.length → l.length ≤ 100 → aliveB t g.lives v = true → goF g (some (v, t, 0)) l = some (q, τ, P) → (∃ τ', Pay g prCost v t q τ' P) → (∀ τ' p, Pay g prCost v t q τ' p → P ≤ p) → LeastIs g prCost v t T → Below w.heap.size w W → ZsAt W (some ⟨gq, 0, none⟩) T → IvAt W ho l → (T.getD Y 0 = P ∧ Calls Try.prog 18 #[.agg #[.int .i64 g.hor, .slice la g.lives.length lc, .slice ea g.edges.length ec], .int .i64 v, .int .i64 t, .int .i64 Y, .slice (some ⟨gq, 0, none⟩) g.lives.length cap, .slice ho l.length hc, .int .i64 0] W fun r w' => r = .returned (.tuple #[.int .i64 τ, .int .i64 P, .bool true]) ∧ Below W.heap.size W w')) := fun Y ho hc gq cap W T τ P he hqY hY hl hal hgo hex hle hT hb hZ hH => by
    subst hqY
    obtain ⟨τ', hP⟩ := hex
    have hr := hP.range hR (prCost_ok hR) hv0
    have h1 := hT.least Y hY _ _ hP
    have hTY : T.getD Y 0 = P := by
      rcases hT.is Y hY with k | ⟨τ'', k⟩
      · omega
      · have := hle _ _ k; omega
    have hga := goAns_ok (s := (v, t, 0)) hg0 ⟨hv0, hv1, hal⟩ rfl (by omega) hgo
    exact ⟨hTY, ways_ok g la ea lc ec v t Y (some ⟨gq, 0, none⟩) cap T ho hc l τ P W (HG.out.below hb) e1 hY hT.len hZ (by omega) hH (by omega) hga⟩
  rw [e1] at h2
  have HS2 := hideg (HS.out e1)
  have hW' : (e = 4 ∧ l = [] ∧ (¬ (0 ≤ q ∧ q < g.lives.length) ∨ ∀ τ p, ¬ Pay g prCost v t q τ p)) ∨ (e = 0 ∧ (0 ≤ q ∧ q < g.lives.length) ∧ l.length ≤ 100 ∧ ∃ τ P, aliveB t g.lives v = true ∧ goF g (some (v, t, 0)) l = some (q, τ, P) ∧ (∃ τ', Pay g prCost v t q τ' P) ∧ ∀ τ' p, Pay g prCost v t q τ' p → P ≤ p) := by
    rcases hW with ⟨h1, _⟩ | ⟨_, h2, h3, h4⟩ | ⟨_, h2, h3, h4, h5⟩
    · exact absurd e1 h1
    · exact .inl ⟨h3, h4, h2⟩
    · exact .inr ⟨h3, h2, h4, h5⟩
  have HW := hideg hW'
  have HRt := hideg hR
  have hn0 : 0 < g.lives.length := by omega
  clear hW hW' e1 hg0 hv0 hv1 ht0 ht1 hR HS
  go_wp2_with fail
  refine h2.mono ?_
  rintro r w2 ⟨rfl, hb2⟩
  have B2 := HB1.out.below hb2
  have ho1 := ownsRow_below HO1.out hb2
  have h3 := HS2.out w2 B2.bel
  clear h2 hb2 HB1 HO1 g0 g1 g2 HS2
  have g0 := B2.c0
  have g1 := B2.c1
  have g2 := B2.c2
  go_wp2_with fail
  refine h3.mono ?_
  rintro r w3 ⟨goC, cC, goH, cH, bc, bh, X, Y, rfl, hX, hY, hbc, hbh, hSum, hb3⟩
  have B3 := B2.below hb3
  have ho1 := ownsRow_below ho1 hb3
  have hL1 := Least_any w2.heap.size goC cC bc g.hor.toNat g.lives.length X w3 hX hbc (by omega) hlen
  have hLs := HLs.out X Y hSum
  clear h3 hb3 B2 g0 g1 g2 hX hY hbc hbh hSum HLs
  generalize lstL X g.hor.toNat g.lives.length = T at *
  have HLs := hideg hLs
  clear hLs
  go_wp2_with fail
  refine hL1.mono ?_
  rintro r w4 ⟨uT, rfl, hoT, hb4⟩
  have B4 := B3.below hb4
  have ho1 := ownsRow_below ho1 hb4
  rcases hoT.2 with ⟨_, h0⟩ | ⟨gq, cap, cur, rfl, _⟩
  · omega
  have hZ := zsAt_of_zoE hoT
  have hZl := (World.ownsRow.lt hoT _ rfl).2
  obtain ⟨ho, hc, rfl, hI⟩ := ivAt_of_owns ho1
  have cY := fun (Y : Nat) (hY : Y < g.lives.length) => Zo.cell hoT hY
  have g0 := B4.c0
  have g1 := B4.c1
  have g2 := B4.c2
  have HB4 := hideg B4
  have HCY := hideg cY
  clear hL1 hb4 B3 ho1 cY
  rcases HW.out with ⟨he, hl, hq⟩ | ⟨he, hq, hl, τ, P, hal, hgo, hex, hle⟩
  · have h5 := HWb.out ho hc gq cap w4 T he hq HLs.out HB4.out.bel hZ
    subst he
    subst hl
    clear HWb HWk HW HLs hq hZ hI hoT HCY B4 hZl
    go_wp2_with fail
    refine h5.mono ?_
    rintro r w5 ⟨rfl, hb5⟩
    have hbF := (HB4.out.below hb5).bel
    clear h5 hb5 g0 g1 g2 HB4
    go_wp2
    go_ret
    exact ⟨rfl, hbF⟩
  · obtain ⟨Q, hQ⟩ : ∃ Q : Nat, q = (Q : Int) := ⟨q.toNat, by omega⟩
    have hQl : Q < g.lives.length := by omega
    have hQi : (Q : Int) < (g.lives.length : Int) := by omega
    obtain ⟨hTQ, h5⟩ := HWk.out Q ho hc gq cap w4 T τ P he hQ hQl hl hal hgo hex hle HLs.out HB4.out.bel hZ hI
    have cQ := HCY.out Q hQl
    rw [hTQ] at cQ
    subst he
    subst hQ
    clear HWb HWk HW HLs hq hl hal hgo hex hle hZ hI hTQ hoT HCY B4
    go_wp2_with fail
    refine h5.mono ?_
    rintro r w5 ⟨rfl, hb5⟩
    have hbF := (HB4.out.below hb5).bel
    have cQ5 := (hb5.cell (p := ⟨gq, Q, none⟩) hZl).trans cQ
    clear h5 hb5 g0 g1 g2 HB4 cQ
    go_wp2
    go_ret
    exact ⟨rfl, hbF⟩

end Go.Proofs.Ytkgbgkcbflicmac

namespace Go.Proofs.Ytkgbgkcbflicmac
open Go.ChangeShapes Go.WideShapes Go.ChangeAt Go.RowKit Go.Deep

theorem Try.own : ownKnob Try.prog.godebug = none := by kernel_rfl
theorem Try.laidOut : laidOutB Try.prog = true := by kernel_rfl
theorem Try.cellsIvl : Try.prog.cellsOf 59 = 2 := by kernel_rfl
theorem Try.cellsInt : Try.prog.cellsOf 3 = 1 := by kernel_rfl

theorem open_ivs {H : Type} {enc : TypeId × Value → H} {W : World} {a : Option Addr} {len cap : Nat} {d : DataW H} {ps : List MemPlace}
    (h : DataW.Trod enc Try.prog W 0 (fun _ => true) true 22 (.slice a len cap) d ps) : ∃ l : List (Int × Int), l.length = len ∧ IvAt W a l ∧ len ≤ cap ∧ cap ≤ 9223372036854775807 := by
  obtain ⟨fuel, hf⟩ := h
  rcases open_slice_pairs Try.underlying22 Try.underlying59 Try.cellsIvl rfl rfl Try.cellsInt Try.cellsInt hf with ⟨hcs, _⟩ | ⟨x, l, c, m, n, V0, V1, D0, D1, P0, P1, hcs, _, hl, hm, hmm, _, hcell⟩
  · simp [Value.cells] at hcs
    obtain ⟨rfl, rfl, rfl⟩ := hcs
    exact ⟨[], rfl, .inl rfl, Nat.le_refl _, by omega⟩
  · simp [Value.cells] at hcs
    obtain ⟨rfl, rfl, rfl⟩ := hcs
    simp only [if_true] at hmm
    subst hmm
    have each : ∀ i, i < len → ∃ q : Int × Int, W.cell? (x.add (i * 2)) = some (.int .i64 q.1) ∧ W.cell? (x.add (i * 2 + 1)) = some (.int .i64 q.2) := by
      intro i hi
      obtain ⟨h0, h1, t0, t1⟩ := hcell i (by omega)
      obtain ⟨z0, e0, _, _⟩ := DataW.trod_int Try.underlying3 t0
      obtain ⟨z1, e1, _, _⟩ := DataW.trod_int Try.underlying3 t1
      simp only [List.cons.injEq, and_true] at e0 e1
      exact ⟨(z0, z1), by rw [h0, e0], by rw [h1, e1]⟩
    obtain ⟨q, hq⟩ := choose_lt each
    refine ⟨(List.range len).map q, by simp, ?_, hl, by unfold maxLen at hm; omega⟩
    by_cases h0 : len = 0
    · subst h0; exact .inl (by simp)
    · obtain ⟨b, off, spot⟩ := x
      have hc0 := (hq 0 (by omega)).1
      have hspot : spot = none := by simpa [Addr.add] using World.cell?_spot hc0
      subst hspot
      have hlt := World.block_lt_of_cell? W _ hc0
      refine .inr ⟨b, off, rfl, by simpa [Addr.add] using hlt, fun j hj => ?_⟩
      simp only [List.length_map, List.length_range] at hj
      have hg : ((List.range len).map q).getD j (0, 0) = q j := by simp [List.getD_eq_getElem?_getD, hj]
      rw [hg]
      have := hq j hj
      rw [add_plain, add_plain] at this
      simpa [Nat.add_assoc] using this

end Go.Proofs.Ytkgbgkcbflicmac

namespace Go.Proofs.Ytkgbgkcbflicmac
open Go.ChangeShapes Go.WideShapes Go.ChangeAt Go.RowKit Go.Deep

theorem Try.cellsLeg : Try.prog.cellsOf 61 = 4 := by kernel_rfl
theorem Try.cellsEdge : Try.prog.cellsOf 51 = 3 := by kernel_rfl
theorem Try.cellsGraph : Try.prog.cellsOf 25 = 3 := by kernel_rfl
theorem Try.cellsLegs : Try.prog.cellsOf 49 = 1 := by kernel_rfl
theorem Try.cellsIvls : Try.prog.cellsOf 22 = 1 := by kernel_rfl
theorem Try.cellsEdges : Try.prog.cellsOf 23 = 1 := by kernel_rfl

theorem open_ivs_c {H : Type} {enc : TypeId × Value → H} {W : World} {fuel : Nat} {cs : List Value} {d : DataW H} {ps : List MemPlace}
    (hf : DataW.trod enc Try.prog W 0 (fun _ => true) true fuel 22 cs = some (d, ps)) : ∃ a cap, ∃ l : List (Int × Int), cs = [.slice a l.length cap] ∧ IvAt W a l ∧ l.length ≤ cap ∧ cap ≤ 9223372036854775807 := by
  have h : ∃ a n c, cs = [.slice a n c] := by
    rcases open_slice Try.underlying22 hf with ⟨hcs, _⟩ | ⟨x, l, c, m, n, D, Pl, hcs, _⟩
    · exact ⟨_, _, _, hcs⟩
    · exact ⟨_, _, _, hcs⟩
  obtain ⟨a, n, c, rfl⟩ := h
  obtain ⟨l, rfl, h1, h2, h3⟩ := open_ivs (a := a) (len := n) (cap := c) ⟨fuel, hf⟩
  exact ⟨a, c, l, rfl, h1, h2, h3⟩

set_option maxRecDepth 100000 in
theorem open_legs_c {H : Type} {enc : TypeId × Value → H} {W : World} {fuel : Nat} {cs : List Value} {d : DataW H} {ps : List MemPlace}
    (hf : DataW.trod enc Try.prog W 0 (fun _ => true) true fuel 49 cs = some (d, ps)) : ∃ a cap, ∃ l : List Lg, cs = [.slice a l.length cap] ∧ LgAt W a l ∧ l.length ≤ cap ∧ cap ≤ 9223372036854775807 := by
  rcases open_slice Try.underlying49 hf with ⟨hcs, _⟩ | ⟨x, len, cap, m, n, D, Pl, hcs, _, hl, hm, hmm, _, hx⟩
  · exact ⟨none, 0, [], hcs, .inl rfl, Nat.le_refl _, by omega⟩
  · simp only [if_true] at hmm
    subst hmm
    have each : ∀ i, i < len → ∃ q : Lg, W.cell? (x.add (i * 4)) = some (.int .i64 q.1) ∧ W.cell? (x.add (i * 4 + 1)) = some (.int .i64 q.2.1) ∧ W.cell? (x.add (i * 4 + 2)) = some (.int .i64 q.2.2.1) ∧ W.cell? (x.add (i * 4 + 3)) = some (.int .i64 q.2.2.2) := by
      intro i hi
      obtain ⟨cs', h1, h2⟩ := hx i (by omega)
      rw [Try.cellsLeg] at h1
      obtain ⟨_, hlen, hcell⟩ := World.cells?_some h1
      obtain ⟨xs, k, hk, hxy, _, hxl, hff⟩ := DataW.trod_struct Try.underlying61 h2
      match xs, hxl, cs', hlen with
      | [y0, y1, y2, y3], _, [v0, v1, v2, v3], _ =>
        have g0 := hff 0 _ rfl
        have g1 := hff 1 _ rfl
        have g2 := hff 2 _ rfl
        have g3 := hff 3 _ rfl
        simp [Try.cellsInt] at g0 g1 g2 g3
        have e0 := hcell 0 (by omega)
        have e1 := hcell 1 (by omega)
        have e2 := hcell 2 (by omega)
        have e3 := hcell 3 (by omega)
        rw [add_add] at e0 e1 e2 e3
        obtain ⟨z0, f0, _, _⟩ := DataW.trod_int Try.underlying3 g0
        obtain ⟨z1, f1, _, _⟩ := DataW.trod_int Try.underlying3 g1
        obtain ⟨z2, f2, _, _⟩ := DataW.trod_int Try.underlying3 g2
        obtain ⟨z3, f3, _, _⟩ := DataW.trod_int Try.underlying3 g3
        simp only [List.cons.injEq, and_true] at f0 f1 f2 f3
        subst f0
        subst f1
        subst f2
        subst f3
        exact ⟨(z0, z1, z2, z3), by simpa using e0, by simpa using e1, by simpa using e2, by simpa using e3⟩
    obtain ⟨q, hq⟩ := choose_lt each
    refine ⟨some x, m, (List.range len).map q, by rw [hcs]; simp, ?_, by simpa using hl, by unfold maxLen at hm; omega⟩
    by_cases h0 : len = 0
    · subst h0; exact .inl (by simp)
    · obtain ⟨b, off, spot⟩ := x
      have hc0 := (hq 0 (by omega)).1
      have hspot : spot = none := by simpa [Addr.add] using World.cell?_spot hc0
      subst hspot
      have hlt := World.block_lt_of_cell? W _ hc0
      refine .inr ⟨b, off, rfl, by simpa [Addr.add] using hlt, fun j hj => ?_⟩
      simp only [List.length_map, List.length_range] at hj
      have hg : ((List.range len).map q).getD j (0, 0, 0, 0) = q j := by simp [List.getD_eq_getElem?_getD, hj]
      rw [hg]
      have := hq j hj
      rw [add_plain, add_plain, add_plain, add_plain] at this
      simpa [Nat.add_assoc] using this

set_option maxRecDepth 100000 in
theorem open_eds_c {H : Type} {enc : TypeId × Value → H} {W : World} {fuel : Nat} {cs : List Value} {d : DataW H} {ps : List MemPlace}
    (hf : DataW.trod enc Try.prog W 0 (fun _ => true) true fuel 23 cs = some (d, ps)) : ∃ a cap, ∃ l : List Ed, cs = [.slice a l.length cap] ∧ EdAt W a l ∧ l.length ≤ cap ∧ cap ≤ 9223372036854775807 := by
  rcases open_slice Try.underlying23 hf with ⟨hcs, _⟩ | ⟨x, len, cap, m, n, D, Pl, hcs, _, hl, hm, hmm, _, hx⟩
  · exact ⟨none, 0, [], hcs, .inl rfl, Nat.le_refl _, by omega⟩
  · simp only [if_true] at hmm
    subst hmm
    have each : ∀ i, i < len → ∃ q : Ed, W.cell? (x.add (i * 3)) = some (.int .i64 q.1) ∧ W.cell? (x.add (i * 3 + 1)) = some (.int .i64 q.2.1) ∧ ∃ la lc, W.cell? (x.add (i * 3 + 2)) = some (.slice la q.2.2.length lc) ∧ LgAt W la q.2.2 ∧ q.2.2.length ≤ lc ∧ lc ≤ 9223372036854775807 := by
      intro i hi
      obtain ⟨cs', h1, h2⟩ := hx i (by omega)
      rw [Try.cellsEdge] at h1
      obtain ⟨_, hlen, hcell⟩ := World.cells?_some h1
      obtain ⟨xs, k, hk, hxy, _, hxl, hff⟩ := DataW.trod_struct Try.underlying51 h2
      match xs, hxl, cs', hlen with
      | [y0, y1, y2], _, [v0, v1, v2], _ =>
        have g0 := hff 0 _ rfl
        have g1 := hff 1 _ rfl
        have g2 := hff 2 _ rfl
        simp [Try.cellsInt, Try.cellsLegs] at g0 g1 g2
        have e0 := hcell 0 (by omega)
        have e1 := hcell 1 (by omega)
        have e2 := hcell 2 (by omega)
        rw [add_add] at e0 e1 e2
        obtain ⟨z0, f0, _, _⟩ := DataW.trod_int Try.underlying3 g0
        obtain ⟨z1, f1, _, _⟩ := DataW.trod_int Try.underlying3 g1
        obtain ⟨la, lc, ls, f2, hL, hn, hm'⟩ := open_legs_c (d := y2.1) (ps := y2.2) g2
        simp only [List.cons.injEq, and_true] at f0 f1 f2
        subst f0
        subst f1
        subst f2
        exact ⟨(z0, z1, ls), by simpa using e0, by simpa using e1, la, lc, by simpa using e2, hL, hn, hm'⟩
    obtain ⟨q, hq⟩ := choose_lt each
    refine ⟨some x, m, (List.range len).map q, by rw [hcs]; simp, ?_, by simpa using hl, by unfold maxLen at hm; omega⟩
    by_cases h0 : len = 0
    · subst h0; exact .inl (by simp)
    · obtain ⟨b, off, spot⟩ := x
      have hc0 := (hq 0 (by omega)).1
      have hspot : spot = none := by simpa [Addr.add] using World.cell?_spot hc0
      subst hspot
      have hlt := World.block_lt_of_cell? W _ hc0
      refine .inr ⟨b, off, rfl, by simpa [Addr.add] using hlt, fun j hj => ?_⟩
      simp only [List.length_map, List.length_range] at hj
      have hg : ((List.range len).map q)[j]'(by simpa using hj) = q j := by simp
      rw [hg]
      obtain ⟨r0, r1, la, lc, r2, r3⟩ := hq j hj
      rw [add_plain] at r0 r1 r2
      exact ⟨by simpa [Nat.add_assoc] using r0, by simpa [Nat.add_assoc] using r1, la, lc, by simpa [Nat.add_assoc] using r2, r3⟩

theorem three_ofG {α : Type} {cs : Array α} (h : cs.size = 3) : ∃ x y z, cs = #[x, y, z] := by
  obtain ⟨l⟩ := cs
  match l, h with
  | [x, y, z], _ => exact ⟨x, y, z, rfl⟩

set_option maxRecDepth 100000 in
theorem open_graph {H : Type} {enc : TypeId × Value → H} {W : World} {r : Reach} {b0 : Nat} {v : Value} {d : DataW H} {ps : List MemPlace}
    (hv : Value.okWide Try.prog W r b0 25 v) (h : DataW.Trod enc Try.prog W 0 (fun _ => true) true 25 v d ps) :
    ∃ (g : Gr) (la ea : Option Addr) (lc ec : Nat), v = .agg #[.int .i64 g.hor, .slice la g.lives.length lc, .slice ea g.edges.length ec] ∧ GAt W la ea g ∧ g.lives.length ≤ lc ∧ lc ≤ 9223372036854775807 := by
  obtain ⟨cs, rfl, hsz⟩ := okWide_struct Try.underlying25 hv
  obtain ⟨v0, v1, v2, rfl⟩ := three_ofG (hsz.trans Try.cellsGraph)
  obtain ⟨fuel, h2⟩ := h
  obtain ⟨xs, k, hk, hxy, _, hxl, hff⟩ := DataW.trod_struct Try.underlying25 h2
  match xs, hxl with
  | [y0, y1, y2], _ =>
    have g0 := hff 0 _ rfl
    have g1 := hff 1 _ rfl
    have g2 := hff 2 _ rfl
    simp [Try.cellsInt, Try.cellsIvls, Try.cellsEdges, Value.cells] at g0 g1 g2
    obtain ⟨z0, f0, _, _⟩ := DataW.trod_int Try.underlying3 g0
    obtain ⟨la, lc, ls, f1, hL, hn, hm⟩ := open_ivs_c (d := y1.1) (ps := y1.2) g1
    obtain ⟨ea, ec, es, f2, hE, hn2, hm2⟩ := open_eds_c (d := y2.1) (ps := y2.2) g2
    simp only [List.cons.injEq, and_true] at f0 f1 f2
    subst f0
    subst f1
    subst f2
    exact ⟨⟨z0, ls, es⟩, la, ea, lc, ec, rfl, ⟨hL, hE, by simp only; omega, by simp only; omega⟩, hn, hm⟩

end Go.Proofs.Ytkgbgkcbflicmac

namespace Go.Proofs.Ytkgbgkcbflicmac
open Go.ChangeShapes Go.WideShapes Go.ChangeAt Go.RowKit Go.Deep

set_option maxRecDepth 100000 in
theorem Try.cellsHop : Try.prog.cellsOf 48 = 2 := by kernel_rfl

set_option maxRecDepth 100000 in
theorem open_hops {H : Type} {enc : TypeId × Value → H} {W : World} {a : Option Addr} {len cap : Nat} {d : DataW H} {ps : List MemPlace}
    (h : DataW.Trod enc Try.prog W 0 (fun _ => true) true 41 (.slice a len cap) d ps) : ∃ l : List (Int × Int), l.length = len ∧ IvAt W a l ∧ len ≤ cap ∧ cap ≤ 9223372036854775807 := by
  obtain ⟨fuel, hf⟩ := h
  rcases open_slice_pairs Try.underlying41 Try.underlying48 Try.cellsHop rfl rfl Try.cellsInt Try.cellsInt hf with ⟨hcs, _⟩ | ⟨x, l, c, m, n, V0, V1, D0, D1, P0, P1, hcs, _, hl, hm, hmm, _, hcell⟩
  · simp [Value.cells] at hcs
    obtain ⟨rfl, rfl, rfl⟩ := hcs
    exact ⟨[], rfl, .inl rfl, Nat.le_refl _, by omega⟩
  · simp [Value.cells] at hcs
    obtain ⟨rfl, rfl, rfl⟩ := hcs
    simp only [if_true] at hmm
    subst hmm
    have each : ∀ i, i < len → ∃ q : Int × Int, W.cell? (x.add (i * 2)) = some (.int .i64 q.1) ∧ W.cell? (x.add (i * 2 + 1)) = some (.int .i64 q.2) := by
      intro i hi
      obtain ⟨h0, h1, t0, t1⟩ := hcell i (by omega)
      obtain ⟨z0, e0, _, _⟩ := DataW.trod_int Try.underlying3 t0
      obtain ⟨z1, e1, _, _⟩ := DataW.trod_int Try.underlying3 t1
      simp only [List.cons.injEq, and_true] at e0 e1
      exact ⟨(z0, z1), by rw [h0, e0], by rw [h1, e1]⟩
    obtain ⟨q, hq⟩ := choose_lt each
    refine ⟨(List.range len).map q, by simp, ?_, hl, by unfold maxLen at hm; omega⟩
    by_cases h0 : len = 0
    · subst h0; exact .inl (by simp)
    · obtain ⟨b, off, spot⟩ := x
      have hc0 := (hq 0 (by omega)).1
      have hspot : spot = none := by simpa [Addr.add] using World.cell?_spot hc0
      subst hspot
      have hlt := World.block_lt_of_cell? W _ hc0
      refine .inr ⟨b, off, rfl, by simpa [Addr.add] using hlt, fun j hj => ?_⟩
      simp only [List.length_map, List.length_range] at hj
      have hg : ((List.range len).map q).getD j (0, 0) = q j := by simp [List.getD_eq_getElem?_getD, hj]
      rw [hg]
      have := hq j hj
      rw [add_plain, add_plain] at this
      simpa [Nat.add_assoc] using this

set_option maxRecDepth 100000 in
theorem two_ofH {α : Type} {cs : Array α} (h : cs.size = 2) : ∃ x y, cs = #[x, y] := by
  obtain ⟨l⟩ := cs
  match l, h with
  | [x, y], _ => exact ⟨x, y, rfl⟩
set_option maxRecDepth 100000 in
theorem open_hop {H : Type} {enc : TypeId × Value → H} {W : World} {r : Reach} {b0 : Nat} {v : Value} {d : DataW H} {ps : List MemPlace}
    (hv : Value.okWide Try.prog W r b0 48 v) (h : DataW.Trod enc Try.prog W 0 (fun _ => true) true 48 v d ps) : ∃ p : Int × Int, v = .agg #[.int .i64 p.1, .int .i64 p.2] := by
  obtain ⟨cs, rfl, hsz⟩ := okWide_struct Try.underlying48 hv
  obtain ⟨v0, v1, rfl⟩ := two_ofH (hsz.trans Try.cellsHop)
  obtain ⟨fuel, h2⟩ := h
  obtain ⟨xs, k, hk, hxy, _, hxl, hff⟩ := DataW.trod_struct Try.underlying48 h2
  match xs, hxl with
  | [y0, y1], _ =>
    have g0 := hff 0 _ rfl
    have g1 := hff 1 _ rfl
    simp [Try.cellsInt, Value.cells] at g0 g1
    obtain ⟨z0, f0, _, _⟩ := DataW.trod_int Try.underlying3 g0
    obtain ⟨z1, f1, _, _⟩ := DataW.trod_int Try.underlying3 g1
    simp only [List.cons.injEq, and_true] at f0 f1
    subst f0
    subst f1
    exact ⟨(z0, z1), rfl⟩

set_option maxRecDepth 100000 in
theorem open_zs {H : Type} {enc : TypeId × Value → H} {W : World} {a : Option Addr} {len cap : Nat} {d : DataW H} {ps : List MemPlace}
    (h : DataW.Trod enc Try.prog W 0 (fun _ => true) true 28 (.slice a len cap) d ps) : ∃ l : List Int, l.length = len ∧ ZsAt W a l ∧ len ≤ cap ∧ cap ≤ 9223372036854775807 := by
  obtain ⟨fuel, hf⟩ := h
  rcases open_slice Try.underlying28 hf with ⟨hcs, _⟩ | ⟨x, l, c, m, n, D, Pl, hcs, _, hl, hm, hmm, _, hx⟩
  · simp [Value.cells] at hcs
    obtain ⟨rfl, rfl, rfl⟩ := hcs
    exact ⟨[], rfl, .inl rfl, Nat.le_refl _, by omega⟩
  · simp [Value.cells] at hcs
    obtain ⟨rfl, rfl, rfl⟩ := hcs
    simp only [if_true] at hmm
    subst hmm
    have each : ∀ i, i < len → ∃ q : Int, W.cell? (x.add i) = some (.int .i64 q) := by
      intro i hi
      obtain ⟨cs', h1, h2⟩ := hx i (by omega)
      rw [Try.cellsInt, Nat.mul_one] at h1
      obtain ⟨_, hlen, hcell⟩ := World.cells?_some h1
      obtain ⟨z0, f0, _, _⟩ := DataW.trod_int Try.underlying3 h2
      subst f0
      have e0 := hcell 0 (by simp)
      exact ⟨z0, by simpa [add_add] using e0⟩
    obtain ⟨q, hq⟩ := choose_lt each
    refine ⟨(List.range len).map q, by simp, ?_, hl, by unfold maxLen at hm; omega⟩
    by_cases h0 : len = 0
    · subst h0; exact .inl (by simp)
    · obtain ⟨b, off, spot⟩ := x
      have hc0 := hq 0 (by omega)
      have hspot : spot = none := by simpa [Addr.add] using World.cell?_spot hc0
      subst hspot
      have hlt := World.block_lt_of_cell? W _ hc0
      refine .inr ⟨b, off, rfl, by simpa [Addr.add] using hlt, fun j hj => ?_⟩
      simp only [List.length_map, List.length_range] at hj
      have := hq j hj
      rw [add_plain] at this
      simpa [hj] using this

end Go.Proofs.Ytkgbgkcbflicmac

namespace Go.Proofs.Ytkgbgkcbflicmac
open Go.ChangeShapes Go.WideShapes Go.ChangeAt Go.RowKit

set_option maxRecDepth 100000 in
theorem cheapWays_lifted (os : Os) (started : os.Started) (H : Type) (enc : TypeId × Value → H) :
    ReturnsInHanded {} Try.checked os 5 .any (Rows.cheapWaysSpec.pre6 enc Try.prog Try.f5 Rows.cheapWaysRow.domain false) (Rows.cheapWaysSpec.post enc Try.prog Try.f5 false true false false) := by
  refine returnsInHanded_of_change (C := Try.checked) Try.own started (by kernel_rfl) Try.func5
    (ChangeSpec.witness6 (enc := enc) (C := Try.checked) false ⟨#[], #[.agg #[.int .i64 0, .slice none 0 0, .slice none 0 0], .int .i64 0, .int .i64 0, .int .i64 0], []⟩ 8 (by kernel_rfl) (by kernel_rfl) (by kernel_rfl) (by kernel_rfl)) ?_
  intro W base args ds gs before hval0 hW hcnd _
  have hval : ∀ (j : Nat) t v, Try.f5.params[j]? = some t → args[j]? = some v → Value.okWide Try.prog W .any base t v := hval0
  have hW' := hW
  obtain ⟨p, q, hA0, hV, rfl, hfz, hnd⟩ := hW
  have hA : DataW.TrodAll enc Try.prog W 0 (fun _ => true) true Try.f5.params.toList args.toList ds p := hA0
  rw [Try.params5] at hA hval
  obtain ⟨v0, vs0, d0, ds0, p0, q0, hargs, rfl, rfl, h0, r0⟩ := trodAll_cons hA
  obtain ⟨v1, vs1, d1, ds1, p1, q1, rfl, rfl, rfl, h1, r1⟩ := trodAll_cons r0
  obtain ⟨v2, vs2, d2, ds2, p2, q2, rfl, rfl, rfl, h2, r2⟩ := trodAll_cons r1
  obtain ⟨v3, vs3, d3, ds3, p3, q3, rfl, rfl, rfl, h3, r3⟩ := trodAll_cons r2
  obtain ⟨rfl, rfl, rfl⟩ := trodAll_nil r3
  obtain rfl : args = #[v0, v1, v2, v3] := by cases args; simp_all
  obtain ⟨rfl, rfl⟩ := trodVars_none hV
  have k0 := h0
  have lt0 : ∀ x ∈ p0, x.block < W.heap.size := by obtain ⟨m, hm⟩ := k0; exact DataW.trod_lt m _ _ _ hm
  obtain ⟨g0, la0, ea0, lc0, ec0, rfl, hG0, hl0, hm0⟩ := open_graph (hval 0 25 v0 rfl rfl) h0
  obtain ⟨t1, rfl, rfl, rfl, wt1⟩ := open_int Try.underlying3 (hval 1 3 v1 rfl rfl) h1
  obtain ⟨t2, rfl, rfl, rfl, wt2⟩ := open_int Try.underlying3 (hval 2 3 v2 rfl rfl) h2
  obtain ⟨t3, rfl, rfl, rfl, wt3⟩ := open_int Try.underlying3 (hval 3 3 v3 rfl rfl) h3
  clear hA0 hval0
  refine (cheapWays_walk g0 la0 ea0 lc0 ec0 t1 t2 t3 W hG0).mono fun e W' ⟨he, bel⟩ => ?_
  subst he
  exact ⟨_, rfl, _, _, _, [], _, [], hW', trodAll_mk1 (shut_bool Try.underlying4 _), (trodAll_cons_mk (Below.trod Try.laidOut (by kernel_rfl) (of_decide_eq_true (by kernel_rfl)) k0 bel lt0) (trodAll_cons_mk (shut_int Try.underlying3 wt1) (trodAll_cons_mk (shut_int Try.underlying3 wt2) (trodAll_cons_mk (shut_int Try.underlying3 wt3) trodAll_mk0)))), rfl, bel.frame _, fun h => by cases h⟩

theorem cheapWays_holds : Rows.CheapWaysSaid :=
  OpenClaim.holds_of_wide 5 Try.f5 rfl rfl rfl rfl rfl rfl rfl ⟨rfl, rfl, rfl, rfl, rfl⟩ rfl rfl rfl rfl rfl (by kernel_rfl) Try.func5 (by kernel_rfl)
    (of_decide_eq_true (by kernel_rfl)) (by unfold Func.isWrapper; first | (rw [if_pos (by decide +kernel)]; kernel_rfl) | (rw [if_neg (by decide +kernel)]; exact ⟨rfl, rfl⟩))
    (fun os started H enc _ => cheapWays_lifted os started H enc)

end Go.Proofs.Ytkgbgkcbflicmac
