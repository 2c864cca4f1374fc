/-
  Snapshots, and what is told of them: the plain mathematics, without any program.
-/
import Derived.Test.YtjjhhmlogddnkaiDoorPk1
namespace Go.Proofs.YtjjhhmlogddnkaiDoor

/-- is v the number of a vertex? -/
def vtx (n : Nat) (v : Int) : Bool := decide (0 ≤ v) && decide (v < (n : Int))
/-- is v alive? -/
def alv (al : List Bool) (v : Int) : Bool := vtx al.length v && al.getD v.toNat false
def endsB (al : List Bool) (a : Ac) : Bool := alv al a.1 && alv al a.2.1
def costB (a : Ac) : Bool := decide (0 ≤ a.2.2) && decide (a.2.2 ≤ 1000)
/-- what Check of a snapshot answers -/
def shot (al : List Bool) (arcs : List Ac) : Int :=
  if 12 < al.length ∨ 30 < arcs.length then 2 else if arcs.all (endsB al) = true then (if arcs.all costB = true then 0 else 1) else 4

theorem vtx_iff (n : Nat) (v : Int) : vtx n v = true ↔ 0 ≤ v ∧ v < (n : Int) := by unfold vtx; simp
theorem alv_iff (al : List Bool) (v : Int) : alv al v = true ↔ 0 ≤ v ∧ v < (al.length : Int) ∧ al.getD v.toNat false = true := by
  unfold alv; rw [Bool.and_eq_true, vtx_iff]; exact ⟨fun ⟨⟨a, b⟩, c⟩ => ⟨a, b, c⟩, fun ⟨a, b, c⟩ => ⟨⟨a, b⟩, c⟩⟩
theorem endsB_iff (al : List Bool) (a : Ac) : endsB al a = true ↔ alv al a.1 = true ∧ alv al a.2.1 = true := by unfold endsB; rw [Bool.and_eq_true]
theorem costB_iff (a : Ac) : costB a = true ↔ 0 ≤ a.2.2 ∧ a.2.2 ≤ 1000 := by unfold costB; simp
theorem alv_no {al : List Bool} {v : Int} (h : vtx al.length v = false) : alv al v = false := by unfold alv; rw [h]; rfl
theorem alv_yes {al : List Bool} {v : Int} (h : vtx al.length v = true) : alv al v = al.getD v.toNat false := by unfold alv; rw [h]; rfl

theorem shot_large {al : List Bool} {arcs : List Ac} (h : 12 < al.length ∨ 30 < arcs.length) : shot al arcs = 2 := by unfold shot; rw [if_pos h]
theorem shot_none {al : List Bool} {arcs : List Ac} (h : ¬ (12 < al.length ∨ 30 < arcs.length)) {k : Nat} (hk : k < arcs.length) (he : endsB al arcs[k] = false) : shot al arcs = 4 := by
  unfold shot; rw [if_neg h, if_neg]
  intro hh
  rw [List.all_eq_true] at hh
  have := hh _ (List.getElem_mem hk)
  rw [he] at this; simp at this
theorem shot_cost {al : List Bool} {arcs : List Ac} (h : ¬ (12 < al.length ∨ 30 < arcs.length)) (hE : arcs.all (endsB al) = true) {k : Nat} (hk : k < arcs.length) (he : costB arcs[k] = false) : shot al arcs = 1 := by
  unfold shot; rw [if_neg h, if_pos hE, if_neg]
  intro hh
  rw [List.all_eq_true] at hh
  have := hh _ (List.getElem_mem hk)
  rw [he] at this; simp at this
theorem shot_ok {al : List Bool} {arcs : List Ac} (h : ¬ (12 < al.length ∨ 30 < arcs.length)) (hE : arcs.all (endsB al) = true) (hC : arcs.all costB = true) : shot al arcs = 0 := by
  unfold shot; rw [if_neg h, if_pos hE, if_pos hC]
theorem all_take_succ {α : Type} {l : List α} {f : α → Bool} {k : Nat} (hk : k < l.length) (h0 : (l.take k).all f = true) (h : f l[k] = true) : (l.take (k + 1)).all f = true := by
  rw [List.take_succ_eq_append_getElem hk, List.all_append, h0]; simp [h]
theorem all_take_end {α : Type} {l : List α} {f : α → Bool} (h : (l.take l.length).all f = true) : l.all f = true := by rwa [List.take_length] at h

/-- a snapshot as it must be -/
structure Shot (al : List Bool) (arcs : List Ac) : Prop where
  nv : al.length ≤ 12
  na : arcs.length ≤ 30
  ends : ∀ a ∈ arcs, alv al a.1 = true ∧ alv al a.2.1 = true
  cost : ∀ a ∈ arcs, 0 ≤ a.2.2 ∧ a.2.2 ≤ 1000
theorem shot_right {al : List Bool} {arcs : List Ac} (h : shot al arcs = 0) : Shot al arcs := by
  unfold shot at h
  by_cases h1 : 12 < al.length ∨ 30 < arcs.length
  · rw [if_pos h1] at h; omega
  rw [if_neg h1] at h
  by_cases h2 : arcs.all (endsB al) = true
  · rw [if_pos h2] at h
    by_cases h3 : arcs.all costB = true
    · rw [List.all_eq_true] at h2 h3
      exact ⟨by omega, by omega, fun a ha => (endsB_iff _ _).1 (h2 a ha), fun a ha => (costB_iff _).1 (h3 a ha)⟩
    · rw [if_neg h3] at h; omega
  · rw [if_neg h2] at h; omega
theorem shot_bounds (al : List Bool) (arcs : List Ac) : 0 ≤ shot al arcs ∧ shot al arcs ≤ 4 := by
  unfold shot; split
  · omega
  · split
    · split <;> omega
    · omega
theorem Shot.en {al : List Bool} {arcs : List Ac} (S : Shot al arcs) : EndsIn al.length arcs := by
  intro a ha
  have h := S.ends a ha
  rw [alv_iff, alv_iff] at h
  omega

/-- what is told at first of those that are alive; Inf of others -/
def firstL (al : List Bool) (f : Int → Int) : List Int := (List.range al.length).map fun v => if al.getD v false = true then f v else 1099511627776
/-- nought at a vertex -/
def fromF (from_ : Int) (v : Int) : Int := if v = from_ then 0 else 1099511627776
theorem firstL_length (al : List Bool) (f : Int → Int) : (firstL al f).length = al.length := by simp [firstL]
theorem firstL_getD (al : List Bool) (f : Int → Int) (v : Nat) (h : v < al.length) : (firstL al f).getD v 0 = if al.getD v false = true then f v else 1099511627776 := by
  unfold firstL
  rw [List.getD_eq_getElem?_getD, List.getElem?_map, List.getElem?_range h]; rfl
theorem firstL_take (al : List Bool) (f : Int → Int) (k : Nat) (h : k < al.length) : (firstL al f).take (k + 1) = (firstL al f).take k ++ [if al.getD k false = true then f k else 1099511627776] := by
  rw [List.take_succ_eq_append_getElem (by rw [firstL_length]; exact h)]
  have := firstL_getD al f k h
  rw [List.getD_eq_getElem?_getD, List.getElem?_eq_getElem (by rw [firstL_length]; exact h)] at this
  simp only [Option.getD_some] at this
  rw [this]
theorem firstL_congr {al : List Bool} {f g : Int → Int} (h : ∀ v : Nat, v < al.length → f v = g v) : firstL al f = firstL al g := by
  unfold firstL
  apply List.map_congr_left
  intro v hv
  rw [h v (by simpa using hv)]
theorem Shot.fine {al : List Bool} {arcs : List Ac} (S : Shot al arcs) {f : Int → Int} {p : Ac → Int} (hf : ∀ v : Nat, v < al.length → 0 ≤ f v ∧ f v ≤ 1099511627776) (hp : ∀ a ∈ arcs, 0 ≤ p a ∧ p a ≤ 1000) : Fine (firstL al f) arcs p := by
  refine ⟨fun v hv => ?_, fun v hv => ?_, hp, by rw [firstL_length]; exact S.en⟩
  · rw [firstL_length] at hv
    rw [firstL_getD _ _ _ hv]
    split
    · exact (hf v hv).1
    · omega
  · rw [firstL_length] at hv
    rw [firstL_getD _ _ _ hv]
    split
    · exact (hf v hv).2
    · omega
theorem Shot.bothW {al : List Bool} {arcs : List Ac} (S : Shot al arcs) {f : Int → Int} {p : Ac → Int} (hf : ∀ v : Nat, v < al.length → 0 ≤ f v ∧ f v ≤ 1099511627776) (hp : ∀ a : Ac, a ∈ arcs → 0 ≤ p a ∧ p a ≤ 1000) (he : Even p) : Fine (firstL al f) (bothW arcs) p := by
  have F := S.fine hf hp
  refine ⟨F.lo, F.hi, fun b hb => ?_, fun b hb => ?_⟩
  · obtain ⟨a, ha, rfl | rfl⟩ := mem_both.1 hb
    · exact hp _ ha
    · rw [he a]; exact hp a ha
  · obtain ⟨a, ha, rfl | rfl⟩ := mem_both.1 hb
    · exact F.en _ ha
    · have := F.en a ha; exact ⟨this.2.2.1, this.2.2.2, this.1, this.2.1⟩
theorem fromF_bounds (from_ : Int) (v : Nat) : 0 ≤ fromF from_ v ∧ fromF from_ v ≤ 1099511627776 := by unfold fromF; split <;> omega

/-- how many arcs leave a vertex -/
def degF (arcs : List Ac) (v : Int) : Int := (arcs.countP fun a => decide (a.1 = v) : Nat)

/-- all that is asked of what a program tells -/
def priceOf (prog : Nat) (a : Ac) : Int := if prog = 1 then 1 else if prog = 2 then a.2.2 else 0

end Go.Proofs.YtjjhhmlogddnkaiDoor
