/-
  What Hops, Costs, Labels and Degrees of the program tell.
-/
import Derived.Test.YtnopdnajlbaccaePlCalls
namespace Go.Proofs.Ytnopdnajlbaccae
open Go.RowKit

theorem firstL_getElem (al : List Bool) (f : Int → Int) (i : Nat) (h : i < (firstL al f).length) : (firstL al f)[i] = if al.getD i false = true then f i else 1099511627776 := by simp [firstL]
theorem degF_succ (arcs : List Ac) (k : Nat) (hk : k < arcs.length) (v : Int) : degF (arcs.take (k + 1)) v = degF (arcs.take k) v + if arcs[k].1 = v then 1 else 0 := by
  unfold degF
  rw [List.take_succ_eq_append_getElem hk, List.countP_append]
  by_cases h : arcs[k].1 = v <;> simp [h]
theorem deg_step {al : List Bool} {arcs : List Ac} {k A : Nat} (hk : k < arcs.length) (hA : A < al.length) (ha : al.getD A false = true) (e : arcs[k].1 = (A : Int)) :
    (firstL al (degF (arcs.take k))).set A ((firstL al (degF (arcs.take k))).getD A 0 + 1) = firstL al (degF (arcs.take (k + 1))) := by
  apply List.ext_getElem (by simp [firstL_length])
  intro i h1 h2
  have r1 := firstL_getElem al (degF (arcs.take (k + 1))) i h2
  have r2 := firstL_getElem al (degF (arcs.take k)) i (by rw [firstL_length] at h2 ⊢; exact h2)
  rw [r1, List.getElem_set, r2, firstL_getD _ _ _ hA, if_pos ha, degF_succ arcs k hk, e]
  by_cases c : A = i
  · subst c
    rw [if_pos rfl, if_pos ha, if_pos rfl]
  · rw [if_neg c, if_neg (c := (A : Int) = (i : Int)) (by omega)]
    simp
theorem degF_nil (v : Int) : degF [] v = 0 := rfl
theorem degF_bounds (arcs : List Ac) (v : Int) : 0 ≤ degF arcs v ∧ degF arcs v ≤ arcs.length := by
  have : arcs.countP (fun a => decide (a.1 = v)) ≤ arcs.length := List.countP_le_length
  unfold degF; omega

/-- what Labels comes to -/
def LabelsIs (al : List Bool) (arcs : List Ac) (n : Int) (r : List Int) : Prop :=
  (¬ shot al arcs = 0 ∧ n = shot al arcs ∧ r = []) ∨ (shot al arcs = 0 ∧ n = 0 ∧ Best (firstL al (fun v => v)) (both arcs) (fun _ => 0) r)
/-- what Degrees comes to -/
def DegIs (al : List Bool) (arcs : List Ac) (n : Int) (r : List Int) : Prop :=
  (¬ shot al arcs = 0 ∧ n = shot al arcs ∧ r = []) ∨ (shot al arcs = 0 ∧ n = 0 ∧ r = firstL al (degF arcs))

set_option maxRecDepth 100000 in
theorem Hops_any (ao bo : Option Addr) (ca cb : Nat) (al : List Bool) (arcs : List Ac) (fr : Int) (w : World) (hA : BsAt w ao al) (hR : PcAt w bo arcs) :
    Calls Try.prog 15 #[.agg #[.slice ao al.length ca, .slice bo arcs.length cb], .int .i64 fr] w fun e w' => ∃ n r, LeastIs al arcs fr (fun _ => 1) n r ∧ ToldZ w w' e n r := by
  have HB := hidep (pal w)
  have h1 := fun o => leastFrom_any 29 (fun _ => 1) (fun args w => rfl) (fun a wq => hops1_any a wq) ao bo ca cb al arcs fr (w.alloc o) (hA.below (pal w o)) (hR.below (pal w o)) (fun _ _ _ => by omega)
  clear hA hR
  go_enter Try.func15, Try.ntmps15
  go_wp2_with fail
  refine (h1 _).mono ?_
  rintro e w1 ⟨n, r, hL, v, rfl, ho, hb⟩
  have HL := hidep hL
  have HO := hidep (owns_base2 (base' := w.heap.size) ho (by simp))
  have HB1 := hidep (ptw (HB.out _) hb)
  clear hL ho hb h1
  go_wp2
  go_ret2
  exact ⟨_, _, HL.out, _, rfl, HO.out, HB1.out⟩
set_option maxRecDepth 100000 in
theorem Costs_any (ao bo : Option Addr) (ca cb : Nat) (al : List Bool) (arcs : List Ac) (fr : Int) (w : World) (hA : BsAt w ao al) (hR : PcAt w bo arcs) :
    Calls Try.prog 12 #[.agg #[.slice ao al.length ca, .slice bo arcs.length cb], .int .i64 fr] w fun e w' => ∃ n r, LeastIs al arcs fr (fun a => a.2.2) n r ∧ ToldZ w w' e n r := by
  have HB := hidep (pal w)
  have h1 := fun o => leastFrom_any 28 (fun a => a.2.2) (fun args w => rfl) (fun a wq => costs1_any a wq) ao bo ca cb al arcs fr (w.alloc o) (hA.below (pal w o)) (hR.below (pal w o)) (fun h => (shot_right h).cost)
  clear hA hR
  go_enter Try.func12, Try.ntmps12
  go_wp2_with fail
  refine (h1 _).mono ?_
  rintro e w1 ⟨n, r, hL, v, rfl, ho, hb⟩
  have HL := hidep hL
  have HO := hidep (owns_base2 (base' := w.heap.size) ho (by simp))
  have HB1 := hidep (ptw (HB.out _) hb)
  clear hL ho hb h1
  go_wp2
  go_ret2
  exact ⟨_, _, HL.out, _, rfl, HO.out, HB1.out⟩

set_option maxRecDepth 100000 in
set_option maxHeartbeats 4000000 in
theorem Labels_any (ao bo : Option Addr) (ca cb : Nat) (al : List Bool) (arcs : List Ac) (w : World) (hA : BsAt w ao al) (hR : PcAt w bo arcs) :
    Calls Try.prog 16 #[.agg #[.slice ao al.length ca, .slice bo arcs.length cb]] w fun e w' => ∃ n r, LabelsIs al arcs n r ∧ ToldZ w w' e n r := by
  have HB := hidep (pal w)
  have hC := fun o => plCheck_any ao bo ca cb al arcs (w.alloc o) (hA.below (pal w o)) (hR.below (pal w o))
  by_cases h0 : ¬ shot al arcs = 0
  · obtain ⟨n, en, hn⟩ := shot_bad h0
    have HC : Hid (LabelsIs al arcs n []) := .inl ⟨h0, en.symm, rfl⟩
    simp only [en] at hC
    clear h0 en hA hR
    have hne : (n != 0) = true := by rcases hn with rfl | rfl | rfl <;> rfl
    go_enter Try.func16, Try.ntmps16
    go_wp2_with fail
    refine (hC _).mono ?_
    rintro e w1 ⟨rfl, hb1⟩
    have HB1 := hidep (ptw (HB.out _) hb1)
    clear hC hb1
    go_wp2
    go_ret2
    exact ⟨_, _, HC.out, _, rfl, World.ownsRow_nil _ _ _ _, HB1.out⟩
  rw [Decidable.not_not] at h0
  have S := shot_right h0
  have HS0 := hidep h0
  simp only [h0] at hC
  clear h0
  have eg1 : ∀ args w, (callFunc 32 args).run Try.prog w = .ok (.enter 32 args) w := fun args w => rfl
  have eg2 : ∀ args w, (callFunc 35 args).run Try.prog w = .ok (.enter 35 args) w := fun args w => rfl
  go_enter Try.func16, Try.ntmps16
  go_wp2_with fail
  refine (hC _).mono ?_
  rintro e w1 ⟨rfl, hb1⟩
  have hz := hb1.size
  simp only [World.size_alloc] at hz
  have q0 : w1.cell? ⟨w.heap.size, 0, none⟩ = some (.slice ao al.length ca) := by rw [hb1.cell (p := ⟨w.heap.size, 0, none⟩) (by simp)]; simp
  have q1 : w1.cell? ⟨w.heap.size, 1, none⟩ = some (.slice bo arcs.length cb) := by rw [hb1.cell (p := ⟨w.heap.size, 1, none⟩) (by simp)]; simp
  have HB1 := hidep (ptw (HB.out _) hb1)
  have hOf := ofAlive_any 32 #[] (fun v => v) eg1 ao bo ca arcs.length cb al w1 (hA.below HB1.out) S.nv (fun v wq _ _ => labels1_any v wq)
  clear hC hb1
  go_wp2_with fail
  refine hOf.mono ?_
  rintro e w3 ⟨gb, rfl, Z3, hb3⟩
  have hz3 := hb3.size
  have s1 := (hb3.cell (p := ⟨w.heap.size, 1, none⟩) (by show w.heap.size < _; omega)).trans q1
  have HB3 := hidep (ptw HB1.out hb3)
  have hgl := World.ownsRow.lt Z3 gb rfl
  have hBo := bothWays_any bo cb arcs w3 (hR.below HB3.out) S.na
  clear hOf q0 q1
  go_wp2_with fail
  refine hBo.mono ?_
  rintro e w4 ⟨v4, rfl, own4, hb4⟩
  have HB4 := hidep (ptw HB3.out hb4)
  have hz4 := hb4.size
  obtain ⟨b4, c4, rfl, hP4⟩ := pcAt_of_owns own4
  have F : Fine (firstL al (fun v => v)) (both arcs) (fun _ => 0) := S.both (fun v hv => by have := S.nv; omega) (fun _ _ => by omega) (fun _ => rfl)
  have hSp := spread_any 35 #[] (fun _ => 0) eg2 w1.heap.size gb al.length b4 c4 (firstL al (fun v => v)) (firstL al (fun v => v)) (both arcs) w4 (Z3.below hb4) hP4 (fun h0 b off e h => by
    subst h e
    have := (own4.lt b rfl).1
    omega) F (mid_start _ _ _) (firstL_length _ _) (by rw [both_length]; have := S.na; omega) (fun a _ wq => labels2_any a wq)
  clear hBo s1
  go_wp2_with fail
  refine hSp.mono ?_
  rintro e w5 ⟨rfl, z, hBest, Z5, hg5⟩
  have HC : Hid (LabelsIs al arcs 0 z) := .inr ⟨HS0.out, rfl, hBest⟩
  have hzl := Z5.len
  have HB5 := hidep (HB4.out.grown hg5 HB4.out.size (fun k hk => by cases hk; omega))
  have HZ5 : Hid (w5.ownsRow w.heap.size 3 1 (.slice (some ⟨gb, 0, none⟩) al.length al.length) z.length (z.map (Value.int .i64))) := by
    show World.ownsRow _ _ _ _ _ _ _
    rw [hzl]
    exact owns_base2 Z5 (by omega)
  clear hSp hg5 Z5 Z3 own4 hP4
  go_wp2
  go_ret2
  exact ⟨_, _, HC.out, _, rfl, HZ5.out, HB5.out⟩

set_option maxRecDepth 100000 in
set_option maxHeartbeats 4000000 in
theorem Degrees_any (ao bo : Option Addr) (ca cb : Nat) (al : List Bool) (arcs : List Ac) (w : World) (hA : BsAt w ao al) (hR : PcAt w bo arcs) :
    Calls Try.prog 17 #[.agg #[.slice ao al.length ca, .slice bo arcs.length cb]] w fun e w' => ∃ n r, DegIs al arcs n r ∧ ToldZ w w' e n r := by
  have HB := hidep (pal w)
  have hC := fun o => plCheck_any ao bo ca cb al arcs (w.alloc o) (hA.below (pal w o)) (hR.below (pal w o))
  by_cases h0 : ¬ shot al arcs = 0
  · obtain ⟨n, en, hn⟩ := shot_bad h0
    have HC : Hid (DegIs al arcs n []) := .inl ⟨h0, en.symm, rfl⟩
    simp only [en] at hC
    clear h0 en hA hR
    have hne : (n != 0) = true := by rcases hn with rfl | rfl | rfl <;> rfl
    go_enter Try.func17, Try.ntmps17
    go_wp2_with fail
    refine (hC _).mono ?_
    rintro e w1 ⟨rfl, hb1⟩
    have HB1 := hidep (ptw (HB.out _) hb1)
    clear hC hb1
    go_wp2
    go_ret2
    exact ⟨_, _, HC.out, _, rfl, World.ownsRow_nil _ _ _ _, HB1.out⟩
  rw [Decidable.not_not] at h0
  have S := shot_right h0
  have HS0 := hidep h0
  have HSS := hidep S
  have nv := S.nv
  have na := S.na
  simp only [h0] at hC
  clear h0
  have eg1 : ∀ args w, (callFunc 36 args).run Try.prog w = .ok (.enter 36 args) w := fun args w => rfl
  go_enter Try.func17, Try.ntmps17
  go_wp2_with fail
  refine (hC _).mono ?_
  rintro e w1 ⟨rfl, hb1⟩
  have hz := hb1.size
  simp only [World.size_alloc] at hz
  have q0 : w1.cell? ⟨w.heap.size, 0, none⟩ = some (.slice ao al.length ca) := by rw [hb1.cell (p := ⟨w.heap.size, 0, none⟩) (by simp)]; simp
  have q1 : w1.cell? ⟨w.heap.size, 1, none⟩ = some (.slice bo arcs.length cb) := by rw [hb1.cell (p := ⟨w.heap.size, 1, none⟩) (by simp)]; simp
  have HB1 := hidep (ptw (HB.out _) hb1)
  have hOf := ofAlive_any 36 #[] (fun _ => 0) eg1 ao bo ca arcs.length cb al w1 (hA.below HB1.out) S.nv (fun v wq _ _ => degrees1_any v wq)
  clear hC hb1 S
  go_wp2_with fail
  refine hOf.mono ?_
  rintro e w3 ⟨gb, rfl, Z3, hb3⟩
  have hz3 := hb3.size
  have s1 := (hb3.cell (p := ⟨w.heap.size, 1, none⟩) (by show w.heap.size < _; omega)).trans q1
  have HB3 := hidep (ptw HB1.out hb3)
  have hgl := World.ownsRow.lt Z3 gb rfl
  have hR3 := hR.below HB3.out
  have hbl : arcs ≠ [] → ∀ b off, bo = some ⟨b, off, none⟩ → b ≠ gb := fun h0 b off e h => by
    subst h e
    have := hR.lt h0
    omega
  have HZ3 : Hid (Zo w3 w1.heap.size gb al.length al.length (firstL al (degF (arcs.take 0)))) := by
    rw [List.take_zero]; exact Z3
  clear hOf q0 q1 hR hA Z3
  go_wp2
  go_loopw [7, 18] (fun _ i wr => ∃ k : Nat, k ≤ arcs.length ∧ i = .int .i64 k ∧ Zo wr w1.heap.size gb al.length al.length (firstL al (degF (arcs.take k))) ∧ w3.grownBy wr (some gb)) (fun _ i _ => arcs.length - (intOf i).toNat)
  case atStart => exact ⟨0, Nat.zero_le _, rfl, HZ3.out, gby_refl _ _⟩
  case round =>
    obtain ⟨k, hk, rfl, hZ, hG⟩ := hrel
    by_cases hlt : k < arcs.length
    · rcases hR3.grown hG (hbl (fun h => by subst h; simp at hlt)) with h0 | ⟨b, off, rfl, hbr, hc⟩
      · subst h0; simp at hlt
      obtain ⟨c0, c1, c2⟩ := PcAt.at3 hlt hc
      obtain ⟨A, B, hA, hB, eA, eB⟩ := arc_parts HSS.out.en hlt
      have ha : al.getD A false = true := by
        have := ((alv_iff _ _).1 (HSS.out.ends _ (List.getElem_mem hlt)).1).2.2
        rw [eA] at this; exact this
      have HD := hidep (deg_step hlt hA ha eA)
      have zA := hZ.cell hA
      have fA := World.ownsRow.frozenAt hZ A
      have hbd : 0 ≤ (firstL al (degF (arcs.take k))).getD A 0 ∧ (firstL al (degF (arcs.take k))).getD A 0 ≤ 30 := by
        rw [firstL_getD _ _ _ hA, if_pos ha]
        have h1 := degF_bounds (arcs.take k) A
        have h2 : (arcs.take k).length ≤ arcs.length := List.length_take_le' _ _
        omega
      have hgl2 := World.ownsRow.lt hZ gb rfl
      have HS : Hid (∀ o v, Zo ((wr.setCell ⟨gb, A, none⟩ (.int .i64 v)).alloc o) w1.heap.size gb al.length al.length ((firstL al (degF (arcs.take k))).set A v) ∧ w3.grownBy ((wr.setCell ⟨gb, A, none⟩ (.int .i64 v)).alloc o) (some gb)) := fun o v => ⟨(hZ.set A v).below (pal _ o), gby_trans (gby_trans hG (gby_set _ _ _ _)) (gby_of_below (pal _ o) _)⟩
      rw [eA] at c0
      clear hc hZ hG ha hbl eA eB hR3
      generalize (firstL al (degF (arcs.take k))).getD A 0 = dA at *
      have hiA : (A : Int) < (al.length : Int) := by omega
      have hw1 : IntKind.i64.wrap (dA + 1) = dA + 1 := wrap_small _ (by omega) (by omega)
      go_wp2
      go_roundw
      case rel =>
        refine ⟨k + 1, by omega, by go_num, ?_, (HS.out _ _).2⟩
        rw [← HD.out]; exact (HS.out _ _).1
      case measure => simp [intOf]; omega
    · have hkl : k = arcs.length := by omega
      have HZ5 : Hid (wr.ownsRow w.heap.size 3 1 (.slice (some ⟨gb, 0, none⟩) al.length al.length) (firstL al (degF arcs)).length ((firstL al (degF arcs)).map (Value.int .i64))) := by
        show World.ownsRow _ _ _ _ _ _ _
        rw [hkl, List.take_length] at hZ
        rw [firstL_length]
        exact owns_base2 hZ (by omega)
      have HB5 := hidep (HB3.out.grown hG HB3.out.size (fun k hk => by cases hk; omega))
      have HC : Hid (DegIs al arcs 0 (firstL al (degF arcs))) := .inr ⟨HS0.out, rfl, rfl⟩
      clear hZ hG
      go_wp2
      go_ret2
      exact ⟨_, _, HC.out, _, rfl, HZ5.out, HB5.out⟩

end Go.Proofs.Ytnopdnajlbaccae
