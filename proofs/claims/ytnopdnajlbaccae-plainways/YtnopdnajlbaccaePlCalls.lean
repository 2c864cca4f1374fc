/-
  What Hops, Costs, Labels and Degrees of the program tell.
-/
import Derived.Test.YtnopdnajlbaccaePlSpr
import Derived.Test.YtnopdnajlbaccaePlBoth
namespace Go.Proofs.Ytnopdnajlbaccae
open Go.RowKit

theorem hops1_any (a : Ac) (w : World) : Calls Try.prog 29 (#[.agg #[.int .i64 a.1, .int .i64 a.2.1, .int .i64 a.2.2]] ++ #[]) w fun e w' => e = .returned (.int .i64 1) ∧ Below w.heap.size w w' := by
  have HB := hidep (pal w)
  rw [Array.append_empty]
  go_enter Try.func29, Try.ntmps29
  go_wp2
  go_ret
  exact ⟨rfl, HB.out _⟩
theorem costs1_any (a : Ac) (w : World) : Calls Try.prog 28 (#[.agg #[.int .i64 a.1, .int .i64 a.2.1, .int .i64 a.2.2]] ++ #[]) w fun e w' => e = .returned (.int .i64 a.2.2) ∧ Below w.heap.size w w' := by
  have HB := hidep (pal w)
  rw [Array.append_empty]
  go_enter Try.func28, Try.ntmps28
  go_wp2
  go_ret
  exact ⟨rfl, HB.out _⟩
theorem labels1_any (v : Nat) (w : World) : Calls Try.prog 32 (#[.int .i64 v] ++ #[]) w fun e w' => e = .returned (.int .i64 v) ∧ Below w.heap.size w w' := by
  rw [Array.append_empty]
  go_enter Try.func32, Try.ntmps32
  go_wp2
  go_ret
  exact ⟨rfl, Below.refl _ _⟩
theorem labels2_any (a : Ac) (w : World) : Calls Try.prog 35 (#[.agg #[.int .i64 a.1, .int .i64 a.2.1, .int .i64 a.2.2]] ++ #[]) w fun e w' => e = .returned (.int .i64 0) ∧ Below w.heap.size w w' := by
  have HB := hidep (pal w)
  rw [Array.append_empty]
  go_enter Try.func35, Try.ntmps35
  go_wp2
  go_ret
  exact ⟨rfl, HB.out _⟩
theorem degrees1_any (v : Nat) (w : World) : Calls Try.prog 36 (#[.int .i64 v] ++ #[]) w fun e w' => e = .returned (.int .i64 0) ∧ Below w.heap.size w w' := by
  rw [Array.append_empty]
  go_enter Try.func36, Try.ntmps36
  go_wp2
  go_ret
  exact ⟨rfl, Below.refl _ _⟩
theorem leastFrom1_any (v : Nat) (fr : Int) (b : Nat) (w : World) (hc : w.cell? ⟨b, 0, none⟩ = some (.int .i64 fr)) : Calls Try.prog 47 (#[.int .i64 v] ++ #[.pointer (some ⟨b, 0, none⟩)]) w fun e w' => e = .returned (.int .i64 (fromF fr v)) ∧ Below w.heap.size w w' := by
  have e0 : (#[.int .i64 (v : Int)] ++ #[.pointer (some ⟨b, 0, none⟩)] : Array Value) = #[.int .i64 (v : Int), .pointer (some ⟨b, 0, none⟩)] := rfl
  rw [e0]
  by_cases h : (v : Int) = fr
  · have HC : Hid (fromF fr v = 0) := by show _ = _; unfold fromF; rw [if_pos h]
    have hd : ((v : Int) == fr) = true := by simpa using h
    clear h
    go_enter Try.func47, Try.ntmps47
    go_wp2
    go_ret
    exact ⟨retp_int HC.out.symm, Below.refl _ _⟩
  · have HC : Hid (fromF fr v = 1099511627776) := by show _ = _; unfold fromF; rw [if_neg h]
    have hd : ((v : Int) == fr) = false := by simpa using h
    clear h
    go_enter Try.func47, Try.ntmps47
    go_wp2
    go_ret
    exact ⟨retp_int HC.out.symm, Below.refl _ _⟩

/-- what a call that tells numbers and an error hands back -/
def ToldZ (w w' : World) (e : Ending) (n : Int) (r : List Int) : Prop :=
  ∃ v, e = .returned (.tuple #[v, .int .i64 n]) ∧ w'.ownsRow w.heap.size 3 1 v r.length (r.map (Value.int .i64)) ∧ Below w.heap.size w w'
/-- what leastFrom comes to -/
def LeastIs (al : List Bool) (arcs : List Ac) (fr : Int) (p : Ac → Int) (n : Int) (r : List Int) : Prop :=
  (¬ shot al arcs = 0 ∧ n = shot al arcs ∧ r = []) ∨ (shot al arcs = 0 ∧ vtx al.length fr = false ∧ n = 4 ∧ r = []) ∨ (shot al arcs = 0 ∧ vtx al.length fr = true ∧ n = 0 ∧ Best (firstL al (fromF fr)) arcs p r)
theorem shot_bad {al : List Bool} {arcs : List Ac} (h : ¬ shot al arcs = 0) : ∃ n, shot al arcs = n ∧ (n = 1 ∨ n = 2 ∨ n = 4) := by
  unfold shot at h ⊢
  split
  · exact ⟨2, rfl, .inr (.inl rfl)⟩
  · split
    · split
      · rename_i h1 h2 h3; rw [if_neg h1, if_pos h2, if_pos h3] at h; exact absurd rfl h
      · exact ⟨1, rfl, .inl rfl⟩
    · exact ⟨4, rfl, .inr (.inr rfl)⟩

set_option maxRecDepth 100000 in
set_option maxHeartbeats 4000000 in
theorem leastFrom_any (g : Nat) (p : Ac → Int) (eg : ∀ args w, (callFunc g args).run Try.prog w = .ok (.enter g args) w)
    (hf : ∀ (a : Ac) wq, Calls Try.prog g (#[.agg #[.int .i64 a.1, .int .i64 a.2.1, .int .i64 a.2.2]] ++ #[]) wq fun e w' => e = .returned (.int .i64 (p a)) ∧ Below wq.heap.size wq w')
    (ao bo : Option Addr) (ca cb : Nat) (al : List Bool) (arcs : List Ac) (fr : Int) (w : World) (hA : BsAt w ao al) (hR : PcAt w bo arcs) (hp : shot al arcs = 0 → ∀ a ∈ arcs, 0 ≤ p a ∧ p a ≤ 1000) :
    Calls Try.prog 27 #[.agg #[.slice ao al.length ca, .slice bo arcs.length cb], .int .i64 fr, .func (.func g) #[] #[]] w fun e w' => ∃ n r, LeastIs al arcs fr p n r ∧ ToldZ w w' e n r := by
  have HB : Hid (∀ o o', Below w.heap.size w ((w.alloc o).alloc o')) := fun o o' => ptw (pal w o) (pal _ o')
  have hC := fun o o' => plCheck_any ao bo ca cb al arcs ((w.alloc o).alloc o') (hA.below (ptw (pal w o) (pal _ o'))) (hR.below (ptw (pal w o) (pal _ o')))
  by_cases h0 : ¬ shot al arcs = 0
  · obtain ⟨n, en, hn⟩ := shot_bad h0
    have HC : Hid (LeastIs al arcs fr p n []) := .inl ⟨h0, en.symm, rfl⟩
    simp only [en] at hC
    clear h0 en hA hR
    have hne : (n != 0) = true := by rcases hn with rfl | rfl | rfl <;> rfl
    go_enter Try.func27, Try.ntmps27
    go_wp2_with fail
    refine (hC _ _).mono ?_
    rintro e w1 ⟨rfl, hb1⟩
    have HB1 := hidep (ptw (HB.out _ _) hb1)
    clear hC hb1
    go_wp2
    go_ret2
    exact ⟨_, _, HC.out, _, rfl, World.ownsRow_nil _ _ _ _, HB1.out⟩
  rw [Decidable.not_not] at h0
  have S := shot_right h0
  have HS0 := hidep h0
  have HP := hidep (hp h0)
  simp only [h0] at hC
  clear h0 hp
  cases hv : vtx al.length fr with
  | false =>
    have HC : Hid (LeastIs al arcs fr p 4 []) := .inr (.inl ⟨HS0.out, hv, rfl, rfl⟩)
    have h1 := fun W => isVertex_any ao bo al.length ca arcs.length cb fr W
    simp only [hv] at h1
    clear hv hA hR S
    go_enter Try.func27, Try.ntmps27
    go_wp2_with fail
    refine (hC _ _).mono ?_
    rintro e w1 ⟨rfl, hb1⟩
    have hz := hb1.size
    simp only [World.size_alloc] at hz
    have q0 : w1.cell? ⟨w.heap.size, 0, none⟩ = some (.slice ao al.length ca) := by rw [hb1.cell (p := ⟨w.heap.size, 0, none⟩) (by simp; omega), (pal _ _).cell (p := ⟨w.heap.size, 0, none⟩) (by simp)]; simp
    have q1 : w1.cell? ⟨w.heap.size, 1, none⟩ = some (.slice bo arcs.length cb) := by rw [hb1.cell (p := ⟨w.heap.size, 1, none⟩) (by simp; omega), (pal _ _).cell (p := ⟨w.heap.size, 1, none⟩) (by simp)]; simp
    have q2 : w1.cell? ⟨w.heap.size + 1, 0, none⟩ = some (.int .i64 fr) := by rw [hb1.cell (p := ⟨w.heap.size + 1, 0, none⟩) (by simp)]; simp
    have HB1 := hidep (ptw (HB.out _ _) hb1)
    clear hC hb1
    go_wp2_with (go_at_call 46; refine (h1 _).mono ?_; rintro e w2 ⟨rfl, hb2⟩)
    go_ret2
    exact ⟨_, _, HC.out, _, rfl, World.ownsRow_nil _ _ _ _, ptw HB1.out hb2⟩
  | true =>
    have HV := hidep hv
    have h1 := fun W => isVertex_any ao bo al.length ca arcs.length cb fr W
    simp only [hv] at h1
    clear hv
    have eg1 : ∀ args w, (callFunc 47 args).run Try.prog w = .ok (.enter 47 args) w := fun args w => rfl
    go_enter Try.func27, Try.ntmps27
    go_wp2_with fail
    refine (hC _ _).mono ?_
    rintro e w1 ⟨rfl, hb1⟩
    have hz := hb1.size
    simp only [World.size_alloc] at hz
    have q0 : w1.cell? ⟨w.heap.size, 0, none⟩ = some (.slice ao al.length ca) := by rw [hb1.cell (p := ⟨w.heap.size, 0, none⟩) (by simp; omega), (pal _ _).cell (p := ⟨w.heap.size, 0, none⟩) (by simp)]; simp
    have q1 : w1.cell? ⟨w.heap.size, 1, none⟩ = some (.slice bo arcs.length cb) := by rw [hb1.cell (p := ⟨w.heap.size, 1, none⟩) (by simp; omega), (pal _ _).cell (p := ⟨w.heap.size, 1, none⟩) (by simp)]; simp
    have q2 : w1.cell? ⟨w.heap.size + 1, 0, none⟩ = some (.int .i64 fr) := by rw [hb1.cell (p := ⟨w.heap.size + 1, 0, none⟩) (by simp)]; simp
    have HB1 := hidep (ptw (HB.out _ _) hb1)
    clear hC hb1
    go_wp2_with fail
    refine (h1 _).mono ?_
    rintro e w2 ⟨rfl, hb2⟩
    have hz2 := hb2.size
    have r0 := (hb2.cell (p := ⟨w.heap.size, 0, none⟩) (by show w.heap.size < _; omega)).trans q0
    have r1 := (hb2.cell (p := ⟨w.heap.size, 1, none⟩) (by show w.heap.size < _; omega)).trans q1
    have r2 := (hb2.cell (p := ⟨w.heap.size + 1, 0, none⟩) (by show w.heap.size + 1 < _; omega)).trans q2
    have HB2 := hidep (ptw HB1.out hb2)
    have hl2 : w.heap.size + 1 < w2.heap.size := by omega
    have hOf := ofAlive_any 47 #[.pointer (some ⟨w.heap.size + 1, 0, none⟩)] (fromF fr) eg1 ao bo ca arcs.length cb al w2 (hA.below HB2.out) S.nv (fun v wq _ hq => leastFrom1_any v fr _ wq ((hq.cell (p := ⟨w.heap.size + 1, 0, none⟩) hl2).trans r2))
    clear h1 hb2 q0 q1 q2
    go_wp2_with fail
    refine hOf.mono ?_
    rintro e w3 ⟨gb, rfl, Z3, hb3⟩
    have hz3 := hb3.size
    have s1 := (hb3.cell (p := ⟨w.heap.size, 1, none⟩) (by show w.heap.size < _; omega)).trans r1
    have HB3 := hidep (ptw HB2.out hb3)
    have hgl := World.ownsRow.lt Z3 gb rfl
    have F : Fine (firstL al (fromF fr)) arcs p := S.fine (fun v _ => fromF_bounds fr v) HP.out
    have hSp := spread_any g #[] p eg w2.heap.size gb al.length bo cb (firstL al (fromF fr)) (firstL al (fromF fr)) arcs w3 Z3 (hR.below HB3.out) (fun h0 b off e h => by
      subst h e
      have := hR.lt h0
      omega) F (mid_start _ _ _) (firstL_length _ _) (Nat.le_trans S.na (by decide)) (fun a _ wq => hf a wq)
    clear hOf r0 r1 r2
    go_wp2_with fail
    refine hSp.mono ?_
    rintro e w4 ⟨rfl, z, hBest, Z4, hg4⟩
    have HC : Hid (LeastIs al arcs fr p 0 z) := .inr (.inr ⟨HS0.out, HV.out, rfl, hBest⟩)
    have hzl := Z4.len
    have HB4 := hidep (HB3.out.grown hg4 HB3.out.size (fun k hk => by cases hk; omega))
    have HZ4 : Hid (w4.ownsRow w.heap.size 3 1 (.slice (some ⟨gb, 0, none⟩) al.length al.length) z.length (z.map (Value.int .i64))) := by
      show World.ownsRow _ _ _ _ _ _ _
      rw [hzl]
      exact owns_base2 Z4 (by omega)
    clear hSp hg4 Z4 Z3
    go_wp2
    go_ret2
    exact ⟨_, _, HC.out, _, rfl, HZ4.out, HB4.out⟩

end Go.Proofs.Ytnopdnajlbaccae
