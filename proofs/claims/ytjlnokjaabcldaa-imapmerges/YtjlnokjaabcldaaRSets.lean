/-
  What Sets of the reference answers: what Union, Meet and Minus of the program answer.
-/
import Derived.Test.YtjlnokjaabcldaaRHas
import Derived.Test.YtjlnokjaabcldaaREnds
import Derived.Test.YtjlnokjaabcldaaThose
import Derived.Test.YtjlnokjaabcldaaOps
namespace Go.Proofs.Ytjlnokjaabcldaa
open Go.RowKit

set_option maxRecDepth 100000 in
set_option maxHeartbeats 4000000 in
theorem sets1_core (Ba Bb Bh : Nat) (kk : Int) (want : Bool → Bool → Bool) (hkw : (kk = 0 ∧ want = wOr) ∨ (kk = 1 ∧ want = wAnd) ∨ (kk = 2 ∧ want = wNot)) (ao bo : Option Addr) (ca cb : Nat) (a b : List (Int × Int)) (t : Int) (w : World) (hA : IvAt w ao a) (hB : IvAt w bo b) (la : a.length ≤ 200) (lb : b.length ≤ 200)
    (c1 : w.cell? ⟨Ba, 0, none⟩ = some (.slice ao a.length ca)) (c2 : w.cell? ⟨Bb, 0, none⟩ = some (.slice bo b.length cb)) (c3 : w.cell? ⟨Bh, 0, none⟩ = some (.int .i64 kk)) :
    Calls Try.prog 43 #[.int .i64 t, .pointer (some ⟨Ba, 0, none⟩), .pointer (some ⟨Bb, 0, none⟩), .pointer (some ⟨Bh, 0, none⟩)] w fun e w' => e = .returned (.bool (want (has a t) (has b t))) ∧ Below w.heap.size w w' := by
  have hHa := fun n => RHas_any ao ca a t (w.drewN n) hA (by omega)
  have hHb := fun n => RHas_any bo cb b t (w.drewN n) hB (by omega)
  have l1 := World.block_lt_of_cell? w _ c1
  have l2 := World.block_lt_of_cell? w _ c2
  have l3 := World.block_lt_of_cell? w _ c3
  simp only at l1 l2 l3
  clear hA hB
  cases hx : has a t <;> cases hy : has b t <;> simp only [hx, hy] at hHa hHb <;> clear hx hy
  all_goals
    rcases hkw with ⟨rfl, rfl⟩ | ⟨rfl, rfl⟩ | ⟨rfl, rfl⟩
  all_goals
    go_enter Try.func43, Try.ntmps43
    go_wp2_with fail
    go_quiet ((first | (go_at_call_of 14 (Value.slice ao a.length ca); exact Calls.quiet_of_same (hHa _)) | (go_at_call_of 14 (Value.slice bo b.length cb); exact Calls.quiet_of_same (hHb _))))
    have c3q : (w.drewN nq).cell? ⟨Bh, 0, none⟩ = _ := c3
    have l3q : Bh < (w.drewN nq).heap.size := l3
    have hbq : Below w.heap.size w (w.drewN nq) := below_drewN (Below.refl _ _) _
    clear hHa hHb c1 c2 c3 l1 l2 l3
    generalize w.drewN nq = wq at c3q l3q hbq ⊢
    go_wp2
    go_ret
    exact ⟨rfl, hbq.alloc hbq.size _⟩

/-- bounds of numbers in memory of the call's own -/
theorem rbounds_own {w : World} {base e : Nat} {v : Value} {A : List Int} (hown : w.ownsRow base e 1 v A.length (A.map (Value.int .i64))) (h8 : A.length ≤ 800) :
    ∃ ao ca, v = .slice ao A.length ca ∧ Calls Try.prog 68 #[.slice ao A.length ca] w fun e w' => ∃ ao' cap' S, e = .returned (.slice ao' S.length cap') ∧ Ordered A S ∧ ZsAt w' ao' S ∧ Below w.heap.size w w' := by
  obtain ⟨ao, ca, hv, hz⟩ := zsAt_of_owns hown
  refine ⟨ao, ca, hv, ?_⟩
  by_cases h0 : A = []
  · subst h0
    have hca : ao = none → ca = 0 := by
      intro h
      subst h
      rcases hown.2 with ⟨h1, _⟩ | ⟨g, cap, cur, h1, _⟩
      · rw [hv] at h1; cases h1; rfl
      · rw [hv] at h1; cases h1
    refine (rbounds_empty ao ca w hca).mono ?_
    rintro e w' ⟨rfl, hb⟩
    exact ⟨none, 0, [], rfl, ⟨List.Pairwise.nil, fun x => Iff.rfl, Nat.le_refl _⟩, .inl rfl, hb⟩
  · rcases hz with h | ⟨b, off, rfl, hb, hc⟩
    · exact absurd h h0
    · exact rbounds_any b off ca A w (.inr ⟨b, off, rfl, hb, hc⟩) h0 h8

theorem those_own (g : Nat) (caps : Array Value) (p : Int → Bool) (eg : ∀ args w, (callFunc g args).run Try.prog w = .ok (.enter g args) w) (w : World)
    (hp : ∀ t wq, Below w.heap.size w wq → Calls Try.prog g (#[.int .i64 t] ++ caps) wq fun e w' => e = .returned (.bool (p t)) ∧ Below wq.heap.size wq w')
    {base e : Nat} {v : Value} {A : List Int} (hown : w.ownsRow base e 1 v A.length (A.map (Value.int .i64))) (h8 : A.length ≤ 800) :
    Calls Try.prog 36 #[v, .func (.func g) #[] caps] w fun e w' => ∃ ao' cap' S out, e = .returned (.slice ao' out.length cap') ∧ Ordered A S ∧ Th S p (S.length - 1) out ∧ IvAt w' ao' out ∧ Below w.heap.size w w' := by
  obtain ⟨ao, ca, rfl, hbd⟩ := rbounds_own hown h8
  exact those_core g caps p eg w hp ao A.length ca A h8 hbd

/-- append of nothing, at a step of a region that draws its order -/
theorem step_append_none {P : Program} {w : World} {ops : Array Oper} {o : Oper} {a : Act} {K : Act → World → Prop} {Q : Exit → Act → World → Prop} {E : Prop} (hgd : o.guard = none) (s x : Operand) (t : TypeId)
    (ho : o.op = .call { callee := .builtin .append, args := #[s, x], argTypes := #[t, t] })
    (base : Nat) (e : TypeId) (i : TypeInfo) (size : Nat) (ht : P.underlying t = some (.slice e)) (hi : P.info? e = some i)
    (v : Value) (n : Nat) (xs : List Value) (hs : a.eval s = v) (hown : w.ownsRow base e size v n xs) (hx : a.eval x = .slice none 0 0)
    (h : K (a.put o.dst v) w) : if Region.wanted o (yielded ops a.tmps) = true then Oper.wp P o a w K Q else E := by
  have hw : Region.wanted o (yielded ops a.tmps) = true := by simp [Region.wanted, hgd]
  rw [if_pos hw]
  have hrun := run_append_owned_none (P := P) (w := w) base t o.type e i size ht hi v n xs hown
  unfold Oper.wp
  simp [execOp, ho, resolve, invoke, builtin, hs, hx, hrun, Result.andThen]
  exact h

/-- what Sets comes to -/
def RefIs (want : Bool → Bool → Bool) (a b : List (Int × Int)) (n : Int) (r : List (Int × Int)) : Prop :=
  (chk a ≠ 0 ∧ n = chk a ∧ r = []) ∨ (chk a = 0 ∧ chk b ≠ 0 ∧ n = chk b ∧ r = []) ∨
  (chk a = 0 ∧ chk b = 0 ∧ ∃ s, Canon s ∧ (∀ t, has s t = want (has a t) (has b t)) ∧ ((200 < s.length ∧ n = 2 ∧ r = []) ∨ (s.length ≤ 200 ∧ n = 0 ∧ r = s)))

theorem comb_ref {want : Bool → Bool → Bool} {a b : List (Int × Int)} {n n' : Int} {r r' : List (Int × Int)} (h : CombIs want a b n r) (h' : RefIs want a b n' r') : n = n' ∧ r = r' := by
  rcases h with ⟨h1, h2, h3⟩ | ⟨h0, h1, h2, h3⟩ | ⟨h0, h1, s, hs, h2⟩
  · rcases h' with ⟨g1, g2, g3⟩ | ⟨g0, g1, g2, g3⟩ | ⟨g0, g1, _⟩
    · exact ⟨h2.trans g2.symm, h3.trans g3.symm⟩
    · exact absurd g0 h1
    · exact absurd g0 h1
  · rcases h' with ⟨g1, g2, g3⟩ | ⟨g0, g1, g2, g3⟩ | ⟨g0, g1, _⟩
    · exact absurd h0 g1
    · exact ⟨h2.trans g2.symm, h3.trans g3.symm⟩
    · exact absurd g1 h1
  · rcases h' with ⟨g1, g2, g3⟩ | ⟨g0, g1, g2, g3⟩ | ⟨g0, g1, s', hc, hp, g2⟩
    · exact absurd h0 g1
    · exact absurd h1 g1
    · have e := setIs_unique hs hc hp
      subst e
      rcases h2 with ⟨a1, a2, a3⟩ | ⟨a1, a2, a3⟩
      · rcases g2 with ⟨b1, b2, b3⟩ | ⟨b1, b2, b3⟩
        · exact ⟨a2.trans b2.symm, a3.trans b3.symm⟩
        · omega
      · rcases g2 with ⟨b1, b2, b3⟩ | ⟨b1, b2, b3⟩
        · omega
        · exact ⟨a2.trans b2.symm, a3.trans b3.symm⟩

end Go.Proofs.Ytjlnokjaabcldaa
