/-
  Legs copied by append, and which one of a list a number is.
-/
import Derived.Test.YtanbbkoleekmjagRRev
import Derived.Test.YtanbbkoleekmjagTnMat3
namespace Go.Proofs.Ytanbbkoleekmjag
open Go.RowKit

theorem Try.infoLegT : (Try.prog.info? 75).map (fun i => (i.zero, i.size, i.bytes)) = some (some (.agg #[.int .i64 0, .int .i64 0, .int .i64 0, .int .i64 0]), 4, 32) := by kernel_rfl

theorem lg_news {w : World} {gb gof : Nat} {legs : List Lg} (hc : ∀ j, j < legs.length → w.cell? ⟨gb, gof + j * 4, none⟩ = some (.int .i64 (legs.getD j (0, 0, 0, 0)).1) ∧ w.cell? ⟨gb, gof + j * 4 + 1, none⟩ = some (.int .i64 (legs.getD j (0, 0, 0, 0)).2.1) ∧ w.cell? ⟨gb, gof + j * 4 + 2, none⟩ = some (.int .i64 (legs.getD j (0, 0, 0, 0)).2.2.1) ∧ w.cell? ⟨gb, gof + j * 4 + 3, none⟩ = some (.int .i64 (legs.getD j (0, 0, 0, 0)).2.2.2)) :
    ∀ j u, (enc4 legs)[j]? = some u → w.cell? ((⟨gb, gof, none⟩ : Addr).add j) = some u := by
  intro j u hu
  have hadd : (⟨gb, gof, none⟩ : Addr).add j = ⟨gb, gof + j, none⟩ := by unfold Addr.add; split <;> simp_all
  rw [hadd]
  have hj : j < legs.length * 4 := by rw [← enc4_length]; exact (List.getElem?_eq_some_iff.1 hu).1
  have hk : j / 4 < legs.length := by omega
  obtain ⟨e0, e1, e2, e3⟩ := enc4_get legs (j / 4) hk
  obtain ⟨c0, c1, c2, c3⟩ := LgAt.get hk hc
  have h4 : j = j / 4 * 4 ∨ j = j / 4 * 4 + 1 ∨ j = j / 4 * 4 + 2 ∨ j = j / 4 * 4 + 3 := by omega
  rcases h4 with h | h | h | h
  · rw [h, e0] at hu; rw [h, c0]; exact hu
  · rw [h, e1] at hu; rw [h, ← Nat.add_assoc, c1]; exact hu
  · rw [h, e2] at hu; rw [h, ← Nat.add_assoc, c2]; exact hu
  · rw [h, e3] at hu; rw [h, ← Nat.add_assoc, c3]; exact hu

/-- legs copied -/
theorem run_copy {w : World} {ty : TypeId} {lo : Option Addr} {lcap : Nat} {legs : List Lg} (hL : LgAt w lo legs) (hn : legs.length ≤ 1000) {B : Nat} (hB : B ≤ w.heap.size) : ∃ v w', (Builtin.append_ #[76, 76] ty #[.slice none 0 0, .slice lo legs.length lcap]).run Try.prog w = .ok v w' ∧ w'.ownsRow B 75 4 v legs.length (enc4 legs) ∧ Below w.heap.size w w' ∧ ∀ k, v.ownBlock = some k → w.heap.size ≤ k := by
  obtain ⟨i, hi, hz0, hz1, hz2⟩ := info_parts Try.infoLegT
  rcases hL with rfl | ⟨gb, gof, rfl, hlt, hc⟩
  · refine ⟨.slice none 0 0, w, ?_, World.ownsRow_nil _ _ _ _, Below.refl _ _, fun k hk => by simp [Value.ownBlock] at hk⟩
    cases lo <;> simp [Builtin.append_, go_sem]
  · obtain ⟨v', w', hr, h2, h3, _, h5⟩ := run_append_own_at (P := Try.prog) w B 76 ty 75 i _ 4 32 Try.underlying76 hi hz0 hz1 hz2 rfl (by decide) (.slice none 0 0) 0 [] (World.ownsRow_nil _ _ _ _) ⟨gb, gof, none⟩ legs.length lcap (enc4 legs) (enc4_length legs) (lg_news hc) (fun u hu => by
      unfold enc4 at hu
      obtain ⟨l, _, hl⟩ := List.mem_flatMap.1 hu
      simp at hl
      rcases hl with rfl | rfl | rfl | rfl <;> rfl) (by unfold maxLen; omega) (by omega) hB
    rw [Nat.zero_add, List.nil_append] at h2
    refine ⟨v', w', hr, h2, (Below.refl _ _).grown h3 (Nat.le_refl _) (fun j hj => by simp [Value.ownBlock] at hj), fun k hk => ?_⟩
    rcases h5 with h5 | h5
    · rw [hk] at h5; simp [Value.ownBlock] at h5
    · rw [hk] at h5; simp only [Option.some.injEq] at h5; omega

theorem wp_copy {w : World} {o : Oper} {a : Act} {K : Act → World → Prop} {Q : Exit → Act → World → Prop} (s x : Operand) (ho : o.op = .call { callee := .builtin .append, args := #[s, x], argTypes := #[76, 76] }) {lo : Option Addr} {lcap : Nat} {legs : List Lg} (hs : a.eval s = .slice none 0 0) (hx : a.eval x = .slice lo legs.length lcap) (hL : LgAt w lo legs) (hn : legs.length ≤ 1000) {B : Nat} (hB : B ≤ w.heap.size)
    (h : ∀ v w', w'.ownsRow B 75 4 v legs.length (enc4 legs) → Below w.heap.size w w' → (∀ k, v.ownBlock = some k → w.heap.size ≤ k) → K (a.put o.dst v) w') : o.wp Try.prog a w K Q := by
  obtain ⟨v, w', hr, h1, h2, h3⟩ := run_copy (ty := o.type) (lcap := lcap) hL hn hB
  unfold Oper.wp execOp
  simp only [ho, resolve, invoke, builtin, Sem.run_bind, Sem.run_pure, Result.andThen_ok, List.map_toArray, List.map_cons, List.map_nil, hs, hx, hr]
  exact h v w' h1 h2 h3
theorem wpList_copy {w : World} {ops : Array Oper} {rest : List Oper} {o : Oper} {a : Act} {Q : Exit → Act → World → Prop} (hgd : o.guard = none) (s x : Operand) (ho : o.op = .call { callee := .builtin .append, args := #[s, x], argTypes := #[76, 76] }) {lo : Option Addr} {lcap : Nat} {legs : List Lg} (hs : a.eval s = .slice none 0 0) (hx : a.eval x = .slice lo legs.length lcap) (hL : LgAt w lo legs) (hn : legs.length ≤ 1000) {B : Nat} (hB : B ≤ w.heap.size)
    (h : ∀ v w', w'.ownsRow B 75 4 v legs.length (enc4 legs) → Below w.heap.size w w' → (∀ k, v.ownBlock = some k → w.heap.size ≤ k) → wpList Try.prog ops Q rest (a.put o.dst v) w') : wpList Try.prog ops Q (o :: rest) a w :=
  wpList_plain hgd fun _ hK => wp_copy s x ho hs hx hL hn hB fun v w' h1 h2 h3 => hK _ _ (h v w' h1 h2 h3)
theorem step_copy {w : World} {ops : Array Oper} {o : Oper} {a : Act} {K : Act → World → Prop} {Q : Exit → Act → World → Prop} {E : Prop} (hgd : o.guard = none) (s x : Operand) (ho : o.op = .call { callee := .builtin .append, args := #[s, x], argTypes := #[76, 76] }) {lo : Option Addr} {lcap : Nat} {legs : List Lg} (hs : a.eval s = .slice none 0 0) (hx : a.eval x = .slice lo legs.length lcap) (hL : LgAt w lo legs) (hn : legs.length ≤ 1000) {B : Nat} (hB : B ≤ w.heap.size)
    (h : ∀ v w', w'.ownsRow B 75 4 v legs.length (enc4 legs) → Below w.heap.size w w' → (∀ k, v.ownBlock = some k → w.heap.size ≤ k) → K (a.put o.dst v) w') : if Region.wanted o (yielded ops a.tmps) = true then Oper.wp Try.prog o a w K Q else E := by
  have hw : Region.wanted o (yielded ops a.tmps) = true := by simp [Region.wanted, hgd]
  rw [if_pos hw]
  exact wp_copy s x ho hs hx hL hn hB h

/-- which one of a list it is: -1 if it is none -/
def intAt (h : Int) (l : List Int) (r : Int) : Prop := (∃ k : Nat, l[k]? = some h ∧ r = (k : Int)) ∨ (h ∉ l ∧ r = -1)
end Go.Proofs.Ytanbbkoleekmjag
