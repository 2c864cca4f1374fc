/-
  It doesn't matter in which order maps are put together. Plain mathematics, without any program.
-/
import Derived.Test.YtjlnokjaabcldaeBMath
namespace Go.Proofs.Ytjlnokjaabcldae

theorem both_comm (how x y : Int) : both how x y = both how y x := by
  unfold both
  split
  · omega
  · split <;> omega
theorem both_assoc (how x y z : Int) : both how (both how x y) z = both how x (both how y z) := by
  unfold both
  split
  · omega
  · split <;> omega
theorem mrg_comm (how : Int) (x y : Option Int) : mrg how x y = mrg how y x := by
  cases x <;> cases y <;> simp [mrg, both_comm]
theorem mrg_assoc (how : Int) (x y z : Option Int) : mrg how (mrg how x y) z = mrg how x (mrg how y z) := by
  cases x <;> cases y <;> cases z <;> simp [mrg, both_assoc]

theorem merge_map {a b : List (Int × Int × Int)} {how n : Int} {r : List (Int × Int × Int)} (h : MergeIs a b how n r) (ha : mchk a = 0) (hb : mchk b = 0) (hh : how = 1 ∨ how = 2 ∨ how = 3) : MapIs (turnsOf a ++ turnsOf b) (mergeF a b how) n r := by
  rcases h with ⟨h, _⟩ | ⟨_, h, _⟩ | ⟨_, _, h, _⟩ | ⟨_, _, _, h⟩
  · exact absurd ha h
  · exact absurd hb h
  · exact absurd hh h
  · exact h
theorem map_err {A : List Int} {f : Int → Option Int} {n : Int} {r : List (Int × Int × Int)} (h : MapIs A f n r) : (n = 0 ∨ n = 2 ∨ n = 5) ∧ r.length ≤ 200 := by
  obtain ⟨S, out, _, _, h⟩ := h
  rcases h with ⟨_, h, rfl⟩ | ⟨_, _, h, rfl⟩ | ⟨_, h', h, rfl⟩
  · exact ⟨.inr (.inr h), by simp⟩
  · exact ⟨.inr (.inl h), by simp⟩
  · exact ⟨.inl h, h'⟩
/-- which of both comes first -/
theorem merge_swap {a b : List (Int × Int × Int)} {how n n' : Int} {r r' : List (Int × Int × Int)} (h : MapIs (turnsOf a ++ turnsOf b) (mergeF a b how) n r) (h' : MapIs (turnsOf b ++ turnsOf a) (mergeF b a how) n' r') : n = n' ∧ r = r' :=
  mapIs_same h h' (fun _ hS => mergeF_turns hS) (fun _ hS => mergeF_turns hS) fun _ => mrg_comm how _ _
theorem merge_tel {a b : List (Int × Int × Int)} {how : Int} {r : List (Int × Int × Int)} (h : MapIs (turnsOf a ++ turnsOf b) (mergeF a b how) 0 r) : mchk r = 0 ∧ ∀ t, tel r t = mrg how (tel a t) (tel b t) :=
  mapIs_zero h (fun _ hS => mergeF_turns hS)
/-- in which order three are put together -/
theorem merge_three {a b c ab bc l r : List (Int × Int × Int)} {how : Int} (hab : ∀ t, tel ab t = mrg how (tel a t) (tel b t)) (hbc : ∀ t, tel bc t = mrg how (tel b t) (tel c t)) (hl : MapIs (turnsOf ab ++ turnsOf c) (mergeF ab c how) 0 l) (hr : MapIs (turnsOf a ++ turnsOf bc) (mergeF a bc how) 0 r) : l = r := by
  obtain ⟨c1, t1⟩ := merge_tel hl
  obtain ⟨c2, t2⟩ := merge_tel hr
  refine mcan_unique (mchk_good c1).2.1 (mchk_good c2).2.1 fun t => ?_
  rw [t1, t2, hab, hbc, mrg_assoc]

end Go.Proofs.Ytjlnokjaabcldae
