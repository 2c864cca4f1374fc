/-
  Maps of the laws: what is told of few pieces is told, and equal things are told as one list. Plain mathematics, without any program.
-/
import Derived.Test.YtanbbkoleekmjagPMrg2
import Derived.Test.YtanbbkoleekmjagPPut
import Derived.Test.YtanbbkoleekmjagMTurns
namespace Go.Proofs.Ytanbbkoleekmjag

/-- a rising list of numbers of T is no longer than T -/
theorem rising_le {R T : List Int} (hR : R.Pairwise (· < ·)) (h : ∀ x ∈ R, x ∈ T) : R.length ≤ T.length := by
  induction R generalizing T with
  | nil => simp
  | cons x R ih =>
    rw [List.pairwise_cons] at hR
    have hx : x ∈ T := h x (by simp)
    have := ih (T := T.erase x) hR.2 fun y hy => (List.mem_erase_of_ne (by have := hR.1 y hy; omega)).2 (h y (by simp [hy]))
    rw [List.length_erase_of_mem hx] at this
    have hp : 0 < T.length := List.length_pos_of_mem hx
    simp only [List.length_cons]; omega
theorem mcan_starts {m : List (Int × Int × Int)} (h : MCan m) : (m.map (fun q => q.1)).Pairwise (· < ·) := by
  induction m with
  | nil => exact List.Pairwise.nil
  | cons p m ih =>
    rw [List.map_cons, List.pairwise_cons]
    refine ⟨fun x hx => ?_, ih h.2.2⟩
    rw [List.mem_map] at hx
    obtain ⟨q, hq, rfl⟩ := hx
    have := mcan_low h q hq
    have := h.1
    omega
theorem mcan_len {m : List (Int × Int × Int)} {T : List Int} (h : MCan m) (hT : ∀ q ∈ m, q.1 ∈ T) : m.length ≤ T.length := by
  have := rising_le (mcan_starts h) (T := T) (fun x hx => by rw [List.mem_map] at hx; obtain ⟨q, hq, rfl⟩ := hx; exact hT q hq)
  simpa using this

/-- a map of the laws: its pieces begin and end at times of T -/
structure MOf (T : List Int) (m : List (Int × Int × Int)) : Prop where
  canon : MCan m
  near : ∀ p ∈ m, NearP p
  mem : ∀ q ∈ m, q.1 ∈ T ∧ q.2.1 ∈ T
theorem MOf.len {T : List Int} {m : List (Int × Int × Int)} (h : MOf T m) : m.length ≤ T.length := mcan_len h.canon fun q hq => (h.mem q hq).1
theorem MOf.chk {T : List Int} {m : List (Int × Int × Int)} (h : MOf T m) (hT : T.length ≤ 200) : mchk m = 0 := mchk_of_mcan h.canon h.near (by have := h.len; omega)
theorem MOf.mono {T T' : List Int} {m : List (Int × Int × Int)} (h : MOf T m) (hT : ∀ x ∈ T, x ∈ T') : MOf T' m := ⟨h.canon, h.near, fun q hq => ⟨hT _ (h.mem q hq).1, hT _ (h.mem q hq).2⟩⟩
theorem MOf.turns {T : List Int} {m : List (Int × Int × Int)} (h : MOf T m) : ∀ x ∈ turnsOf m, x ∈ T := by
  intro x hx
  obtain ⟨p, hp, e | e⟩ := turnsOf_mem hx
  · rw [e]; exact (h.mem p hp).1
  · rw [e]; exact (h.mem p hp).2

/-- what is told: the map of what is told at the times, or an error -/
theorem mapIs_out {A : List Int} {f : Int → Option Int} {n : Int} {r : List (Int × Int × Int)} (h : MapIs A f n r) (hf : ∀ S, (∀ x, x ∈ S ↔ x ∈ A) → MTurns S f) : ∃ out, MCan out ∧ (∀ t, tel out t = f t) ∧ (∀ q ∈ out, q.1 ∈ A ∧ q.2.1 ∈ A ∧ ∃ s, f s = some q.2.2) ∧ FitIs out n r := by
  obtain ⟨S, out, hO, hT, h⟩ := h
  refine ⟨out, hT.canon, tl_tel hO (hf S hO.mem) hT, fun q hq => ?_, h⟩
  obtain ⟨h1, h2, s, _, h3⟩ := hT.mem q hq
  exact ⟨(hO.mem _).1 h1, (hO.mem _).1 h2, s, h3⟩
theorem fitIs_unique {out : List (Int × Int × Int)} {n n' : Int} {r r' : List (Int × Int × Int)} (h : FitIs out n r) (h' : FitIs out n' r') : n = n' ∧ r = r' := by
  rcases h with ⟨a, h1, h2⟩ | ⟨a, b, h1, h2⟩ | ⟨a, b, h1, h2⟩
  · rcases h' with ⟨a', h1', h2'⟩ | ⟨a', b', h1', h2'⟩ | ⟨a', b', h1', h2'⟩
    · exact ⟨h1.trans h1'.symm, h2.trans h2'.symm⟩
    · exact absurd a' a
    · exact absurd a' a
  · rcases h' with ⟨a', h1', h2'⟩ | ⟨a', b', h1', h2'⟩ | ⟨a', b', h1', h2'⟩
    · exact absurd a a'
    · exact ⟨h1.trans h1'.symm, h2.trans h2'.symm⟩
    · omega
  · rcases h' with ⟨a', h1', h2'⟩ | ⟨a', b', h1', h2'⟩ | ⟨a', b', h1', h2'⟩
    · exact absurd a a'
    · omega
    · exact ⟨h1.trans h1'.symm, h2.trans h2'.symm⟩
/-- what tells the same is one, the error too -/
theorem mapIs_same {A A' : List Int} {f f' : Int → Option Int} {n n' : Int} {r r' : List (Int × Int × Int)} (h : MapIs A f n r) (h' : MapIs A' f' n' r') (hf : ∀ S, (∀ x, x ∈ S ↔ x ∈ A) → MTurns S f) (hf' : ∀ S, (∀ x, x ∈ S ↔ x ∈ A') → MTurns S f') (e : ∀ t, f t = f' t) : n = n' ∧ r = r' := by
  obtain ⟨o, c, t, _, F⟩ := mapIs_out h hf
  obtain ⟨o', c', t', _, F'⟩ := mapIs_out h' hf'
  have : o = o' := mcan_unique c c' fun x => by rw [t, t', e]
  subst this
  exact fitIs_unique F F'
/-- what is told is told of a map that is there: it is that map -/
theorem mapIs_known {A : List Int} {f : Int → Option Int} {n : Int} {r m : List (Int × Int × Int)} (h : MapIs A f n r) (hf : ∀ S, (∀ x, x ∈ S ↔ x ∈ A) → MTurns S f) (hm : mchk m = 0) (e : ∀ t, f t = tel m t) : n = 0 ∧ r = m := by
  obtain ⟨o, c, t, _, F⟩ := mapIs_out h hf
  obtain ⟨hl, hc, hn⟩ := mchk_good hm
  have : o = m := mcan_unique c hc fun x => by rw [t, e]
  subst this
  exact fitIs_unique F (.inr (.inr ⟨hn, hl, rfl, rfl⟩))
/-- few pieces, near: the map is told -/
theorem mapIs_ok {A T : List Int} {f : Int → Option Int} {n : Int} {r : List (Int × Int × Int)} (h : MapIs A f n r) (hf : ∀ S, (∀ x, x ∈ S ↔ x ∈ A) → MTurns S f) (hv : ∀ s v, f s = some v → nearB v) (hA : ∀ x ∈ A, nearB x) (hT : ∀ x ∈ A, x ∈ T) (h2 : T.length ≤ 200) : n = 0 ∧ MOf T r ∧ ∀ t, tel r t = f t := by
  obtain ⟨o, c, t, hm, F⟩ := mapIs_out h hf
  have hn : ∀ q ∈ o, NearP q := fun q hq => by
    obtain ⟨a1, a2, s, a3⟩ := hm q hq
    exact ⟨hA _ a1, hA _ a2, hv s _ a3⟩
  have M : MOf T o := ⟨c, hn, fun q hq => ⟨hT _ (hm q hq).1, hT _ (hm q hq).2.1⟩⟩
  obtain ⟨e1, e2⟩ := fitIs_unique F (.inr (.inr ⟨hn, by have := M.len; omega, rfl, rfl⟩))
  subst e2
  exact ⟨e1, M, t⟩
/-- what is told without an error -/
theorem mapIs_zero {A : List Int} {f : Int → Option Int} {r : List (Int × Int × Int)} (h : MapIs A f 0 r) (hf : ∀ S, (∀ x, x ∈ S ↔ x ∈ A) → MTurns S f) : mchk r = 0 ∧ ∀ t, tel r t = f t := by
  obtain ⟨o, c, t, _, F⟩ := mapIs_out h hf
  rcases F with ⟨_, h1, _⟩ | ⟨_, _, h1, _⟩ | ⟨a, b, _, rfl⟩
  · cases h1
  · cases h1
  · exact ⟨mchk_of_mcan c a b, t⟩
theorem mapIs_err {A : List Int} {f : Int → Option Int} {n : Int} {r : List (Int × Int × Int)} (h : MapIs A f n r) (hn : n ≠ 0) : r = [] := by
  obtain ⟨S, out, _, _, h⟩ := h
  rcases h with ⟨_, _, h⟩ | ⟨_, _, _, h⟩ | ⟨_, _, h, _⟩
  · exact h
  · exact h
  · exact absurd h hn

/-- Put, of a map of few pieces -/
theorem putF_near {m : List (Int × Int × Int)} {p : Int × Int × Int} (hm : ∀ q ∈ m, NearP q) (hp : NearP p) (s v : Int) (h : putF m p s = some v) : nearB v := by
  unfold putF at h
  split at h
  · cases h; exact hp.2.2
  · exact tel_near hm h
theorem put_ok {T : List Int} {m : List (Int × Int × Int)} {p : Int × Int × Int} {n : Int} {r : List (Int × Int × Int)} (h : PutIs m p n r) (hm : MOf T m) (hT : T.length ≤ 198) (hp : NearP p) : n = 0 ∧ MOf (T ++ [p.1, p.2.1]) r ∧ ∀ t, tel r t = putF m p t := by
  rcases h with ⟨h, _⟩ | ⟨_, h, _⟩ | ⟨_, _, h⟩
  · exact absurd (hm.chk (by omega)) h
  · exact absurd hp h
  · refine mapIs_ok h (fun S hS => putF_turns hS) (putF_near hm.near hp) (fun x hx => ?_) (fun x hx => ?_) (by simp; omega)
    · rw [List.mem_append] at hx
      rcases hx with hx | hx
      · exact turnsOf_near hm.near x hx
      · simp at hx
        rcases hx with rfl | rfl
        · exact hp.1
        · exact hp.2.1
    · rw [List.mem_append] at hx ⊢
      rcases hx with hx | hx
      · exact .inl (hm.turns x hx)
      · exact .inr hx
theorem put_far {m : List (Int × Int × Int)} {p : Int × Int × Int} {n : Int} {r : List (Int × Int × Int)} (h : PutIs m p n r) (hm : mchk m = 0) (hp : ¬ NearP p) : n = 5 ∧ r = [] := by
  rcases h with ⟨h, _⟩ | ⟨_, _, h⟩ | ⟨_, h, _⟩
  · exact absurd hm h
  · exact h
  · exact absurd h hp
/-- Put of what is told already -/
theorem put_twice {m x : List (Int × Int × Int)} {p : Int × Int × Int} {n : Int} {r : List (Int × Int × Int)} (h : PutIs x p n r) (hx : mchk x = 0) (hp : NearP p) (ht : ∀ t, tel x t = putF m p t) : n = 0 ∧ r = x := by
  rcases h with ⟨h, _⟩ | ⟨_, h, _⟩ | ⟨_, _, h⟩
  · exact absurd hx h
  · exact absurd hp h
  · refine mapIs_known h (fun S hS => putF_turns hS) hx fun t => ?_
    unfold putF
    have := ht t
    unfold putF at this
    split
    · rename_i hi; rw [this, if_pos hi]
    · rfl

/-- what built has made of the first k pieces -/
def BuiltIs (l m : List (Int × Int × Int)) : Prop := MOf (turnsOf l) m
theorem built_start (l : List (Int × Int × Int)) : BuiltIs (l.take 0) [] := ⟨trivial, by simp, by simp⟩
theorem built_len {l m : List (Int × Int × Int)} (h : BuiltIs l m) : m.length ≤ 2 * l.length := by have := MOf.len h; rwa [turnsOf_length] at this
theorem built_chk {l m : List (Int × Int × Int)} (h : BuiltIs l m) (hl : l.length ≤ 40) : mchk m = 0 := MOf.chk h (by rw [turnsOf_length]; omega)
theorem built_put {l m r : List (Int × Int × Int)} {k : Nat} {n : Int} (hk : k < l.length) (hl : l.length ≤ 40) (h : BuiltIs (l.take k) m) (hp : PutIs m l[k] n r) : (NearP l[k] ∧ n = 0 ∧ BuiltIs (l.take (k + 1)) r) ∨ (¬ NearP l[k] ∧ n = 5 ∧ r = [] ∧ BuiltIs (l.take (k + 1)) m) := by
  have hlen : (l.take k).length ≤ 40 := by rw [List.length_take]; omega
  by_cases hn : NearP l[k]
  · obtain ⟨h1, h2, _⟩ := put_ok hp h (by rw [turnsOf_length]; omega) hn
    refine .inl ⟨hn, h1, ?_⟩
    unfold BuiltIs
    rw [turnsOf_succ l k hk]
    exact h2
  · obtain ⟨h1, h2⟩ := put_far hp (built_chk h hlen) hn
    refine .inr ⟨hn, h1, h2, ?_⟩
    unfold BuiltIs
    rw [turnsOf_succ l k hk]
    exact MOf.mono h fun x hx => by simp [hx]

theorem begun_one {n : Int} {r : List (Int × Int × Int)} (h : PutIs [] (1, 9, 5) n r) : n = 0 ∧ r = [(1, 9, 5)] := by
  rcases h with ⟨h, _⟩ | ⟨_, h, _⟩ | ⟨_, _, h⟩
  · exact absurd (mchk_of_mcan (m := []) trivial (by simp) (by simp)) h
  · exact absurd (by simp [NearP, nearB]) h
  · refine mapIs_known h (fun S hS => putF_turns hS) (mchk_of_mcan (by simp [MCan]) (by simp [NearP, nearB]) (by simp)) fun t => rfl
theorem begun_two {n : Int} {r : List (Int × Int × Int)} (h : PutIs [(1, 9, 5)] (3, 4, 7) n r) : n = 0 ∧ r = [(1, 3, 5), (3, 4, 7), (4, 9, 5)] := by
  rcases h with ⟨h, _⟩ | ⟨_, h, _⟩ | ⟨_, _, h⟩
  · exact absurd (mchk_of_mcan (by simp [MCan]) (by simp [NearP, nearB]) (by simp)) h
  · exact absurd (by simp [NearP, nearB]) h
  · refine mapIs_known h (fun S hS => putF_turns hS) (mchk_of_mcan (by simp [MCan, Fol]) (by simp [NearP, nearB]) (by simp)) fun t => ?_
    unfold putF
    simp only [tel_cons, tel_nil, inP_iff]
    repeat' split
    all_goals first | rfl | (exfalso; omega)

end Go.Proofs.Ytanbbkoleekmjag
