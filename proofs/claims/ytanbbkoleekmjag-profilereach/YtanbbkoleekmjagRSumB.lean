/-
  The rows of Sums of the reference, while they are made.
-/
import Derived.Test.YtanbbkoleekmjagRSumA
namespace Go.Proofs.Ytanbbkoleekmjag
open Go.RowKit

/-- a row in which nothing is told -/
def infR (k : Nat) : List Int := List.replicate k 1099511627776
theorem infR_len (k : Nat) : (infR k).length = k := by simp [infR]
theorem infR_succ (k : Nat) : (infR (k + 1)).map (Value.int .i64) = (infR k).map (Value.int .i64) ++ [.int .i64 1099511627776] := by
  unfold infR; rw [List.replicate_succ', List.map_append]; rfl
/-- rows of other types lie apart -/
theorem su_apart {W : World} {base e size base' e' size' n n' : Nat} {v v' : Value} {xs xs' : List Value} (h : W.ownsRow base e size v n xs) (h' : W.ownsRow base' e' size' v' n' xs') (he : e ≠ e') : v.ownBlock = none ∨ v.ownBlock ≠ v'.ownBlock := by
  rcases h.2 with ⟨rfl, _⟩ | ⟨g, cap, cur, rfl, _, hh, _⟩
  · exact .inl rfl
  · right
    intro e
    rcases h'.2 with ⟨rfl, _⟩ | ⟨g', cap', cur', rfl, _, hh', _⟩
    · cases e
    · have : g = g' := Option.some.inj e
      subst this
      rw [hh] at hh'
      simp only [Option.some.injEq, Obj.cells.injEq] at hh'
      exact he hh'.2.1
theorem zo_kept {W W' : World} {base g n cap : Nat} {x : List Int} {base' size n' : Nat} {v : Value} {xs : List Value} (h : Zo W base g n cap x) (h' : W.ownsRow base' 30 size v n' xs) (hg : W.grownBy W' v.ownBlock) : Zo W' base g n cap x :=
  World.ownsRow.kept h hg (su_apart h h' (by decide))

structure Hf (w1 : World) (h : Nat) (uc uh : Value) (bc bh : List (Nat × Nat)) (kc kh : Nat) (W : World) : Prop where
  lc : bc.length = kc
  lh : bh.length = kh
  oc : W.ownsRow w1.heap.size 30 1 uc kc (sls h bc)
  oh : W.ownsRow w1.heap.size 30 1 uh kh (sls h bh)
  ap : uc.ownBlock = none ∨ uh.ownBlock = none ∨ uc.ownBlock ≠ uh.ownBlock
  ic : ∀ p ∈ bc, Zo W w1.heap.size p.1 h p.2 (infR h)
  ih : ∀ p ∈ bh, Zo W w1.heap.size p.1 h p.2 (infR h)
  nd : (bc.map Prod.fst ++ bh.map Prod.fst).Nodup
  bel : Below w1.heap.size w1 W
theorem hf_start (w1 : World) (h : Nat) : Hf w1 h (.slice none 0 0) (.slice none 0 0) [] [] 0 0 w1 :=
  ⟨rfl, rfl, World.ownsRow_nil _ _ _ _, World.ownsRow_nil _ _ _ _, .inl rfl, by simp, by simp, by simp, Below.refl _ _⟩
theorem Hf.below {w1 W W' : World} {h : Nat} {uc uh : Value} {bc bh : List (Nat × Nat)} {kc kh : Nat} (F : Hf w1 h uc uh bc bh kc kh W) (hb : Below W.heap.size W W') : Hf w1 h uc uh bc bh kc kh W' :=
  ⟨F.lc, F.lh, ownsRow_below F.oc hb, ownsRow_below F.oh hb, F.ap, fun p hp => (F.ic p hp).below hb, fun p hp => (F.ih p hp).below hb, F.nd, F.bel.trans (hb.mono F.bel.size)⟩
/-- the blocks of the rows are old -/
theorem Hf.old {w1 W : World} {h : Nat} {uc uh : Value} {bc bh : List (Nat × Nat)} {kc kh : Nat} (F : Hf w1 h uc uh bc bh kc kh W) : ∀ g ∈ bc.map Prod.fst ++ bh.map Prod.fst, g < W.heap.size := by
  intro g hg
  rw [List.mem_append, List.mem_map, List.mem_map] at hg
  rcases hg with ⟨p, hp, rfl⟩ | ⟨p, hp, rfl⟩
  · exact (World.ownsRow.lt (F.ic p hp) p.1 rfl).2
  · exact (World.ownsRow.lt (F.ih p hp) p.1 rfl).2
theorem Hf.appC {w1 W w' : World} {h : Nat} {uc uh uc' : Value} {bc bh : List (Nat × Nat)} {kc kh ga ca : Nat} {o : Obj} (F : Hf w1 h uc uh bc bh kc kh W) (ha : Zo W w1.heap.size ga h ca (infR h)) (hga : ga ∉ bc.map Prod.fst ++ bh.map Prod.fst)
    (h1 : w'.ownsRow w1.heap.size 30 1 uc' (kc + 1) (sls h bc ++ [.slice (some ⟨ga, 0, none⟩) h ca])) (hg : (W.alloc o).grownBy w' uc.ownBlock) (hat : uc'.ownBlock = uc.ownBlock ∨ uc'.ownBlock = some (W.alloc o).heap.size) :
    Hf w1 h uc' uh (bc ++ [(ga, ca)]) bh (kc + 1) kh w' := by
  have FA := F.below (pal W o)
  have haA := ha.below (pal W o)
  refine ⟨by rw [List.length_append, F.lc]; rfl, F.lh, by rw [sls_snoc]; exact h1, ?_, ?_, ?_, ?_, ?_, ?_⟩
  · refine FA.oh.kept hg ?_
    rcases F.ap with e | e | e
    · rw [e]; cases hu : uh.ownBlock with
      | none => exact .inl rfl
      | some k => right; intro h; cases h
    · exact .inl e
    · exact .inr (fun h => e h.symm)
  · rcases hat with e | e
    · rw [e]; exact F.ap
    · rw [e]
      right; right
      intro h
      have := (FA.oh.lt _ h.symm).2
      omega
  · intro p hp
    rw [List.mem_append, List.mem_singleton] at hp
    rcases hp with hp | rfl
    · exact zo_kept (FA.ic p hp) FA.oc hg
    · exact zo_kept haA FA.oc hg
  · intro p hp; exact zo_kept (FA.ih p hp) FA.oc hg
  · have := F.nd
    rw [List.map_append]
    simp only [List.map_cons, List.map_nil]
    rw [List.append_assoc, List.nodup_append] at *
    simp only [List.mem_append, not_or] at hga
    refine ⟨this.1, ?_, ?_⟩
    · rw [List.singleton_append, List.nodup_cons]; exact ⟨hga.2, this.2.1⟩
    · intro x hx b hb
      rw [List.singleton_append, List.mem_cons] at hb
      rcases hb with rfl | hb
      · intro e; subst e; exact hga.1 hx
      · exact this.2.2 x hx b hb
  · exact FA.bel.grown hg (by have := F.bel.size; simp; omega) (fun j hj => (FA.oc.lt j hj).1)
theorem Hf.appH {w1 W w' : World} {h : Nat} {uc uh uh' : Value} {bc bh : List (Nat × Nat)} {kc kh ga ca : Nat} {o : Obj} (F : Hf w1 h uc uh bc bh kc kh W) (ha : Zo W w1.heap.size ga h ca (infR h)) (hga : ga ∉ bc.map Prod.fst ++ bh.map Prod.fst)
    (h1 : w'.ownsRow w1.heap.size 30 1 uh' (kh + 1) (sls h bh ++ [.slice (some ⟨ga, 0, none⟩) h ca])) (hg : (W.alloc o).grownBy w' uh.ownBlock) (hat : uh'.ownBlock = uh.ownBlock ∨ uh'.ownBlock = some (W.alloc o).heap.size) :
    Hf w1 h uc uh' bc (bh ++ [(ga, ca)]) kc (kh + 1) w' := by
  have FA := F.below (pal W o)
  have haA := ha.below (pal W o)
  refine ⟨F.lc, by rw [List.length_append, F.lh]; rfl, ?_, by rw [sls_snoc]; exact h1, ?_, ?_, ?_, ?_, ?_⟩
  · refine FA.oc.kept hg ?_
    rcases F.ap with e | e | e
    · exact .inl e
    · rw [e]; cases hu : uc.ownBlock with
      | none => exact .inl rfl
      | some k => right; intro h; cases h
    · exact .inr e
  · rcases hat with e | e
    · rw [e]; exact F.ap
    · rw [e]
      right; right
      intro h
      have := (FA.oc.lt _ h).2
      omega
  · intro p hp; exact zo_kept (FA.ic p hp) FA.oh hg
  · intro p hp
    rw [List.mem_append, List.mem_singleton] at hp
    rcases hp with hp | rfl
    · exact zo_kept (FA.ih p hp) FA.oh hg
    · exact zo_kept haA FA.oh hg
  · have := F.nd
    rw [List.map_append]
    simp only [List.map_cons, List.map_nil]
    rw [← List.append_assoc, List.nodup_append]
    refine ⟨this, by simp, fun x hx b hb => ?_⟩
    simp only [List.mem_singleton] at hb
    subst hb
    intro e; subst e; exact hga hx
  · exact FA.bel.grown hg (by have := F.bel.size; simp; omega) (fun j hj => (FA.oh.lt j hj).1)
/-- the tables, when all rows are made -/
def infT (n h : Nat) : Tb := List.replicate n (infR h)
theorem infT_shp (n h : Nat) : Shp n h (infT n h) := ⟨by simp [infT], fun v hv => by simp [infT, List.getD_eq_getElem?_getD, hv, infR]⟩
theorem infT_row (n h v : Nat) (hv : v < n) : (infT n h).getD v [] = infR h := by simp [infT, List.getD_eq_getElem?_getD, hv]
theorem infT_at (n h v t : Nat) (hv : v < n) (ht : t < h) : tat (infT n h) v t = 1099511627776 := by unfold tat; rw [infT_row n h v hv]; simp [infR, List.getD_eq_getElem?_getD, ht]
theorem hf_tab {w1 W : World} {h n goC cC goH cH : Nat} {bc bh : List (Nat × Nat)} (F : Hf w1 h (.slice (some ⟨goC, 0, none⟩) n cC) (.slice (some ⟨goH, 0, none⟩) n cH) bc bh n n W) : TabM W w1.heap.size goC bc h (infT n h) ∧ TabM W w1.heap.size goH bh h (infT n h) ∧ Dis n goC goH bc bh := by
  have hbk : ∀ (bl : List (Nat × Nat)) v, v < bl.length → bl.getD v (0, 0) ∈ bl := fun bl v hv => by rw [List.getD_eq_getElem?_getD, List.getElem?_eq_getElem hv]; exact List.getElem_mem hv
  have hbm : ∀ (bl : List (Nat × Nat)) v, v < bl.length → bk bl v ∈ bl.map Prod.fst := fun bl v hv => List.mem_map.2 ⟨_, hbk bl v hv, rfl⟩
  have hnd := F.nd
  rw [List.nodup_append] at hnd
  have hinj : ∀ (bl : List (Nat × Nat)), (bl.map Prod.fst).Nodup → ∀ v v', v < bl.length → v' < bl.length → v' ≠ v → bk bl v' ≠ bk bl v := by
    intro bl h v v' hv hv' hne e
    apply hne
    have e1 : (bl.map Prod.fst)[v']'(by simpa using hv') = (bl.map Prod.fst)[v]'(by simpa using hv) := by
      simp only [List.getElem_map]
      unfold bk at e
      simpa [List.getD_eq_getElem?_getD, hv, hv'] using e
    have h' := h
    unfold List.Nodup at h'
    rw [List.pairwise_iff_getElem] at h'
    rcases Nat.lt_trichotomy v' v with k | k | k
    · exact absurd e1 (h' v' v (by simpa using hv') (by simpa using hv) k)
    · exact k
    · exact absurd e1.symm (h' v v' (by simpa using hv) (by simpa using hv') k)
  refine ⟨⟨fun v hv => ?_, fun v hv => ?_, (F.oc.lt goC rfl).2⟩, ⟨fun v hv => ?_, fun v hv => ?_, (F.oh.lt goH rfl).2⟩, F.lc, F.lh, ?_, ?_, ?_, ?_, ?_⟩
  · rw [F.oc.cellAt v (by have := F.lc; omega), sls_get h bc v hv]
  · rw [infT_row n h v (by rw [← F.lc]; exact hv)]; exact F.ic _ (hbk bc v hv)
  · rw [F.oh.cellAt v (by have := F.lh; omega), sls_get h bh v hv]
  · rw [infT_row n h v (by rw [← F.lh]; exact hv)]; exact F.ih _ (hbk bh v hv)
  · exact fun v v' hv hv' => hinj bc hnd.1 v v' (by rw [F.lc]; exact hv) (by rw [F.lc]; exact hv')
  · exact fun v v' hv hv' => hinj bh hnd.2.1 v v' (by rw [F.lh]; exact hv) (by rw [F.lh]; exact hv')
  · exact fun v v' hv hv' => hnd.2.2 _ (hbm bc v (by rw [F.lc]; exact hv)) _ (hbm bh v' (by rw [F.lh]; exact hv'))
  · intro v hv
    have hz := F.ic _ (hbk bc v (by rw [F.lc]; exact hv))
    refine ⟨fun e => ?_, fun e => ?_⟩
    · rcases su_apart F.oc hz (by decide) with k | k
      · cases k
      · exact k (by show some goC = some _; rw [e]; rfl)
    · rcases su_apart F.oh hz (by decide) with k | k
      · cases k
      · exact k (by show some goH = some _; rw [e]; rfl)
  · intro v hv
    have hz := F.ih _ (hbk bh v (by rw [F.lh]; exact hv))
    refine ⟨fun e => ?_, fun e => ?_⟩
    · rcases su_apart F.oc hz (by decide) with k | k
      · cases k
      · exact k (by show some goC = some _; rw [e]; rfl)
    · rcases su_apart F.oh hz (by decide) with k | k
      · cases k
      · exact k (by show some goH = some _; rw [e]; rfl)

end Go.Proofs.Ytanbbkoleekmjag
