/-
  Several texts in one.
-/
import Derived.Conc.CrowdStepW
import Derived.Conc.Beside
import Derived.Conc.CrowdStepC2
namespace Go.Proofs.YthgelfnflafoiaeGreat
namespace Crw
open Go.Conc Go.ConcN
open Go.ConcR (KK wgBlock WgAt stA smA rd wr mk Payload DC0)
def lowT (B : Nat) (x : MemAct) : Prop := ∀ a, x.touch? = some a -> a.loc.low B
theorem lowT.mono {B B' : Nat} (h : B <= B') {x : MemAct} (hx : lowT B x) : lowT B' x := fun a ha => Loc.low_mono h (hx a ha)
theorem seenT {B : Nat} {t u : Trace} (h : ∀ op ∈ t, lowT B op.act) (hu : ∀ op ∈ u, lowT B op.act) : ∀ op ∈ t ++ u, lowT B op.act := fun op hop => (Array.mem_append.1 hop).elim (h op) (hu op)
theorem lowT_none {B : Nat} {x : MemAct} (h : x.touch? = none) : lowT B x := fun a ha => by rw [h] at ha; cases ha
theorem touch_op {t : Trace} {i : Nat} {a : Touch} (h : touchAt t i = some a) : ∃ op, t[i]? = some op /\ op.act.touch? = some a := touch_of h
section
variable {Sh Sh' : Loc -> Prop} {Own Own' Rd Rd' : Nat -> Loc -> Prop} {t u : Trace} {j J B : Nat}
theorem ct_grow (h : CT Sh Own Rd t j) (hS : ∀ l, Sh l -> Sh' l) (hS' : ∀ i a, touchAt t i = some a -> Sh' a.loc -> Sh a.loc)
   (hO : ∀ k, 1 <= k -> k <= j -> ∀ l, Own' k l -> Own k l \/ ∀ i a, touchAt t i = some a -> a.loc ≠ l) (hR : ∀ k, 1 <= k -> k <= j -> ∀ l, Rd' k l -> Rd k l)
   (hO' : ∀ k, 1 <= k -> k <= j -> ∀ l, Own k l -> Own' k l) (hR' : ∀ k, 1 <= k -> k <= j -> ∀ l, Rd k l -> Rd' k l) : CT Sh' Own' Rd' t j := by
 refine ⟨fun i op x ho hx hs => h.quiet i op x ho hx (hS' i x (by rw [touchAt_of ho]; exact hx) hs), fun k k1 kj l hl => ?_, fun k k1 kj l hl => h.rd k k1 kj l (hR k k1 kj l hl),
   fun l hs hl => h.free l (fun x => hs (hS l x)) fun k k1 kj => ⟨fun x => (hl k k1 kj).1 (hO' k k1 kj l x), fun x => (hl k k1 kj).2 (hR' k k1 kj l x)⟩,
   fun l hs hl => h.mine l (fun x => hs (hS l x)) fun k k1 kj x => hl k k1 kj (hO' k k1 kj l x), h.nr, h.gs⟩
 rcases hO k k1 kj l hl with h1 | h1
 · exact h.own k k1 kj l h1
 · exact fun i a ha e => absurd e (h1 i a ha)
structure Tr (Sh : Loc -> Prop) (Own Rd : Nat -> Loc -> Prop) (J j B : Nat) (t : Trace) : Prop where
 ct : CT Sh Own Rd t j
 kn : ∀ i x g, t.g? i = some g -> g ≠ 0 -> g <= J -> touchAt t i = some x -> ¬ Sh x.loc -> Knows t 0 i
 ov : ∀ i g, t.g? i = some g -> g ≠ 0 -> g <= J -> t.counts i -> ∃ q, t.g? q = some 0 /\ HappensBefore t i q
 seen : ∀ op ∈ t, lowT B op.act
theorem Tr.mono {B' : Nat} (h : Tr Sh Own Rd J j B t) (hB : B <= B') : Tr Sh Own Rd J j B' t := ⟨h.ct, h.kn, h.ov, fun op hop => (h.seen op hop).mono hB⟩
theorem Tr.fresh (h : Tr Sh Own Rd J j B t) {i : Nat} {a : Touch} (ha : touchAt t i = some a) : a.loc.low B := by
 obtain ⟨op, ho, hx⟩ := touch_op ha
 exact h.seen op (mem_of_getElem? ho) a hx
theorem Tr.grow (h : Tr Sh Own Rd J j B t) (hS : ∀ l, Sh l -> Sh' l) (hS' : ∀ i a, touchAt t i = some a -> Sh' a.loc -> Sh a.loc)
   (hO : ∀ k, 1 <= k -> k <= j -> ∀ l, Own' k l -> Own k l \/ ∀ i a, touchAt t i = some a -> a.loc ≠ l) (hR : ∀ k, 1 <= k -> k <= j -> ∀ l, Rd' k l -> Rd k l)
   (hO' : ∀ k, 1 <= k -> k <= j -> ∀ l, Own k l -> Own' k l) (hR' : ∀ k, 1 <= k -> k <= j -> ∀ l, Rd k l -> Rd' k l) : Tr Sh' Own' Rd' J j B t :=
 ⟨ct_grow h.ct hS hS' hO hR hO' hR', fun i x g h1 h2 h3 h4 h5 => h.kn i x g h1 h2 h3 h4 fun y => h5 (hS _ y), h.ov, h.seen⟩
theorem kn_app (h : ∀ i x g, t.g? i = some g -> g ≠ 0 -> g <= J -> touchAt t i = some x -> ¬ Sh x.loc -> Knows t 0 i) (hu : ∀ op ∈ u, op.g = 0 \/ J < op.g \/ op.act.touch? = none) :
   ∀ i x g, (t ++ u).g? i = some g -> g ≠ 0 -> g <= J -> touchAt (t ++ u) i = some x -> ¬ Sh x.loc -> Knows (t ++ u) 0 i := by
 intro i x g hg hne hJ hx hs
 obtain ⟨op, ho, hox⟩ := touch_op hx
 rcases getElem?_append_cases ho with ⟨hi, ho'⟩ | ⟨_, hou⟩
 · exact (h i x g (by rw [<- g?_old (u := u) hi]; exact hg) hne hJ (by rw [touchAt_of ho']; exact hox) hs).app u
 · have hgo : op.g = g := by simpa [Trace.g?, ho] using hg
   rcases hu op hou with h0 | h0 | h0
   · omega
   · omega
   · rw [h0] at hox; cases hox
theorem ov_app (h : ∀ i g, t.g? i = some g -> g ≠ 0 -> g <= J -> t.counts i -> ∃ q, t.g? q = some 0 /\ HappensBefore t i q) (hu : ∀ op ∈ u, op.g = 0 \/ J < op.g \/ op.act.touch? = none) :
   ∀ i g, (t ++ u).g? i = some g -> g ≠ 0 -> g <= J -> (t ++ u).counts i -> ∃ q, (t ++ u).g? q = some 0 /\ HappensBefore (t ++ u) i q := by
 intro i g hg hne hJ hc
 obtain ⟨x, hx, hx2⟩ := hc
 obtain ⟨op, ho, hox⟩ := touch_of hx
 rcases getElem?_append_cases ho with ⟨hi, ho'⟩ | ⟨_, hou⟩
 · obtain ⟨q, hq, hb⟩ := h i g (by rw [<- g?_old (u := u) hi]; exact hg) hne hJ ((counts_old hi).1 ⟨x, hx, hx2⟩)
   have hql : q < t.size := by
     unfold Trace.g? at hq
     obtain ⟨z, hz, _⟩ := Option.map_eq_some_iff.1 hq
     exact lt_size_of_getElem? hz
   exact ⟨q, by rw [g?_old hql]; exact hq, hb_app u hb⟩
 · have hgo : op.g = g := by simpa [Trace.g?, ho] using hg
   rcases hu op hou with h0 | h0 | h0
   · omega
   · omega
   · rw [h0] at hox; cases hox
theorem Tr.app0 (A : Apart Sh Own Rd) (h : Tr Sh Own Rd J j B t) (hu : ∀ op ∈ u, Ok0 Sh Own Rd j op) (hl : ∀ op ∈ u, lowT B op.act) : Tr Sh Own Rd J j B (t ++ u) :=
 ⟨h.ct.app0 A hu, kn_app h.kn fun op hop => .inl (hu op hop).1, ov_app h.ov fun op hop => .inl (hu op hop).1, seenT h.seen hl⟩
theorem Tr.appW (A : Apart Sh Own Rd) (h : Tr Sh Own Rd J j B t) {k : Nat} (k1 : J < k) (kj : k <= j) (hu : ∀ op ∈ u, OkW Sh Own Rd k op) (hl : ∀ op ∈ u, lowT B op.act) : Tr Sh Own Rd J j B (t ++ u) :=
 ⟨h.ct.appW A (by omega) kj hu, kn_app h.kn fun op hop => .inr (.inl (by rw [(hu op hop).1]; exact k1)), ov_app h.ov fun op hop => .inr (.inl (by rw [(hu op hop).1]; exact k1)), seenT h.seen hl⟩
theorem Tr.mute (A : Apart Sh Own Rd) (h : Tr Sh Own Rd J j B t) {k : Nat} (k1 : 1 <= k) (kj : k <= j) (hg : ∀ op ∈ u, op.g = k) (hn : ∀ op ∈ u, op.act.touch? = none) : Tr Sh Own Rd J j B (t ++ u) :=
 ⟨h.ct.appW A k1 kj fun op hop => ⟨hg op hop, fun x hx => by rw [hn op hop] at hx; cases hx⟩, kn_app h.kn fun op hop => .inr (.inr (hn op hop)), ov_app h.ov fun op hop => .inr (.inr (hn op hop)), seenT h.seen fun op hop => lowT_none (hn op hop)⟩
theorem Tr.fork (A : Apart Sh Own Rd) (h : Tr Sh Own Rd J j B t) {x y : MemOp} (hx : x.g = 0 /\ x.act = .go (j + 1)) (hy : y.g = j + 1 /\ y.act = .start) (h0 : Deaf t 0 = 0) : Tr Sh Own Rd J (j + 1) B (t ++ #[x, y]) := by
 have hn : ∀ op ∈ #[x, y], op.act.touch? = none := by
   intro op hop
   simp only [List.mem_toArray, List.mem_cons, List.not_mem_nil, or_false] at hop
   rcases hop with rfl | rfl
   · rw [hx.2]; rfl
   · rw [hy.2]; rfl
 exact ⟨h.ct.fork A hx hy h0, kn_app h.kn fun op hop => .inr (.inr (hn op hop)), ov_app h.ov fun op hop => .inr (.inr (hn op hop)), seenT h.seen fun op hop => lowT_none (hn op hop)⟩
structure Rel (Sh : Loc -> Prop) (a : Addr) (t : Trace) (k r : Nat) : Prop where
 by_ : RelBy a t k r
 late : ∀ i x, r < i -> t.g? i = some k -> touchAt t i = some x -> Sh x.loc
theorem Rel.app {a : Addr} {k r : Nat} (h : Rel Sh a t k r) (hr : RelBy a (t ++ u) k r) (hu : ∀ op ∈ u, op.g = k -> ∀ x, op.act.touch? = some x -> Sh x.loc) : Rel Sh a (t ++ u) k r := by
 refine ⟨hr, fun i x hi hg hx => ?_⟩
 obtain ⟨op, ho, hox⟩ := touch_op hx
 rcases getElem?_append_cases ho with ⟨hlt, ho'⟩ | ⟨_, hou⟩
 · exact h.late i x hi (by rw [<- g?_old (u := u) hlt]; exact hg) (by rw [touchAt_of ho']; exact hox)
 · exact hu op hou (by simpa [Trace.g?, ho] using hg) x hox
theorem Tr.back (h : Tr Sh Own Rd J j B t) {a : Addr} {q T0 : Nat} (hn : ∀ i, T0 <= i -> t.act? i ≠ some (.mark (.release a))) (hq : t.act? q = some (.mark (.acquire a))) (hg : t.g? q = some 0) (hh : t.heard q)
   (hr : ∀ k, J < k -> k <= j -> ∃ r, T0 <= r /\ Rel Sh a t k r /\ r < q) : Tr Sh (fun _ _ => False) (fun _ _ => False) j j B t := by
 have edge : ∀ k r, T0 <= r -> Rel Sh a t k r -> r < q -> HappensBefore t r q := fun k r h0 hr hrq => .single (.inr ⟨.marked hrq (.inr hr.by_.act) hq (fun k hk _ => hn k (by omega)), hr.by_.heard, hh⟩)
 obtain ⟨zq, hzq, hzg⟩ : ∃ z, t[q]? = some z /\ z.g = 0 := by
   unfold Trace.g? at hg
   obtain ⟨z, hz, e⟩ := Option.map_eq_some_iff.1 hg
   exact ⟨z, hz, e⟩
 have before : ∀ i k r, T0 <= r -> Rel Sh a t k r -> r < q -> t.g? i = some k -> i <= r -> HappensBefore t i q := by
   intro i k r h0 hr hrq hgi hle
   rcases Nat.lt_or_ge i r with hlt | hge
   · exact .trans (.single (.inl ⟨hlt, k, hgi, hr.by_.g⟩)) (edge k r h0 hr hrq)
   · obtain rfl : i = r := by omega
     exact edge k i h0 hr hrq
 have all : ∀ i x, touchAt t i = some x -> ¬ Sh x.loc -> Knows t 0 i := by
   intro i x hx hs
   obtain ⟨op, ho, hox⟩ := touch_op hx
   have hgi : t.g? i = some op.g := by simp [Trace.g?, ho]
   by_cases h0 : op.g = 0
   · have := knows_own ho; rwa [h0] at this
   · by_cases hJ : op.g <= J
     · exact h.kn i x op.g hgi h0 hJ hx hs
     · obtain ⟨r, h0r, hr, hrq⟩ := hr op.g (by omega) (h.ct.gs i op ho)
       have hle : i <= r := Nat.le_of_not_lt fun hlt => hs (hr.late i x hlt hgi hx)
       exact ⟨q, zq, hzq, hzg, .inr (before i op.g r h0r hr hrq hgi hle)⟩
 refine ⟨⟨h.ct.quiet, fun k _ _ l hl => hl.elim, fun k _ _ l hl => hl.elim, fun l hs _ i x hx e => all i x hx (e ▸ hs), fun l hs _ i x hx e _ => all i x hx (e ▸ hs), h.ct.nr, h.ct.gs⟩, fun i x g _ _ _ hx hs => all i x hx hs, fun i g hgi hne hj hc => ?_, h.seen⟩
 by_cases hJ : g <= J
 · exact h.ov i g hgi hne hJ hc
 · obtain ⟨r, h0r, hr, hrq⟩ := hr g (by omega) hj
   have hle : i <= r := Nat.le_of_not_lt fun hlt => hr.by_.after i hlt hgi hc
   exact ⟨q, hg, before i g r h0r hr hrq hgi hle⟩
theorem Tr.start (h : Tr Sh (fun _ _ => False) (fun _ _ => False) j j B t) : t.HandedOver := fun i g hg hne hc => by
 refine h.ov i g hg hne ?_ hc
 obtain ⟨x, hx, _⟩ := hc
 obtain ⟨op, ho, _⟩ := touch_of hx
 have : op.g = g := by simpa [Trace.g?, ho] using hg
 have := h.ct.gs i op ho
 omega
theorem apart_none : Apart Sh (fun _ _ => False) (fun _ _ => False) := ⟨fun _ _ _ h => h.elim, fun _ _ _ h => h.elim, fun _ _ h => h.elim, fun _ _ h => h.elim⟩
theorem Tr.nil (Sh : Loc -> Prop) (B : Nat) : Tr Sh (fun _ _ => False) (fun _ _ => False) 0 0 B #[] :=
 ⟨⟨fun i op x h => by simp at h, fun _ _ _ _ h => h.elim, fun _ _ _ _ h => h.elim, fun l _ _ i a ha => by simp [touchAt, Trace.act?] at ha, fun l _ _ i a ha => by simp [touchAt, Trace.act?] at ha,
   fun said => by rintro ⟨i, j, _, ⟨a, b, ha, _⟩, _⟩; simp [Trace.act?] at ha, fun i op h => by simp at h⟩, fun i x g hg => by simp [Trace.g?] at hg, fun i g hg => by simp [Trace.g?] at hg, by simp⟩
end
end Crw
end Go.Proofs.YthgelfnflafoiaeGreat
namespace Go.Proofs.YthgelfnflafoiaeGreat
namespace Crw
open Go.Conc Go.ConcN
open Go.ConcR (KK wgBlock WgAt stA smA rd wr mk Payload DC0 deafBehind_cons deafBehind_one)
def ShS (SB : Nat -> Prop) : Loc -> Prop := fun l => ∃ a, l = .cell a /\ SB a.block
def Ends (P : Program) (Post : Value -> World -> Prop) (m : Machine) (t : Trace) : Prop :=
 ∃ N last o w' t', runNT P (N + 1) m t = (.ended o w', t') /\ runN P N m = .next last /\ step P last = .ended o w' /\ Good P Post last o w' t'
theorem Ends.step {P : Program} {Post : Value -> World -> Prop} {m m' : Machine} {t : Trace} {ops : Array MemOp} (hs : stepT P m = (.next m', ops)) (h : Ends P Post m' (t ++ ops)) : Ends P Post m t := by
 obtain ⟨N, last, o, w', t', h1, h2, h3, h4⟩ := h
 refine ⟨N + 1, last, o, w', t', ?_, ?_, h3, h4⟩
 · rw [runNT]; simp only [hs]; exact h1
 · rw [runN]; simp only [Go.step, hs]; exact h2
structure Fr (P : Program) (SB : Nat -> Prop) (gs : Array Goroutine) (q : Nat -> Nat) (w : World) (t : Trace) : Prop where
 lv : ∀ i g, 0 < i -> gs[i]? = some g -> QuitsD P (q i) (Deaf t i) g
 above : ∀ j, gs.size <= j -> Deaf t j = 0
 tr : Tr (ShS SB) (fun _ _ => False) (fun _ _ => False) (gs.size - 1) (gs.size - 1) w.heap.size t
 hears : Deaf t 0 = 0
 sb : ∀ b, SB b -> b < w.heap.size
def EvF (SB : Nat -> Prop) (B : Nat) (e : Event) : Prop := (∀ x, (MemAct.ofEvent e).touch? = some x -> ¬ ShS SB x.loc) /\ e.loc ≠ .mark .disable /\ e.loc ≠ .mark .enable /\ lowT B (MemAct.ofEvent e)
def DF (SB : Nat -> Prop) (w w' : World) (es : Array Event) : Prop := w.heap.size <= w'.heap.size /\ ∀ e ∈ es, EvF SB w'.heap.size e
section
variable {P : Program} {SB : Nat -> Prop} {gs : Array Goroutine} {q : Nat -> Nat} {w w' : World} {t : Trace} {a a' : Goroutine} {sl : Option (Nat × Nat)} {es : Array Event}
theorem ofEvents_g {g : Nat} {fn : FuncId} {pos : String} {es : Array Event} : ∀ op ∈ MemOp.ofEvents g fn pos es, op.g = g := fun op hop => by obtain ⟨e, _, rfl⟩ := Go.Conc.mem_ofEvents hop; rfl
theorem Fr.at (h : Fr P SB gs q w t) (d : Nat) : Fr P SB gs q (w.at d) t := ⟨h.lv, h.above, h.tr, h.hears, h.sb⟩
theorem fr_pick (h0 : gs[0]? = some a) (hr : a.status = .running) (h : Fr P SB gs q w t) (sl : Option (Nat × Nat)) :
   (∃ d sl', stepT P (crowd gs w sl) = runT P (crowd gs (w.at d) sl') 0) \/
   ∃ gs' q' d sl' ops, stepT P (crowd gs w sl) = (.next (crowd gs' (w.at d) sl'), ops) /\ gs'[0]? = some a /\ gs'.size = gs.size /\ Fr P SB gs' q' (w.at d) (t ++ ops) /\ sumTo gs.size q' < sumTo gs.size q := by
 have haw : ∀ g ∈ gs, awake g := by
   intro g hg
   obtain ⟨i, hi, rfl⟩ := Array.mem_iff_getElem.1 hg
   rcases Nat.eq_zero_or_pos i with rfl | hpos
   · have : gs[0] = a := by simpa [Array.getElem?_eq_getElem hi] using h0
     rw [this]; exact awake_of (.inl hr)
   · exact awake_of ((h.lv i _ hpos (Array.getElem?_eq_getElem hi)).status.elim .inl fun x => .inr (.inr x))
 obtain ⟨i, g, d, sl', hi, hg, hst⟩ := crowd_pick (P := P) (w := w) (sl := sl) haw ⟨0, a, h0, hr⟩
 rcases Nat.eq_zero_or_pos i with rfl | hpos
 · exact .inl ⟨d, sl', hst⟩
 · right
   have hq := h.lv i g hpos hi
   have hi0 : (i == 0) = false := by simp; omega
   have hlt : i < gs.size := (Array.getElem?_eq_some_iff.1 hi).1
   cases hqi : q i with
   | zero => rw [hqi] at hq; rw [hq.1] at hg; cases hg
   | succ k =>
     rw [hqi] at hq
     rcases hq with ⟨hf, _⟩ | ⟨_, g', es, hm, hstp, hq'⟩
     · rw [hf] at hg; cases hg
     have hrunT := runT_crowd_go (P := P) (sl := sl') (i := i) hi (by rw [hi0]; exact hstp (w.at d))
     have hsz : ((gs.map (woken P g g' (w.at d))).setIfInBounds i g').size = gs.size := by simp
     have hsum : sumTo gs.size (upd q i k) + (k + 1) = sumTo gs.size q + k := by
       have := sumTo_upd q k id hlt
       simpa [hqi] using this
     have hmem : ∀ op ∈ MemOp.ofEvents i g.frame.fn g.frame.place es, op.act.touch? = none := by
       intro op hop
       obtain ⟨e, he, rfl⟩ := Go.Conc.mem_ofEvents hop
       exact touch_mute (hm e he)
     refine ⟨_, upd q i k, d, sl', _, hst.trans hrunT, ?_, hsz, ⟨fun j x hj hx => ?_, fun j hj => ?_, ?_, ?_, h.sb⟩, by omega⟩
     · have hne : i ≠ 0 := by omega
       rw [Array.getElem?_setIfInBounds_ne hne, Array.getElem?_map, h0]
       simp [woken_run hr]
     · by_cases hji : i = j
       · subst hji
         rw [Array.getElem?_setIfInBounds_self_of_lt (by simpa using hlt)] at hx
         obtain rfl := Option.some.inj hx
         rw [upd_same, Deaf_own]
         exact hq'
       · rw [Array.getElem?_setIfInBounds_ne hji, Array.getElem?_map] at hx
         obtain ⟨y, hy, rfl⟩ := Option.map_eq_some_iff.1 hx
         have hqj := h.lv j y hj hy
         rw [woken_quitsD hqj, upd_ne q k (Ne.symm hji), Deaf_other t hji _ ofEvents_g]
         exact hqj
     · rw [hsz] at hj
       rw [Deaf_other t (g' := i) (by omega) _ ofEvents_g]
       exact h.above j hj
     · rw [hsz]
       exact h.tr.mute apart_none hpos (by omega) ofEvents_g hmem
     · rw [Deaf_other t (g' := i) (by omega) _ ofEvents_g]
       exact h.hears
theorem fr_go (h0 : gs[0]? = some a) (h : Fr P SB gs q w t) (hgo : stepG P true a w = .go a' w' es) (hd : DF SB w w' es) (sl : Option (Nat × Nat)) :
   ∃ gs' ops, runT P (crowd gs w sl) 0 = (.next (crowd gs' w' sl), ops) /\ gs'[0]? = some a' /\ gs'.size = gs.size /\ Fr P SB gs' q w' (t ++ ops) := by
 have hrunT := runT_crowd_go (P := P) (sl := sl) (i := 0) h0 (show stepG P (0 == 0) a w = _ from hgo)
 have hsz : ((gs.map (woken P a a' w')).setIfInBounds 0 a').size = gs.size := by simp
 have hlt : 0 < gs.size := (Array.getElem?_eq_some_iff.1 h0).1
 refine ⟨_, _, hrunT, by simp [hlt], hsz, ⟨fun j x hj hx => ?_, fun j hj => ?_, ?_, ?_, fun b hb => Nat.lt_of_lt_of_le (h.sb b hb) hd.1⟩⟩
 · have hne : 0 ≠ j := by omega
   rw [Array.getElem?_setIfInBounds_ne hne, Array.getElem?_map] at hx
   obtain ⟨y, hy, rfl⟩ := Option.map_eq_some_iff.1 hx
   have hqj := h.lv j y hj hy
   rw [woken_quitsD hqj, Deaf_other t (by omega) _ ofEvents_g]
   exact hqj
 · rw [hsz] at hj
   rw [Deaf_other t (g' := 0) (by omega) _ ofEvents_g]
   exact h.above j hj
 · rw [hsz]
   refine (h.tr.mono hd.1).app0 apart_none (fun op hop => ?_) (fun op hop => ?_)
   · obtain ⟨e, he, rfl⟩ := Go.Conc.mem_ofEvents hop
     exact ⟨rfl, fun x hx => .inr ⟨(hd.2 e he).1 x hx, fun _ _ _ hf => hf, fun _ _ _ _ hf => hf⟩⟩
   · obtain ⟨e, he, rfl⟩ := Go.Conc.mem_ofEvents hop
     exact (hd.2 e he).2.2.2
 · rw [Deaf_own, deafBehind_still (fun e he => ⟨(hd.2 e he).2.1, (hd.2 e he).2.2.1⟩)]
   exact h.hears
theorem step_fr {Post : Value -> World -> Prop} (hr : a.status = .running)
   (hstep : ∀ d, ∃ a' w' es, stepG P true a (w.at d) = .go a' w' es /\ DF SB (w.at d) w' es /\
     ∀ gs' q' sl' t', gs'[0]? = some a' -> gs'.size = gs.size -> Fr P SB gs' q' w' t' -> Ends P Post (crowd gs' w' sl') t') :
   ∀ (M : Nat) (gs1 : Array Goroutine) (q : Nat -> Nat) (d : Nat) (sl : Option (Nat × Nat)) (t : Trace), sumTo gs1.size q <= M -> gs1[0]? = some a -> gs1.size = gs.size -> Fr P SB gs1 q (w.at d) t -> Ends P Post (crowd gs1 (w.at d) sl) t := by
 intro M
 induction M with
 | zero =>
   intro gs1 q d sl t hM h0 hsz h
   rcases fr_pick h0 hr h sl with ⟨d', sl', hst⟩ | ⟨gs', q', d', sl', ops, _, _, _, _, hlt⟩
   · obtain ⟨a', w', es, hgo, hd, hk⟩ := hstep d'
     obtain ⟨gs', ops, hrun, h0', hs', hF'⟩ := fr_go h0 (h.at d') hgo hd sl'
     exact .step (hst.trans hrun) (hk gs' q sl' _ h0' (hs'.trans hsz) hF')
   · omega
 | succ M ih =>
   intro gs1 q d sl t hM h0 hsz h
   rcases fr_pick h0 hr h sl with ⟨d', sl', hst⟩ | ⟨gs', q', d', sl', ops, hst, h0', hs', hF', hlt⟩
   · obtain ⟨a', w', es, hgo, hd, hk⟩ := hstep d'
     obtain ⟨gs', ops, hrun, h0', hs', hF'⟩ := fr_go h0 (h.at d') hgo hd sl'
     exact .step (hst.trans hrun) (hk gs' q sl' _ h0' (hs'.trans hsz) hF')
   · exact .step hst (ih gs' q' d' sl' _ (by rw [hs']; omega) h0' (hs'.trans hsz) hF')
theorem walk_fr {Post : Value -> World -> Prop} {Stop : Goroutine -> World -> Prop} : ∀ (n : Nat) (gs : Array Goroutine) (a : Goroutine) (q : Nat -> Nat) (w : World) (sl : Option (Nat × Nat)) (t : Trace),
   gs[0]? = some a -> Fr P SB gs q w t -> Goes P true AtRel (DF SB) Stop n a w ->
   (∀ gs' a' q' w' sl' t', gs'[0]? = some a' -> gs'.size = gs.size -> Fr P SB gs' q' w' t' -> Stop a' w' -> Ends P Post (crowd gs' w' sl') t') -> Ends P Post (crowd gs w sl) t := by
 intro n
 induction n with
 | zero => exact fun gs a q w sl t h0 hF hG hk => hk gs a q w sl t h0 rfl hF (hG w (atRel_refl w))
 | succ n ih =>
   intro gs a q w sl t h0 hF hG hk
   rcases hG with hstop | ⟨hr, hstep⟩
   · exact hk gs a q w sl t h0 rfl hF (hstop w (atRel_refl w))
   · refine step_fr (w := w) (gs := gs) hr (fun d => ?_) (sumTo gs.size q) gs q w.drawn sl t (Nat.le_refl _) h0 rfl hF
     have hs := hstep (w.at d) ⟨d, rfl⟩
     cases hgo : stepG P true a (w.at d) with
     | go a' w' es =>
       rw [hgo, goes_go] at hs
       exact ⟨a', w', es, rfl, hs.1, fun gs' q' sl' t' h0' hs' hF' => ih gs' a' q' w' sl' t' h0' hF' hs.2 fun gs2 a2 q2 w2 sl2 t2 x1 x2 x3 x4 => hk gs2 a2 q2 w2 sl2 t2 x1 (x2.trans hs') x3 x4⟩
     | _ => rw [hgo] at hs; exact hs.elim
end
theorem fr_first (P : Program) (a : Goroutine) (w : World) : Fr P (fun _ => False) #[a] (fun _ => 0) w #[] :=
 ⟨fun i g hi hg => by
   have : i < 1 := by simpa using (Array.getElem?_eq_some_iff.1 hg).1
   omega, fun _ _ => rfl, Tr.nil _ _, rfl, fun _ h => h.elim⟩
end Crw
end Go.Proofs.YthgelfnflafoiaeGreat
namespace Go.Proofs.YthgelfnflafoiaeGreat
namespace Crw
open Go.Conc Go.ConcN
open Go.ConcR (KK wgBlock WgAt stA smA rd wr mk Payload DC0 Bk g_of_ofEvents again_blocked)
def blkOf : Loc -> Option Nat
 | .cell a => some a.block
 | .obj r => some r
 | _ => none
def noP : Nat -> Loc -> Prop := fun _ _ => False
section
variable [Payload]
structure Stay (Wg C Low : Nat) (O : Nat -> Prop) (w w₁ : World) : Prop where
 low : ∀ b, b < Low -> b ≠ Wg -> b ≠ C -> w₁.heap[b]? = w.heap[b]?
 own : ∀ b, O b -> w₁.heap[b]? = w.heap[b]?
 size : w.heap.size <= w₁.heap.size
def grown (O : Nat -> Prop) (w w' : World) : Nat -> Prop := fun b => O b \/ (w.heap.size <= b /\ b < w'.heap.size)
structure WEff (C n i : Nat) (O : Nat -> Prop) (w w' : World) : Prop where
 out : w'.os = w.os /\ w'.output = w.output /\ w'.tape = w.tape
 size : w.heap.size <= w'.heap.size
 same : ∀ b, b < w.heap.size -> b ≠ C -> ¬ O b -> w'.heap[b]? = w.heap[b]?
 pay : PayAt C n w -> PayAt C n w'
 cells : ∀ i', i' ≠ i -> w'.cell? ⟨C, i', none⟩ = w.cell? ⟨C, i', none⟩
structure EvO (SB : Nat -> Prop) (Wg C Low i B : Nat) (O : Nat -> Prop) (e : Event) : Prop where
 tch : ∀ x, (MemAct.ofEvent e).touch? = some x -> (∃ b, blkOf x.loc = some b /\ O b) \/ x.loc = .cell ⟨C, i, none⟩ \/ (x.write = false /\ ∃ b, blkOf x.loc = some b /\ b < Low /\ b ≠ C /\ ¬ SB b)
 dis : e.loc ≠ .mark .disable
 en : e.loc ≠ .mark .enable
 rel : e.loc ≠ .mark (.release (stA Wg))
 low : lowT B (MemAct.ofEvent e)
structure WSpec (P : Program) (SB : Nat -> Prop) (ty : TypeId) (Wg C n Low : Nat) where
 X : Type
 lt : X -> X -> Prop
 Sit : Nat -> X -> Goroutine -> World -> (Nat -> Prop) -> Prop
 Fin : Nat -> Value -> World -> (Nat -> Prop) -> Prop
 acc : ∀ {i x g w O}, Sit i x g w O -> Acc lt x
 run : ∀ {i x g w O}, Sit i x g w O -> g.status = .running
 stay : ∀ {i x g w w₁ O}, Sit i x g w O -> Stay Wg C Low O w w₁ -> RW ty Wg C n Low i w w₁ -> Sit i x g w₁ O
 fins : ∀ {i v w w₁ O}, Fin i v w O -> Stay Wg C Low O w w₁ -> Fin i v w₁ O
 go : ∀ {i x g w O}, Sit i x g w O -> WgLive ty Wg w -> PayAt C n w -> i < n -> Low <= w.heap.size -> (∀ b, O b -> Low <= b /\ b < w.heap.size) -> ∃ g' w' es, stepG P false g w = .go g' w' es /\ WEff C n i O w w' /\ (∀ e ∈ es, EvO SB Wg C Low i w'.heap.size (grown O w w') e) /\
   ((∃ x', lt x' x /\ Sit i x' g' w' (grown O w w')) \/
     ∃ v m, Fin i v w' (grown O w w') /\ Goes P false (RW ty Wg C n Low i) (DWs Wg noP noP C n (i + 1)) (AtR0 P ty Wg C n Low (i + 1) v) m g' w')
 oext : ∀ {i x g w O O'}, Sit i x g w O -> (∀ b, O b ↔ O' b) -> Sit i x g w O'
 fext : ∀ {i v w O O'}, Fin i v w O -> (∀ b, O b ↔ O' b) -> Fin i v w O'
def R0 (ty : TypeId) (Wg : Nat) (w w₁ : World) : Prop := WgLive ty Wg w -> WgLive ty Wg w₁
def Ev1 (Wg : Nat) (e : Event) : Prop :=
 (∀ x, (MemAct.ofEvent e).touch? = some x -> (∃ a, x.loc = .cell a /\ a.block = Wg) /\ x.kind ≠ .plain) /\ e.loc ≠ .mark .disable /\ e.loc ≠ .mark .enable /\ e.loc ≠ .mark (.release (stA Wg))
def D0 (Wg : Nat) (w w' : World) (es : Array Event) : Prop := w' = w /\ ∀ e ∈ es, Ev1 Wg e
end
section
theorem R0.refl (ty : TypeId) (Wg : Nat) (w : World) : R0 ty Wg w w := id
end
section
variable [Payload]
end
section
theorem R0.tr (ty : TypeId) (Wg : Nat) : ∀ a b c, R0 ty Wg a b -> R0 ty Wg b c -> R0 ty Wg a c := fun _ _ _ h h' => h' ∘ h
end
section
variable [Payload]
section
variable (P : Program) (ty : TypeId) (Wg n : Nat) (AnchW : Goroutine -> World -> Prop) (Out : Goroutine -> Prop)
def AtAcq (g : Goroutine) (w : World) : Prop := g.status = .running /\ ∃ g', stepG P true g w = .go g' w #[mk (.acquire (stA Wg))] /\ Out g'
def AtKe (g : Goroutine) (w : World) : Prop := g.status = .running /\ ∃ g', stepG P true g w = .go g' w #[mk .enable] /\ ∃ m, (Goes P true (R0 ty Wg) (D0 Wg)) (AtAcq P Wg Out) m g' w
def AtW4 (g : Goroutine) (w : World) : Prop := g.status = .running /\ (WgAt ty Wg w 0 0 -> ∃ g', stepG P true g w = .go g' w #[rd (stA Wg)] /\ ∃ m, (Goes P true (R0 ty Wg) (D0 Wg)) (AtKe P ty Wg Out) m g' w)
def AtW3 (g : Goroutine) (w : World) : Prop :=
 g.status = .running /\ g.offers = none /\ ((∃ st, WgAt ty Wg w st 0) -> stepG P true g w = .go { g with status := .blocked } w #[]) /\
   (WgAt ty Wg w 0 1 -> ∃ g', stepG P true g w = .go g' (w.setCell (smA Wg) (.int .u32 0)) (semEvents (smA Wg)) /\ ∃ m, (Goes P true (R0 ty Wg) (D0 Wg)) (AtW4 P ty Wg Out) m g' (w.setCell (smA Wg) (.int .u32 0)))
def AtW2 (vs : Nat) (g : Goroutine) (w : World) : Prop :=
 g.status = .running /\ ∀ v : Nat, v < 2147483648 -> WgAt ty Wg w (v * KK) 0 ->
   (v = vs -> ∃ g', stepG P true g w = .go g' (w.setCell (stA Wg) (.int .u64 (v * KK + 1))) #[rd (stA Wg), wr (stA Wg)] /\ ∃ m, (Goes P true (R0 ty Wg) (D0 Wg)) (AtW3 P ty Wg Out) m g' (w.setCell (stA Wg) (.int .u64 (v * KK + 1)))) /\
   (v ≠ vs -> ∃ g', stepG P true g w = .go g' w #[rd (stA Wg)] /\ ∃ m, (Goes P true (R0 ty Wg) (D0 Wg)) AnchW m g' w)
def AtW1 (g : Goroutine) (w : World) : Prop :=
 g.status = .running /\ ∀ v : Nat, v < 2147483648 -> WgAt ty Wg w (v * KK) 0 -> ∃ g', stepG P true g w = .go g' w #[rd (stA Wg)] /\
   (v = 0 -> ∃ m, (Goes P true (R0 ty Wg) (D0 Wg)) (AtKe P ty Wg Out) m g' w) /\ (v ≠ 0 -> ∃ m, (Goes P true (R0 ty Wg) (D0 Wg)) (AtW2 P ty Wg AnchW Out v) m g' w)
def AtKd (g : Goroutine) (w : World) : Prop := g.status = .running /\ ∃ g', stepG P true g w = .go g' w #[mk .disable] /\ ∃ m, (Goes P true (R0 ty Wg) (D0 Wg)) AnchW m g' w
variable {SB : Nat -> Prop} {C Low : Nat} (W : WSpec P SB ty Wg C n Low) (w0 : World) (o0 : Obj) (o1 : Nat -> Obj) (v1 : Nat -> Value)
def AtGoS (j : Nat) (Next : Goroutine -> World -> Prop) (nb : Nat) (g : Goroutine) (w : World) : Prop :=
 g.status = .running /\ ∃ g' child, stepG P true g w = .spawn g' child w #[] /\ Next g' w /\
   (w.heap[nb]? = some (o1 j) -> (∀ b, b < Low -> b ≠ Wg -> b ≠ C -> w.heap[b]? = w0.heap[b]?) -> PayAt C n w -> WgLive ty Wg w -> ∃ x, W.Sit j x child w (fun b => b = nb))
def AtKeS (j : Nat) (Next : Goroutine -> World -> Prop) (nb : Nat) (g : Goroutine) (w : World) : Prop :=
 g.status = .running /\ ∃ g', stepG P true g w = .go g' w #[mk .enable] /\ ∃ m, (Goes P true (R0 ty Wg) (D0 Wg)) (AtGoS P ty Wg n W w0 o1 j Next nb) m g' w
def AtA1 (j : Nat) (Next : Goroutine -> World -> Prop) (nb : Nat) (g : Goroutine) (w : World) : Prop :=
 g.status = .running /\ ∀ v : Nat, v < 2147483647 -> WgAt ty Wg w (v * KK) 0 ->
   ∃ g', stepG P true g w = .go g' (w.setCell (stA Wg) (.int .u64 ((v + 1) * KK))) #[rd (stA Wg), wr (stA Wg)] /\ ∃ m, (Goes P true (R0 ty Wg) (D0 Wg)) (AtKeS P ty Wg n W w0 o1 j Next nb) m g' (w.setCell (stA Wg) (.int .u64 ((v + 1) * KK)))
def AtKdS (j : Nat) (Next : Goroutine -> World -> Prop) (nb : Nat) (g : Goroutine) (w : World) : Prop :=
 g.status = .running /\ ∃ g', stepG P true g w = .go g' w #[mk .disable] /\ ∃ m, (Goes P true (R0 ty Wg) (D0 Wg)) (AtA1 P ty Wg n W w0 o1 j Next nb) m g' w
def AtPut (j : Nat) (Next : Goroutine -> World -> Prop) (nb : Nat) (g : Goroutine) (w : World) : Prop :=
 g.status = .running /\ (w.heap[nb]? = some o0 -> ∃ g', stepG P true g w = .go g' (w.setCell ⟨nb, 0, none⟩ (v1 j)) #[⟨.cell ⟨nb, 0, none⟩, true, false⟩] /\ (w.setCell ⟨nb, 0, none⟩ (v1 j)).heap[nb]? = some (o1 j) /\ ∃ m, (Goes P true (R0 ty Wg) (D0 Wg)) (AtKdS P ty Wg n W w0 o1 j Next nb) m g' (w.setCell ⟨nb, 0, none⟩ (v1 j)))
def AtNew (j : Nat) (Next : Goroutine -> World -> Prop) (g : Goroutine) (w : World) : Prop :=
 g.status = .running /\ ∃ g', stepG P true g w = .go g' { w with heap := w.heap.push o0 } #[] /\ ∃ m, (Goes P true (R0 ty Wg) (D0 Wg)) (AtPut P ty Wg n W w0 o0 o1 v1 j Next w.heap.size) m g' { w with heap := w.heap.push o0 }
def Spawns : Nat -> Goroutine -> World -> Prop
 | 0, g, w => ∃ m, (Goes P true (R0 ty Wg) (D0 Wg)) (AtKd P ty Wg AnchW) m g w
 | r + 1, g, w => ∃ m, (Goes P true (R0 ty Wg) (D0 Wg)) (AtNew P ty Wg n W w0 o0 o1 v1 (n - (r + 1)) (Spawns r)) m g w
inductive CS : CTag -> Nat -> Nat -> Nat -> Option (Nat × Obj) -> Goroutine -> World -> Prop
 | snew {r m : Nat} {g : Goroutine} {w : World} : r < n -> (Goes P true (R0 ty Wg) (D0 Wg)) (AtNew P ty Wg n W w0 o0 o1 v1 (n - (r + 1)) ((Spawns P ty Wg n AnchW W w0 o0 o1 v1 r))) m g w -> CS (.sp r 7) (n - (r + 1)) m 0 none g w
 | sput {r m nb : Nat} {g : Goroutine} {w : World} : r < n -> (Goes P true (R0 ty Wg) (D0 Wg)) (AtPut P ty Wg n W w0 o0 o1 v1 (n - (r + 1)) ((Spawns P ty Wg n AnchW W w0 o0 o1 v1 r)) nb) m g w -> CS (.sp r 6) (n - (r + 1)) m 0 (some (nb, o0)) g w
 | skd {r m nb : Nat} {g : Goroutine} {w : World} : r < n -> (Goes P true (R0 ty Wg) (D0 Wg)) (AtKdS P ty Wg n W w0 o1 (n - (r + 1)) ((Spawns P ty Wg n AnchW W w0 o0 o1 v1 r)) nb) m g w -> CS (.sp r 5) (n - (r + 1)) m 0 (some (nb, o1 (n - (r + 1)))) g w
 | sa1 {r m nb : Nat} {g : Goroutine} {w : World} : r < n -> (Goes P true (R0 ty Wg) (D0 Wg)) (AtA1 P ty Wg n W w0 o1 (n - (r + 1)) ((Spawns P ty Wg n AnchW W w0 o0 o1 v1 r)) nb) m g w -> CS (.sp r 4) (n - (r + 1)) m 1 (some (nb, o1 (n - (r + 1)))) g w
 | ske {r m nb : Nat} {g : Goroutine} {w : World} : r < n -> (Goes P true (R0 ty Wg) (D0 Wg)) (AtKeS P ty Wg n W w0 o1 (n - (r + 1)) ((Spawns P ty Wg n AnchW W w0 o0 o1 v1 r)) nb) m g w -> CS (.sp r 3) (n - (r + 1)) m 1 (some (nb, o1 (n - (r + 1)))) g w
 | sgo {r m nb : Nat} {g : Goroutine} {w : World} : r < n -> (Goes P true (R0 ty Wg) (D0 Wg)) (AtGoS P ty Wg n W w0 o1 (n - (r + 1)) ((Spawns P ty Wg n AnchW W w0 o0 o1 v1 r)) nb) m g w -> CS (.sp r 2) (n - (r + 1)) m 0 (some (nb, o1 (n - (r + 1)))) g w
 | kd {m : Nat} {g : Goroutine} {w : World} : (Goes P true (R0 ty Wg) (D0 Wg)) (AtKd P ty Wg AnchW) m g w -> CS .kd n m 0 none g w
 | anch {m : Nat} {g : Goroutine} {w : World} : (Goes P true (R0 ty Wg) (D0 Wg)) AnchW m g w -> CS .anch n m 1 none g w
 | w1 {m : Nat} {g : Goroutine} {w : World} : (Goes P true (R0 ty Wg) (D0 Wg)) (AtW1 P ty Wg AnchW Out) m g w -> CS .w1 n m 1 none g w
 | w2 {vs m : Nat} {g : Goroutine} {w : World} : (Goes P true (R0 ty Wg) (D0 Wg)) (AtW2 P ty Wg AnchW Out vs) m g w -> CS (.w2 vs) n m 1 none g w
 | w3 {m : Nat} {g : Goroutine} {w : World} : (Goes P true (R0 ty Wg) (D0 Wg)) (AtW3 P ty Wg Out) m g w -> CS .w3 n (m + 1) 1 none g w
 | blk {g : Goroutine} {w : World} : (∀ w₁, R0 ty Wg w w₁ -> AtW3 P ty Wg Out g w₁) -> CS .blk n 0 1 none { g with status := .blocked } w
 | w4 {m : Nat} {g : Goroutine} {w : World} : (Goes P true (R0 ty Wg) (D0 Wg)) (AtW4 P ty Wg Out) m g w -> CS .w4 n m 1 none g w
 | ke {m : Nat} {g : Goroutine} {w : World} : (Goes P true (R0 ty Wg) (D0 Wg)) (AtKe P ty Wg Out) m g w -> CS .ke n m 1 none g w
 | acq {m : Nat} {g : Goroutine} {w : World} : (Goes P true (R0 ty Wg) (D0 Wg)) (AtAcq P Wg Out) m g w -> CS .acq n m 0 none g w
end
section
variable {P : Program} {ty : TypeId} {Wg n : Nat} {AnchW : Goroutine -> World -> Prop} {Out : Goroutine -> Prop} {SB : Nat -> Prop} {C Low : Nat} {W : WSpec P SB ty Wg C n Low} {w0 : World} {o0 : Obj} {o1 : Nat -> Obj} {v1 : Nat -> Value}
 {tag : CTag} {j f d : Nat} {nbo : Option (Nat × Obj)} {a : Goroutine} {w w' : World}
theorem CS.rely (h : CS P ty Wg n AnchW Out W w0 o0 o1 v1 tag j f d nbo a w) (hr : R0 ty Wg w w') : CS P ty Wg n AnchW Out W w0 o0 o1 v1 tag j f d nbo a w' := by
 cases h with
 | snew hn h => exact .snew hn (Goes.rely (R0.tr _ _) h hr)
 | sput hn h => exact .sput hn (Goes.rely (R0.tr _ _) h hr)
 | skd hn h => exact .skd hn (Goes.rely (R0.tr _ _) h hr)
 | sa1 hn h => exact .sa1 hn (Goes.rely (R0.tr _ _) h hr)
 | ske hn h => exact .ske hn (Goes.rely (R0.tr _ _) h hr)
 | sgo hn h => exact .sgo hn (Goes.rely (R0.tr _ _) h hr)
 | kd h => exact .kd (Goes.rely (R0.tr _ _) h hr)
 | anch h => exact .anch (Goes.rely (R0.tr _ _) h hr)
 | w1 h => exact .w1 (Goes.rely (R0.tr _ _) h hr)
 | w2 h => exact .w2 (Goes.rely (R0.tr _ _) h hr)
 | w3 h => exact .w3 (Goes.rely (R0.tr _ _) h hr)
 | blk h => exact .blk (fun w₂ h₂ => h w₂ (h₂ ∘ hr))
 | w4 h => exact .w4 (Goes.rely (R0.tr _ _) h hr)
 | ke h => exact .ke (Goes.rely (R0.tr _ _) h hr)
 | acq h => exact .acq (Goes.rely (R0.tr _ _) h hr)
theorem CS.status (hAr : ∀ g w, AnchW g w -> g.status = .running) (h : CS P ty Wg n AnchW Out W w0 o0 o1 v1 tag j f d nbo a w) : (a.status = .running /\ tag ≠ .blk) \/ (a.status = .blocked /\ tag = .blk) := by
 have run : ∀ {Stop : Goroutine -> World -> Prop} {m : Nat} {g : Goroutine}, (∀ g w, Stop g w -> g.status = .running) -> Goes P true (R0 ty Wg) (D0 Wg) Stop m g w -> g.status = .running := fun hs h => Goes.running hs w (R0.refl ty Wg w) h
 cases h with
 | snew _ h => exact .inl ⟨run (fun _ _ x => x.1) h, by simp⟩
 | sput _ h => exact .inl ⟨run (fun _ _ x => x.1) h, by simp⟩
 | skd _ h => exact .inl ⟨run (fun _ _ x => x.1) h, by simp⟩
 | sa1 _ h => exact .inl ⟨run (fun _ _ x => x.1) h, by simp⟩
 | ske _ h => exact .inl ⟨run (fun _ _ x => x.1) h, by simp⟩
 | sgo _ h => exact .inl ⟨run (fun _ _ x => x.1) h, by simp⟩
 | kd h => exact .inl ⟨run (fun _ _ x => x.1) h, by simp⟩
 | anch h => exact .inl ⟨run hAr h, by simp⟩
 | w1 h => exact .inl ⟨run (fun _ _ x => x.1) h, by simp⟩
 | w2 h => exact .inl ⟨run (fun _ _ x => x.1) h, by simp⟩
 | w3 h => exact .inl ⟨run (fun _ _ x => x.1) h, by simp⟩
 | blk h => exact .inr ⟨rfl, rfl⟩
 | w4 h => exact .inl ⟨run (fun _ _ x => x.1) h, by simp⟩
 | ke h => exact .inl ⟨run (fun _ _ x => x.1) h, by simp⟩
 | acq h => exact .inl ⟨run (fun _ _ x => x.1) h, by simp⟩
theorem CS.bound (h : CS P ty Wg n AnchW Out W w0 o0 o1 v1 tag j f d nbo a w) : j + pend tag <= n := by
 cases h <;> simp only [pend] <;> (try simp) <;> omega
theorem CS.wokenBy (hAr : ∀ g w, AnchW g w -> g.status = .running) (h : CS P ty Wg n AnchW Out W w0 o0 o1 v1 tag j f d nbo a w) (hr : R0 ty Wg w w') (g g' : Goroutine) :
   ∃ tag' f', CS P ty Wg n AnchW Out W w0 o0 o1 v1 tag' j f' d nbo (woken P g g' w' a) w' /\ f' <= f + 1 /\ (tag' = tag \/ (tag = .blk /\ tag' = .w3)) /\ (mayWake P g = true -> g'.status = .running -> tag' ≠ .blk) := by
 have h' := h.rely hr
 unfold Go.Conc.woken
 split
 · rcases h'.status hAr with ⟨hs, hne⟩ | ⟨_, rfl⟩
   · exact ⟨tag, f, by rw [again_running _ (.inl hs)]; exact h', by omega, .inl rfl, fun _ _ => hne⟩
   · cases h' with
     | blk hb =>
       have h3 := hb w' (R0.refl ty Wg w')
       exact ⟨.w3, 0 + 1, by rw [again_blocked h3.1 h3.2.1]; exact .w3 (Goes.stop hb), by omega, .inr ⟨rfl, rfl⟩, fun _ _ => by simp⟩
 · rename_i hc
   exact ⟨tag, f, h', by omega, .inl rfl, fun h1 h2 => absurd (by simp [h1, h2]) hc⟩
end
end
end Crw
end Go.Proofs.YthgelfnflafoiaeGreat
namespace Go.Proofs.YthgelfnflafoiaeGreat
namespace Crw
open Go.Conc Go.ConcN
open Go.ConcR (KK wgBlock WgAt stA smA rd wr mk Payload DC0 Bk g_of_ofEvents again_blocked)
def OwnF (base C n : Nat) (own : Nat -> Nat) (k : Nat) (l : Loc) : Prop := (base < k /\ ∃ b, blkOf l = some b /\ own b = k) \/ (base < k /\ k <= base + n /\ l = .cell ⟨C, k - base - 1, none⟩)
def RdF (base Low C : Nat) (SB : Nat -> Prop) (k : Nat) (l : Loc) : Prop := base < k /\ ∃ b, blkOf l = some b /\ b < Low /\ b ≠ C /\ ¬ SB b
theorem norel_app {t u : Trace} {T0 : Nat} {a : Addr} (h : ∀ i, T0 <= i -> t.act? i ≠ some (.mark (.release a))) (hu : ∀ op ∈ u, op.act ≠ .mark (.release a)) : ∀ i, T0 <= i -> (t ++ u).act? i ≠ some (.mark (.release a)) := by
 intro i hi e
 obtain ⟨op, ho, hoa⟩ := Option.map_eq_some_iff.1 e
 rcases getElem?_append_cases ho with ⟨_, ho'⟩ | ⟨_, hou⟩
 · exact h i hi (by rw [act?_of ho', hoa])
 · exact hu op hou hoa
theorem tsz_app {t u : Trace} {T0 : Nat} (h : T0 <= t.size) : T0 <= (t ++ u).size := by simp; omega
structure Geom (SB : Nat -> Prop) (Wg C Low n : Nat) : Prop where
 hW : Wg < Low
 hC : C < Low
 hCW : C ≠ Wg
 sbW : SB Wg
 sbC : ¬ SB C
 sbL : ∀ b, SB b -> b < Low
 hn : n < 2147483648
theorem apartF {SB : Nat -> Prop} {Wg C Low n base : Nat} {own : Nat -> Nat} (G : Geom SB Wg C Low n) (h0 : ∀ b, b < Low -> own b = 0) : Apart (ShS SB) (OwnF base C n own) (RdF base Low C SB) := by
 refine ⟨fun k k' l h h' => ?_, fun k k' l h h' => ?_, fun k l h hs => ?_, fun k l h hs => ?_⟩
 · rcases h with ⟨h1, b, h2, h3⟩ | ⟨h1, h2, rfl⟩ <;> rcases h' with ⟨k1, b', k2, k3⟩ | ⟨k1, k2, k3⟩
   · rw [h2] at k2; cases k2; omega
   · subst k3; simp only [blkOf, Option.some.injEq] at h2; subst h2; have := h0 _ G.hC; omega
   · simp only [blkOf, Option.some.injEq] at k2; subst k2; have := h0 _ G.hC; omega
   · simp only [Loc.cell.injEq, Addr.mk.injEq, true_and, and_true] at k3; omega
 · obtain ⟨k1, b', k2, k3, k4, k5⟩ := h'
   rcases h with ⟨h1, b, h2, h3⟩ | ⟨h1, h2, rfl⟩
   · rw [h2] at k2; cases k2; have := h0 _ k3; omega
   · simp only [blkOf, Option.some.injEq] at k2; omega
 · obtain ⟨a, rfl, ha⟩ := hs
   rcases h with ⟨h1, b, h2, h3⟩ | ⟨h1, h2, h3⟩
   · simp only [blkOf, Option.some.injEq] at h2; subst h2; have := h0 _ (G.sbL _ ha); omega
   · cases h3; exact G.sbC ha
 · obtain ⟨a, rfl, ha⟩ := hs
   obtain ⟨k1, b', k2, k3, k4, k5⟩ := h
   simp only [blkOf, Option.some.injEq] at k2; subst k2; exact k5 ha
theorem Stay.at {Wg C Low : Nat} (O : Nat -> Prop) (w : World) (d : Nat) : Stay Wg C Low O w (w.at d) := ⟨fun _ _ _ _ => rfl, fun _ _ => rfl, Nat.le_refl _⟩
section
variable [Payload]
inductive Stt (X : Type) where
 | at_ (x : X)
 | done (v : Value)
def Stt.lt {X : Type} (r : X -> X -> Prop) : Stt X -> Stt X -> Prop
 | .at_ x', .at_ x => r x' x
 | .done _, .at_ _ => True
 | _, _ => False
section
variable (P : Program) {SB : Nat -> Prop} (ty : TypeId) (Wg : Nat) {C n Low : Nat} (W : WSpec P SB ty Wg C n Low)
inductive WS (i : Nat) (d : WD) : Stt W.X -> Goroutine -> World -> (Nat -> Prop) -> Prop
 | work {x : W.X} {g : Goroutine} {w : World} {O : Nat -> Prop} : d.stage = 7 -> d.deaf = 0 -> W.Sit i x g w O -> WS i d (.at_ x) g w O
 | done {v : Value} {g : Goroutine} {w : World} {O : Nat -> Prop} : WSit P ty Wg C n noP noP Low (i + 1) v d.stage d.fuel d.deaf g w -> WS i d (.done v) g w O
variable (base T0 : Nat) (w0 : World)
structure PI (gs : Array Goroutine) (w : World) (t : Trace) (own : Nat -> Nat) (j : Nat) (D : Nat -> WD) (Y : Nat -> Stt W.X) (q : Nat -> Nat) (d0 : Nat) (nbo : Option (Nat × Obj)) : Prop where
 size : gs.size = base + 1 + j
 lv : ∀ i g, 0 < i -> i <= base -> gs[i]? = some g -> QuitsD P (q i) (Deaf t i) g
 above : ∀ k, gs.size <= k -> Deaf t k = 0
 wk : ∀ i, i < j -> ∃ g, gs[base + 1 + i]? = some g /\ WS P ty Wg W i (D i) (Y i) g w (fun b => own b = base + 1 + i)
 fin : ∀ i v, i < j -> Y i = .done v -> W.Fin i v w (fun b => own b = base + 1 + i) /\ ((D i).stage <= 6 -> Has C i v w)
 tr : Tr (ShS SB) (OwnF base C n own) (RdF base Low C SB) base (base + j) w.heap.size t
 norel : ∀ i, T0 <= i -> t.act? i ≠ some (.mark (.release (stA Wg)))
 tsz : T0 <= t.size
 deaf0 : Deaf t 0 = d0
 deafW : ∀ i, i < j -> Deaf t (base + 1 + i) = (D i).deaf
 rel : ∀ i, i < j -> (D i).stage <= 6 -> ∃ r, T0 <= r /\ Rel (ShS SB) (stA Wg) t (base + 1 + i) r
 own0 : ∀ b, b < Low -> own b = 0
 ownR : ∀ b, own b ≠ 0 -> b < w.heap.size /\ base < own b /\ own b <= base + j
 lo : Low <= w.heap.size
 old : ∀ b, b < Low -> b ≠ Wg -> b ≠ C -> w.heap[b]? = w0.heap[b]?
 pay : PayAt C n w
 nb : ∀ b o, nbo = some (b, o) -> Low <= b /\ b < w.heap.size /\ own b = 0 /\ w.heap[b]? = some o
 out : w.os = w0.os /\ w.output = w0.output /\ w.tape = w0.tape
end
section
variable {P : Program} {SB : Nat -> Prop} {ty : TypeId} {Wg C n Low : Nat} {W : WSpec P SB ty Wg C n Low} {base T0 : Nat} {w0 : World}
 {gs : Array Goroutine} {w w' : World} {t : Trace} {own : Nat -> Nat} {j : Nat} {D : Nat -> WD} {Y : Nat -> Stt W.X} {q : Nat -> Nat} {d0 : Nat} {nbo : Option (Nat × Obj)} {fn : FuncId} {pos : String} {es : Array Event}
theorem WS.stay {i : Nat} {d : WD} {y : Stt W.X} {g : Goroutine} {O : Nat -> Prop} (h : WS P ty Wg W i d y g w O) (hs : Stay Wg C Low O w w') (hr : RW ty Wg C n Low i w w') : WS P ty Wg W i d y g w' O := by
 cases h with
 | work h1 h2 h3 => exact .work h1 h2 (W.stay h3 hs hr)
 | done h1 => exact .done (h1.rely hr)
theorem WS.status {i : Nat} {d : WD} {y : Stt W.X} {g : Goroutine} {O : Nat -> Prop} (h : WS P ty Wg W i d y g w O) : g.status = .running \/ g.status = .finished := by
 cases h with
 | work h1 h2 h3 => exact .inl (W.run h3)
 | done h1 => exact h1.status
theorem WS.woken {i : Nat} {d : WD} {y : Stt W.X} {g : Goroutine} {O : Nat -> Prop} (h : WS P ty Wg W i d y g w O) (a a' : Goroutine) (w1 : World) : woken P a a' w1 g = g := by
 unfold Go.Conc.woken
 split
 · exact again_running _ h.status
 · rfl
theorem WS.oext {i : Nat} {d : WD} {y : Stt W.X} {g : Goroutine} {O O' : Nat -> Prop} (h : WS P ty Wg W i d y g w O) (he : ∀ b, O b ↔ O' b) : WS P ty Wg W i d y g w O' := by
 cases h with
 | work h1 h2 h3 => exact .work h1 h2 (W.oext h3 he)
 | done h1 => exact .done h1
theorem PI.at (h : PI P ty Wg W base T0 w0 gs w t own j D Y q d0 nbo) (d : Nat) : PI P ty Wg W base T0 w0 gs (w.at d) t own j D Y q d0 nbo :=
 ⟨h.size, h.lv, h.above, fun i hi => let ⟨g, hg, hs⟩ := h.wk i hi; ⟨g, hg, hs.stay (Stay.at _ w d) (RW.at w d)⟩, fun i v hi hy => ⟨W.fins (h.fin i v hi hy).1 (Stay.at _ w d), fun hs => (h.fin i v hi hy).2 hs⟩, h.tr, h.norel, h.tsz, h.deaf0, h.deafW, h.rel, h.own0, h.ownR, h.lo, h.old, h.pay, h.nb, h.out⟩
structure Eff (Wg C n : Nat) (own : Nat -> Nat) (k i : Nat) (w w' : World) : Prop where
 out : w'.os = w.os /\ w'.output = w.output /\ w'.tape = w.tape
 size : w.heap.size <= w'.heap.size
 same : ∀ b, b < w.heap.size -> b ≠ C -> b ≠ Wg -> own b ≠ k -> w'.heap[b]? = w.heap[b]?
 pay : PayAt C n w'
 cells : ∀ i', i' ≠ i -> w'.cell? ⟨C, i', none⟩ = w.cell? ⟨C, i', none⟩
def own1 (own : Nat -> Nat) (k : Nat) (w w' : World) : Nat -> Nat := fun b => if w.heap.size <= b /\ b < w'.heap.size then k else own b
theorem PI.stepW (G : Geom SB Wg C Low n) (h : PI P ty Wg W base T0 w0 gs w t own j D Y q d0 nbo) {i : Nat} (hi : i < j) {g g' : Goroutine} {d' : WD} {y' : Stt W.X}
   (hE : Eff Wg C n own (base + 1 + i) i w w') (hlive : WgLive ty Wg w')
   (hs' : WS P ty Wg W i d' y' g' w' (fun b => own1 own (base + 1 + i) w w' b = base + 1 + i))
   (hfin : ∀ v, y' = .done v -> W.Fin i v w' (fun b => own1 own (base + 1 + i) w w' b = base + 1 + i) /\ (d'.stage <= 6 -> Has C i v w'))
   (hok : ∀ op ∈ MemOp.ofEvents (base + 1 + i) fn pos es, OkW (ShS SB) (OwnF base C n (own1 own (base + 1 + i) w w')) (RdF base Low C SB) (base + 1 + i) op) (hlow : ∀ op ∈ MemOp.ofEvents (base + 1 + i) fn pos es, lowT w'.heap.size op.act)
   (hnr : ∀ e ∈ es, e.loc ≠ .mark (.release (stA Wg))) (hdeaf : deafBehind (D i).deaf es = d'.deaf)
   (hrel : d'.stage <= 6 -> ∃ r, T0 <= r /\ Rel (ShS SB) (stA Wg) (t ++ MemOp.ofEvents (base + 1 + i) fn pos es) (base + 1 + i) r) :
   PI P ty Wg W base T0 w0 ((gs.map (woken P g g' w')).setIfInBounds (base + 1 + i) g') w' (t ++ MemOp.ofEvents (base + 1 + i) fn pos es) (own1 own (base + 1 + i) w w') j (upd D i d') (upd Y i y') q d0 nbo := by
 have hsz := h.size
 have hlo := h.lo
 have eown : ∀ k, k ≠ base + 1 + i -> ∀ b, own1 own (base + 1 + i) w w' b = k ↔ (own b = k /\ ¬ (w.heap.size <= b /\ b < w'.heap.size)) := by
   intro k hk b
   unfold own1
   split
   · rename_i hc
     exact ⟨fun e => absurd e.symm hk, fun e => absurd hc e.2⟩
   · rename_i hc
     exact ⟨fun e => ⟨e, hc⟩, fun e => e.1⟩
 have eown' : ∀ k, k ≠ base + 1 + i -> k ≠ 0 -> ∀ b, own1 own (base + 1 + i) w w' b = k ↔ own b = k := by
   intro k hk h0 b
   rw [eown k hk b]
   exact ⟨fun e => e.1, fun e => ⟨e, fun hc => by have := (h.ownR b (by omega)).1; omega⟩⟩
 have own0' : ∀ b, b < Low -> own1 own (base + 1 + i) w w' b = 0 := fun b hb => by
   unfold own1
   rw [if_neg (by omega)]
   exact h.own0 b hb
 have stay : ∀ i', i' < j -> i' ≠ i -> Stay Wg C Low (fun b => own b = base + 1 + i') w w' := fun i' hi' hne =>
   ⟨fun b hb h1 h2 => hE.same b (by omega) h2 h1 (by rw [h.own0 b hb]; omega), fun b hb => by
     have hr := h.ownR b (by rw [hb]; omega)
     have hL : Low <= b := Nat.le_of_not_lt fun hlt => by rw [h.own0 b hlt] at hb; omega
     exact hE.same b hr.1 (by have := G.hC; omega) (by have := G.hW; omega) (by rw [hb]; omega), hE.size⟩
 have hrw : ∀ i', i' < j -> i' ≠ i -> RW ty Wg C n Low i' w w' := fun i' hi' hne =>
   ⟨fun b hb h1 h2 => hE.same b (by omega) h2 h1 (by rw [h.own0 b hb]; omega), fun _ => hlive, fun _ => hE.pay, hE.cells i' hne⟩
 refine ⟨by simp [hsz], fun k x hk hk' hx => ?_, fun k hk => ?_, fun i' hi' => ?_, fun i' v hi' hy => ?_, ?_, norel_app h.norel (norel_of hnr), tsz_app h.tsz, by rw [Deaf_other t (by omega) _ g_of_ofEvents, h.deaf0], fun i' hi' => ?_, fun i' hi' hst => ?_, own0', fun b hb => ?_, Nat.le_trans hlo hE.size,
   fun b hb h1 h2 => (hE.same b (by omega) h2 h1 (by rw [h.own0 b hb]; omega)).trans (h.old b hb h1 h2), hE.pay, fun b o hbo => ?_, ⟨hE.out.1.trans h.out.1, hE.out.2.1.trans h.out.2.1, hE.out.2.2.trans h.out.2.2⟩⟩
 · rw [get_map_set _ _ _ _ (by omega)] at hx
   obtain ⟨y, hy, rfl⟩ := Option.map_eq_some_iff.1 hx
   have hq := h.lv k y hk hk' hy
   rw [woken_quitsD hq, Deaf_other t (by omega) _ g_of_ofEvents]
   exact hq
 · simp only [Array.size_setIfInBounds, Array.size_map] at hk
   rw [Deaf_other t (by omega) _ g_of_ofEvents]
   exact h.above k hk
 · by_cases e : i' = i
   · subst e
     exact ⟨g', get_map_set_same _ _ _ (by rw [hsz]; omega), by rw [upd_same, upd_same]; exact hs'⟩
   · obtain ⟨x, hx, hsx⟩ := h.wk i' hi'
     refine ⟨x, by rw [get_map_set _ _ _ _ (by omega), hx, Option.map_some, hsx.woken], ?_⟩
     rw [upd_ne D _ e, upd_ne Y _ e]
     exact (hsx.stay (stay i' hi' e) (hrw i' hi' e)).oext fun b => (eown' _ (by omega) (by omega) b).symm
 · by_cases e : i' = i
   · subst e; rw [upd_same] at hy ⊢; exact hfin v hy
   · rw [upd_ne Y _ e] at hy
     rw [upd_ne D _ e]
     obtain ⟨h1, h2⟩ := h.fin i' v hi' hy
     exact ⟨W.fext (W.fins h1 (stay i' hi' e)) fun b => (eown' _ (by omega) (by omega) b).symm, fun hs => (hE.cells i' e).trans (h2 hs)⟩
 · refine Tr.appW (apartF G own0') ?_ (by omega) (by omega) hok hlow
   refine (h.tr.mono hE.size).grow (fun _ x => x) (fun _ _ _ x => x) (fun k k1 kj l hl => ?_) (fun _ _ _ _ x => x) (fun k k1 kj l hl => ?_) (fun _ _ _ _ x => x)
   · rcases hl with ⟨h1, b, h2, h3⟩ | hl
     · by_cases hk : k = base + 1 + i
       · subst hk
         unfold own1 at h3
         split at h3
         · rename_i hc
           refine .inr fun i1 a ha e => ?_
           have := h.tr.fresh ha
           rw [e] at this
           cases l <;> simp only [blkOf, Option.some.injEq, reduceCtorEq] at h2 <;> (subst h2; simp only [Loc.low] at this; omega)
         · exact .inl (.inl ⟨h1, b, h2, h3⟩)
       · exact .inl (.inl ⟨h1, b, h2, (eown' k hk (by omega) b).1 h3⟩)
     · exact .inl (.inr hl)
   · rcases hl with ⟨h1, b, h2, h3⟩ | hl
     · refine .inl ⟨h1, b, h2, ?_⟩
       have := (h.ownR b (by omega)).1
       unfold own1
       rw [if_neg (by omega)]
       exact h3
     · exact .inr hl
 · by_cases e : i' = i
   · subst e; rw [Deaf_own, h.deafW i' hi', upd_same]; exact hdeaf
   · rw [Deaf_other t (by omega) _ g_of_ofEvents, h.deafW i' hi', upd_ne D _ e]
 · by_cases e : i' = i
   · subst e; rw [upd_same] at hst; exact hrel hst
   · rw [upd_ne D _ e] at hst
     obtain ⟨r, hr0, hr⟩ := h.rel i' hi' hst
     exact ⟨r, hr0, hr.app (hr.by_.appOther g_of_ofEvents (by omega)) fun op hop hg => by have := ofEvents_g op hop; omega⟩
 · unfold own1 at hb ⊢
   split at hb
   · rename_i hc
     rw [if_pos hc]
     exact ⟨hc.2, by omega, by omega⟩
   · rename_i hc
     rw [if_neg hc]
     have := h.ownR b hb
     exact ⟨by have := hE.size; omega, this.2.1, this.2.2⟩
 · obtain ⟨h1, h2, h3, h4⟩ := h.nb b o hbo
   refine ⟨h1, by have := hE.size; omega, ?_, ?_⟩
   · unfold own1; rw [if_neg (by omega)]; exact h3
   · rw [hE.same b h2 (by have := G.hC; omega) (by have := G.hW; omega) (by omega)]; exact h4
theorem PI.step0 (G : Geom SB Wg C Low n) (h : PI P ty Wg W base T0 w0 gs w t own j D Y q d0 nbo) {a a' : Goroutine} {nbo' : Option (Nat × Obj)}
   (hout : w'.os = w.os /\ w'.output = w.output /\ w'.tape = w.tape) (hsize : w.heap.size <= w'.heap.size) (hlive : WgLive ty Wg w')
   (hsame : ∀ b, b < w.heap.size -> b ≠ Wg -> (∀ o, nbo ≠ some (b, o)) -> w'.heap[b]? = w.heap[b]?)
   (hok : ∀ op ∈ MemOp.ofEvents 0 fn pos es, Ok0 (ShS SB) (OwnF base C n own) (RdF base Low C SB) (base + j) op) (hlow : ∀ op ∈ MemOp.ofEvents 0 fn pos es, lowT w'.heap.size op.act) (hnr : ∀ e ∈ es, e.loc ≠ .mark (.release (stA Wg)))
   (hnb : ∀ b o, nbo' = some (b, o) -> Low <= b /\ b < w'.heap.size /\ own b = 0 /\ w'.heap[b]? = some o) :
   PI P ty Wg W base T0 w0 ((gs.map (woken P a a' w')).setIfInBounds 0 a') w' (t ++ MemOp.ofEvents 0 fn pos es) own j D Y q (deafBehind d0 es) nbo' := by
 have hsz := h.size
 have hlo := h.lo
 have hLs : ∀ b, b < Low -> b ≠ Wg -> w'.heap[b]? = w.heap[b]? := fun b hb hW => hsame b (by omega) hW fun o e => by have := (h.nb b o e).1; omega
 have hC : w'.heap[C]? = w.heap[C]? := hLs C G.hC G.hCW
 have hpay : PayAt C n w' := let ⟨cs, h1, h2⟩ := h.pay; ⟨cs, hC.trans h1, h2⟩
 have stay : ∀ i, i < j -> Stay Wg C Low (fun b => own b = base + 1 + i) w w' := fun i hi => ⟨fun b hb h1 h2 => hLs b hb h1, fun b hb => by
   have hr := h.ownR b (by rw [hb]; omega)
   have hL : Low <= b := Nat.le_of_not_lt fun hlt => by rw [h.own0 b hlt] at hb; omega
   exact hsame b hr.1 (by have := G.hW; omega) fun o e => by have := (h.nb b o e).2.2.1; omega, hsize⟩
 have hrw : ∀ i, i < j -> RW ty Wg C n Low i w w' := fun i hi => ⟨fun b hb h1 h2 => hLs b hb h1, fun _ => hlive, fun _ => hpay, cell_of_block hC i⟩
 refine ⟨by simp [hsz], fun k x hk hk' hx => ?_, fun k hk => ?_, fun i hi => ?_, fun i v hi hy => ?_, Tr.app0 (apartF G h.own0) (h.tr.mono hsize) hok hlow, norel_app h.norel (norel_of hnr), tsz_app h.tsz, by rw [Deaf_own, h.deaf0], fun i hi => ?_, fun i hi hst => ?_, h.own0, fun b hb => ?_, Nat.le_trans hlo hsize,
   fun b hb h1 h2 => (hLs b hb h1).trans (h.old b hb h1 h2), hpay, hnb, ⟨hout.1.trans h.out.1, hout.2.1.trans h.out.2.1, hout.2.2.trans h.out.2.2⟩⟩
 · rw [get_map_set _ _ _ _ (by omega)] at hx
   obtain ⟨y, hy, rfl⟩ := Option.map_eq_some_iff.1 hx
   have hq := h.lv k y hk hk' hy
   rw [woken_quitsD hq, Deaf_other t (by omega) _ g_of_ofEvents]
   exact hq
 · simp only [Array.size_setIfInBounds, Array.size_map] at hk
   rw [Deaf_other t (by omega) _ g_of_ofEvents]
   exact h.above k hk
 · obtain ⟨x, hx, hsx⟩ := h.wk i hi
   exact ⟨x, by rw [get_map_set _ _ _ _ (by omega), hx, Option.map_some, hsx.woken], hsx.stay (stay i hi) (hrw i hi)⟩
 · obtain ⟨h1, h2⟩ := h.fin i v hi hy
   exact ⟨W.fins h1 (stay i hi), fun hs => (hrw i hi).cell.trans (h2 hs)⟩
 · rw [Deaf_other t (by omega) _ g_of_ofEvents, h.deafW i hi]
 · obtain ⟨r, hr0, hr⟩ := h.rel i hi hst
   exact ⟨r, hr0, hr.app (hr.by_.appOther g_of_ofEvents (by omega)) fun op hop hg => by have := ofEvents_g op hop; omega⟩
 · have := h.ownR b hb
   exact ⟨by omega, this.2.1, this.2.2⟩
theorem PI.stepL (G : Geom SB Wg C Low n) (h : PI P ty Wg W base T0 w0 gs w t own j D Y q d0 nbo) {k q' : Nat} (hk : 0 < k) (hkb : k <= base) {g g' : Goroutine} (hm : ∀ e ∈ es, e.mute = true) (hq' : QuitsD P q' (deafBehind (Deaf t k) es) g') :
   PI P ty Wg W base T0 w0 ((gs.map (woken P g g' w)).setIfInBounds k g') w (t ++ MemOp.ofEvents k fn pos es) own j D Y (upd q k q') d0 nbo := by
 have hsz := h.size
 have hmem : ∀ op ∈ MemOp.ofEvents k fn pos es, op.act.touch? = none := by
   intro op hop
   obtain ⟨e, he, rfl⟩ := Go.Conc.mem_ofEvents hop
   exact touch_mute (hm e he)
 have hnr : ∀ e ∈ es, e.loc ≠ .mark (.release (stA Wg)) := fun e he hl => by
   have := hm e he
   obtain ⟨loc, wr, sy⟩ := e
   simp only at hl
   subst hl
   cases this
 refine ⟨by simp [hsz], fun k1 x hk1 hk' hx => ?_, fun k1 hk1 => ?_, fun i hi => ?_, h.fin, h.tr.mute (apartF G h.own0) hk (by omega) ofEvents_g hmem, norel_app h.norel (norel_of hnr), tsz_app h.tsz, by rw [Deaf_other t (by omega) _ g_of_ofEvents, h.deaf0], fun i hi => ?_, fun i hi hst => ?_, h.own0, h.ownR, h.lo, h.old, h.pay, h.nb, h.out⟩
 · by_cases e : k = k1
   · subst e
     rw [get_map_set_same _ _ _ (by omega)] at hx
     cases hx
     rw [upd_same, Deaf_own]
     exact hq'
   · rw [get_map_set _ _ _ _ e] at hx
     obtain ⟨y, hy, rfl⟩ := Option.map_eq_some_iff.1 hx
     have hq := h.lv k1 y hk1 hk' hy
     rw [woken_quitsD hq, upd_ne q _ (Ne.symm e), Deaf_other t e _ g_of_ofEvents]
     exact hq
 · simp only [Array.size_setIfInBounds, Array.size_map] at hk1
   rw [Deaf_other t (by omega) _ g_of_ofEvents]
   exact h.above k1 hk1
 · obtain ⟨x, hx, hsx⟩ := h.wk i hi
   exact ⟨x, by rw [get_map_set _ _ _ _ (by omega), hx, Option.map_some, hsx.woken], hsx⟩
 · rw [Deaf_other t (by omega) _ g_of_ofEvents, h.deafW i hi]
 · obtain ⟨r, hr0, hr⟩ := h.rel i hi hst
   exact ⟨r, hr0, hr.app (hr.by_.appOther g_of_ofEvents (by omega)) fun op hop hg => by have := ofEvents_g op hop; omega⟩
theorem PI.spawn (G : Geom SB Wg C Low n) (hjn : j < n) {nb : Nat} {o : Obj} (h : PI P ty Wg W base T0 w0 gs w t own j D Y q 0 (some (nb, o))) {a' child : Goroutine} {x y : MemOp} (hx : x.g = 0 /\ x.act = .go (base + j + 1)) (hy : y.g = base + j + 1 /\ y.act = .start) {x0 : W.X}
   (hs : W.Sit j x0 child w (fun b => b = nb)) :
   PI P ty Wg W base T0 w0 ((gs.setIfInBounds 0 a').push child) w (t ++ #[x, y]) (upd own nb (base + 1 + j)) (j + 1) (upd D j ⟨7, 0, 0⟩) (upd Y j (.at_ x0)) q 0 none := by
 have hsz := h.size
 obtain ⟨n1, n2, n3, n4⟩ := h.nb nb o rfl
 have hm : ∀ op ∈ #[x, y], op = x \/ op = y := by intro op hop; simpa using hop
 have hst : ∀ op ∈ #[x, y], op.act ≠ .mark .disable /\ op.act ≠ .mark .enable := by
   intro op hop
   rcases hm op hop with rfl | rfl
   · rw [hx.2]; exact ⟨by simp, by simp⟩
   · rw [hy.2]; exact ⟨by simp, by simp⟩
 have own0' : ∀ b, b < Low -> upd own nb (base + 1 + j) b = 0 := fun b hb => by rw [upd_ne own _ (by omega)]; exact h.own0 b hb
 have eo : ∀ k, k ≠ base + 1 + j -> k ≠ 0 -> ∀ b, upd own nb (base + 1 + j) b = k ↔ own b = k := by
   intro k hk h0 b
   by_cases e : b = nb
   · subst e; rw [upd_same, n3]; omega
   · rw [upd_ne own _ e]
 have ej : ∀ b, upd own nb (base + 1 + j) b = base + 1 + j ↔ b = nb := by
   intro b
   by_cases e : b = nb
   · subst e; rw [upd_same]; exact ⟨fun _ => rfl, fun _ => rfl⟩
   · rw [upd_ne own _ e]
     exact ⟨fun e2 => by have := h.ownR b (by omega); omega, fun e2 => absurd e2 e⟩
 have hT : Tr (ShS SB) (OwnF base C n (upd own nb (base + 1 + j))) (RdF base Low C SB) base (base + j) w.heap.size t :=
   h.tr.grow (fun _ x => x) (fun _ _ _ x => x) (fun k k1 kj l hl => .inl (hl.imp (fun ⟨h1, b, h2, h3⟩ => ⟨h1, b, h2, (eo k (by omega) (by omega) b).1 h3⟩) id)) (fun _ _ _ _ x => x)
     (fun k k1 kj l hl => hl.imp (fun ⟨h1, b, h2, h3⟩ => ⟨h1, b, h2, (eo k (by omega) (by omega) b).2 h3⟩) id) (fun _ _ _ _ x => x)
 refine ⟨by simp [hsz]; omega, fun k g hk hk' hg => ?_, fun k hk => ?_, fun i hi => ?_, fun i v hi hy' => ?_, ?_, norel_app h.norel fun op hop => ?_, tsz_app h.tsz, by rw [Deaf_still t 0 _ hst, h.deaf0], fun i hi => ?_, fun i hi hs => ?_, own0', fun b hb => ?_, h.lo, h.old, h.pay, (fun _ _ e => by cases e), h.out⟩
 · rw [Array.getElem?_push_lt (by simp [hsz]; omega), <- Array.getElem?_eq_getElem, Array.getElem?_setIfInBounds_ne (by omega)] at hg
   rw [Deaf_still t _ _ hst]
   exact h.lv k g hk hk' hg
 · rw [Deaf_still t _ _ hst]
   simp only [Array.size_push, Array.size_setIfInBounds] at hk
   exact h.above k (by omega)
 · rcases Nat.lt_or_ge i j with hlt | hge
   · obtain ⟨g, hg, hsg⟩ := h.wk i hlt
     refine ⟨g, ?_, by rw [upd_ne D _ (by omega), upd_ne Y _ (by omega)]; exact hsg.oext fun b => (eo _ (by omega) (by omega) b).symm⟩
     rw [Array.getElem?_push_lt (by simp [hsz]; omega), <- Array.getElem?_eq_getElem, Array.getElem?_setIfInBounds_ne (by omega)]
     exact hg
   · obtain rfl : i = j := by omega
     refine ⟨child, ?_, by rw [upd_same, upd_same]; exact .work rfl rfl (W.oext hs fun b => (ej b).symm)⟩
     rw [show base + 1 + i = (gs.setIfInBounds 0 a').size by simp [hsz], Array.getElem?_push_size]
 · rcases Nat.lt_or_ge i j with hlt | hge
   · rw [upd_ne Y _ (by omega)] at hy'
     rw [upd_ne D _ (by omega)]
     obtain ⟨h1, h2⟩ := h.fin i v hlt hy'
     exact ⟨W.fext h1 fun b => (eo _ (by omega) (by omega) b).symm, h2⟩
   · obtain rfl : i = j := by omega
     rw [upd_same] at hy'; cases hy'
 · exact hT.fork (apartF G own0') hx hy h.deaf0
 · rcases hm op hop with rfl | rfl
   · rw [hx.2]; simp
   · rw [hy.2]; simp
 · rw [Deaf_still t _ _ hst]
   rcases Nat.lt_or_ge i j with hlt | hge
   · rw [h.deafW i hlt, upd_ne D _ (by omega)]
   · obtain rfl : i = j := by omega
     rw [upd_same]
     exact h.above _ (by omega)
 · rcases Nat.lt_or_ge i j with hlt | hge
   · rw [upd_ne D _ (by omega)] at hs
     obtain ⟨r, hr0, hr⟩ := h.rel i hlt hs
     have hne : ∀ op ∈ #[x, y], op.g ≠ base + 1 + i := fun op hop => by
       rcases hm op hop with rfl | rfl
       · rw [hx.1]; omega
       · rw [hy.1]; omega
     exact ⟨r, hr0, hr.app (hr.by_.appNot hne) fun op hop hg => absurd hg (hne op hop)⟩
   · obtain rfl : i = j := by omega
     rw [upd_same] at hs
     simp at hs
 · by_cases e : b = nb
   · subst e; rw [upd_same]; omega
   · rw [upd_ne own _ e] at hb ⊢
     have := h.ownR b hb
     omega
end
end
end Crw
end Go.Proofs.YthgelfnflafoiaeGreat
namespace Go.Proofs.YthgelfnflafoiaeGreat
namespace Crw
open Go.Conc Go.ConcN
open Go.ConcR (KK wgBlock WgAt stA smA rd wr mk Payload DC0 Bk g_of_ofEvents again_blocked bk_of_mute ofEvent_loc_mark ofEvent_cell)
theorem own1_same {w w' : World} {own : Nat → Nat} {k : Nat} (h : w'.heap.size = w.heap.size) : own1 own k w w' = own := by
 funext b
 unfold own1
 rw [if_neg (by omega)]
theorem okS_of_Bk {SB : Nat → Prop} {Wg : Nat} {k : Nat} {Own Rd : Nat → Loc → Prop} (hW : SB Wg) {fn : FuncId} {pos : String} {es : Array Event} (h : ∀ e ∈ es, Bk Wg e) : ∀ op ∈ MemOp.ofEvents k fn pos es, OkW (ShS SB) Own Rd k op ∧ (∀ x, op.act.touch? = some x → ShS SB x.loc) ∧ ∀ B, Wg < B → lowT B op.act := by
 intro op hop
 obtain ⟨e, he, rfl⟩ := Go.Conc.mem_ofEvents hop
 rcases h e he with h1 | h1 | ⟨a, wr, rfl, ha⟩
 · exact ⟨⟨rfl, fun x hx => by simp only [ofEvent_loc_mark h1] at hx; cases hx⟩, (fun x hx => by simp only [ofEvent_loc_mark h1] at hx; cases hx), (fun B _ x hx => by simp only [ofEvent_loc_mark h1] at hx; cases hx)⟩
 · exact ⟨⟨rfl, fun x hx => by simp only [ofEvent_loc_mark h1] at hx; cases hx⟩, (fun x hx => by simp only [ofEvent_loc_mark h1] at hx; cases hx), (fun B _ x hx => by simp only [ofEvent_loc_mark h1] at hx; cases hx)⟩
 · refine ⟨⟨rfl, fun x hx => ?_⟩, fun x hx => ?_, fun B hB x hx => ?_⟩ <;> simp only [ofEvent_cell, MemAct.touch?, Option.some.injEq] at hx <;> subst hx
   · exact .inl ⟨⟨a, rfl, by rw [ha]; exact hW⟩, by simp, by simp⟩
   · exact ⟨a, rfl, by rw [ha]; exact hW⟩
   · show a.block < B
     omega
section
variable [Payload]
section
variable (P : Program) {SB : Nat → Prop} (ty : TypeId) (Wg : Nat) {C n Low : Nat} (W : WSpec P SB ty Wg C n Low) (base T0 : Nat) (w0 : World) (AnchW : Goroutine → World → Prop) (Out : Goroutine → Prop) (o0 : Obj) (o1 : Nat → Obj) (v1 : Nat → Value)
def PInv (N : Nat) (Y : Nat → Stt W.X) (F : Nat) (m : Machine) (t : Trace) : Prop :=
 ∃ (gs : Array Goroutine) (w : World) (sl : Option (Nat × Nat)) (own : Nat → Nat) (j : Nat) (D : Nat → WD) (tag : CTag) (f0 d0 : Nat) (nbo : Option (Nat × Obj)) (a : Goroutine) (st sm : Int) (q : Nat → Nat),
   m = crowd gs w sl ∧ gs[0]? = some a ∧ CS P ty Wg n AnchW Out W w0 o0 o1 v1 tag j f0 d0 nbo a w ∧ PI P ty Wg W base T0 w0 gs w t own j D Y q d0 nbo ∧ WgAt ty Wg w st sm ∧ Go.ConcN.Mode j D tag st sm ∧
   (∀ k, j ≤ k → ∃ v, Y k = .done v) ∧ N = phi n (Vc j D) tag + Ssum j D ∧ F = f0 + 2 * (Fsum j D + sumTo (base + 1) q)
def YLt (Y' Y : Nat → Stt W.X) : Prop := ∃ i, i < n ∧ (∀ k, k ≠ i → Y' k = Y k) ∧ Stt.lt W.lt (Y' i) (Y i)
def Less (N' : Nat) (Y' : Nat → Stt W.X) (F' N : Nat) (Y : Nat → Stt W.X) (F : Nat) : Prop := N' < N ∨ (N' = N ∧ YLt P ty Wg W Y' Y) ∨ (N' = N ∧ Y' = Y ∧ F' < F)
def Nx (N : Nat) (Y : Nat → Stt W.X) (F : Nat) (m : Machine) (i : Nat) (t : Trace) : Prop :=
 ∃ m₁ ops N' Y' F', runT P m i = (.next m₁, ops) ∧ Less P ty Wg W N' Y' F' N Y F ∧ PInv P ty Wg W base T0 w0 AnchW Out o0 o1 v1 N' Y' F' m₁ (t ++ ops)
end
section
variable {P : Program} {SB : Nat → Prop} {ty : TypeId} {Wg C n Low : Nat} {W : WSpec P SB ty Wg C n Low} {base T0 : Nat} {w0 : World} {AnchW : Goroutine → World → Prop} {Out : Goroutine → Prop} {o0 : Obj} {o1 : Nat → Obj} {v1 : Nat → Value}
 {gs : Array Goroutine} {w w' : World} {sl : Option (Nat × Nat)} {t : Trace} {own : Nat → Nat} {j : Nat} {D : Nat → WD} {Y : Nat → Stt W.X} {q : Nat → Nat} {f0 d0 : Nat} {nbo : Option (Nat × Obj)} {tag : CTag} {a : Goroutine} {st sm : Int}
theorem wNx (G : Geom SB Wg C Low n) (hAr : ∀ g w, AnchW g w → g.status = .running) (ha : gs[0]? = some a) (hcs : (CS P ty Wg n AnchW Out W w0 o0 o1 v1) tag j f0 d0 nbo a w) (hpi : (PI P ty Wg W base T0 w0) gs w t own j D Y q d0 nbo) (hyn : ∀ k, j ≤ k → ∃ v, Y k = .done v)
   {i : Nat} (hi : i < j) {g g' : Goroutine} {es : Array Event} {d' : WD} {y' : Stt W.X} {st' sm' : Int} (hg : gs[base + 1 + i]? = some g) (hgo : stepG P false g w = .go g' w' es)
   (hE : Eff Wg C n own (base + 1 + i) i w w')
   (hs' : WS P ty Wg W i d' y' g' w' (fun b => own1 own (base + 1 + i) w w' b = base + 1 + i))
   (hfin : ∀ v, y' = .done v → W.Fin i v w' (fun b => own1 own (base + 1 + i) w w' b = base + 1 + i) ∧ (d'.stage ≤ 6 → Has C i v w'))
   (hok : ∀ op ∈ MemOp.ofEvents (base + 1 + i) g.frame.fn g.frame.place es, OkW (ShS SB) (OwnF base C n (own1 own (base + 1 + i) w w')) (RdF base Low C SB) (base + 1 + i) op)
   (hlow : ∀ op ∈ MemOp.ofEvents (base + 1 + i) g.frame.fn g.frame.place es, lowT w'.heap.size op.act)
   (hnr : ∀ e ∈ es, e.loc ≠ .mark (.release (stA Wg))) (hdeaf : deafBehind (D i).deaf es = d'.deaf)
   (hrel : d'.stage ≤ 6 → ∃ r, T0 ≤ r ∧ Rel (ShS SB) (stA Wg) (t ++ MemOp.ofEvents (base + 1 + i) g.frame.fn g.frame.place es) (base + 1 + i) r)
   (hwg : WgAt ty Wg w' st' sm') (hmode : ∀ tag', (tag' = tag ∨ (tag = .blk ∧ tag' = .w3)) → (mayWake P g = true → g'.status = .running → tag' ≠ .blk) → Go.ConcN.Mode j (upd D i d') tag' st' sm')
   (hlt : (d'.stage < (D i).stage ∧ cnt d' ≤ cnt (D i)) ∨ (d'.stage = (D i).stage ∧ Stt.lt W.lt y' (Y i)) ∨ (d'.stage = (D i).stage ∧ y' = Y i ∧ d'.fuel + 1 = (D i).fuel)) :
   (Nx P ty Wg W base T0 w0 AnchW Out o0 o1 v1) (phi n (Vc j D) tag + Ssum j D) Y (f0 + 2 * (Fsum j D + sumTo (base + 1) q)) (crowd gs w sl) (base + 1 + i) t := by
 obtain ⟨tag', f', hcs', hf', htag, hwk⟩ := hcs.wokenBy hAr (w' := w') (fun _ => ⟨_, _, hwg⟩) g g'
 have hi0 : (base + 1 + i == 0) = false := by simp
 have hrun := runT_crowd_go (P := P) (sl := sl) (i := base + 1 + i) hg (by rw [hi0]; exact hgo)
 have e1 := sumTo_upd D d' cnt hi
 have e2 := sumTo_upd D d' WD.stage hi
 have e3 := sumTo_upd D d' WD.fuel hi
 have hb := hcs.bound
 refine ⟨_, _, phi n (Vc j (upd D i d')) tag' + Ssum j (upd D i d'), upd Y i y', f' + 2 * (Fsum j (upd D i d') + sumTo (base + 1) q), hrun, ?_,
   _, w', sl, own1 own (base + 1 + i) w w', j, upd D i d', tag', f', d0, nbo, woken P g g' w' a, st', sm', q, rfl, by rw [get_map_set _ _ _ _ (by omega), ha]; rfl, hcs',
   hpi.stepW G hi hE ⟨_, _, hwg⟩ hs' hfin hok hlow hnr hdeaf hrel, hwg, hmode tag' htag hwk, fun k hk => by rw [upd_ne Y _ (by omega)]; exact hyn k hk, rfl, rfl⟩
 rw [phi_retag n _ htag]
 simp only [Vc, Ssum, Fsum] at *
 have hc : d'.stage = (D i).stage → cnt d' = cnt (D i) := fun e => by simp only [cnt, e]
 rcases hlt with ⟨h1, h2⟩ | ⟨h1, h2⟩ | ⟨h1, h2, h3⟩
 · refine .inl ?_
   have := phi_mono n (v' := sumTo j fun a => cnt (upd D i d' a)) (v := sumTo j fun a => cnt (D a)) (by omega) tag
   omega
 · have := hc h1
   refine .inr (.inl ⟨?_, i, by omega, fun k hk => upd_ne Y _ hk, by rw [upd_same]; exact h2⟩)
   rw [show (sumTo j fun a => cnt (upd D i d' a)) = sumTo j fun a => cnt (D a) by omega, show (sumTo j fun a => (upd D i d' a).stage) = sumTo j fun a => (D a).stage by omega]
 · have := hc h1
   refine .inr (.inr ⟨?_, ?_, by omega⟩)
   · rw [show (sumTo j fun a => cnt (upd D i d' a)) = sumTo j fun a => cnt (D a) by omega, show (sumTo j fun a => (upd D i d' a).stage) = sumTo j fun a => (D a).stage by omega]
   · funext k
     by_cases e : k = i
     · subst e; rw [upd_same, h2]
     · rw [upd_ne Y _ e]
theorem Eff.of_aside (G : Geom SB Wg C Low n) (hp : PayAt C n w) (h : Aside Wg w w') (own : Nat → Nat) (k i : Nat) : Eff Wg C n own k i w w' :=
 ⟨⟨h.os, h.output, h.tape⟩, by rw [h.size]; exact Nat.le_refl _, fun b _ _ hb _ => h.block b hb, let ⟨cs, h1, h2⟩ := hp; ⟨cs, (h.block C G.hCW).trans h1, h2⟩, fun i' _ => cell_of_block (h.block C G.hCW) i'⟩
set_option maxHeartbeats 1600000 in
theorem stepWorker (G : Geom SB Wg C Low n) (hAr : ∀ g w, AnchW g w → g.status = .running) (ha : gs[0]? = some a) (hcs : (CS P ty Wg n AnchW Out W w0 o0 o1 v1) tag j f0 d0 nbo a w) (hpi : (PI P ty Wg W base T0 w0) gs w t own j D Y q d0 nbo) (hyn : ∀ k, j ≤ k → ∃ v, Y k = .done v) (hwg : WgAt ty Wg w st sm) (hmode : Go.ConcN.Mode j D tag st sm)
   {i : Nat} (hi : i < j) {g : Goroutine} (hg : gs[base + 1 + i]? = some g) (hrun : g.status = .running) :
   (Nx P ty Wg W base T0 w0 AnchW Out o0 o1 v1) (phi n (Vc j D) tag + Ssum j D) Y (f0 + 2 * (Fsum j D + sumTo (base + 1) q)) (crowd gs w sl) (base + 1 + i) t := by
 obtain ⟨g₁, hg₁, hs⟩ := hpi.wk i hi
 obtain rfl : g = g₁ := by rw [hg] at hg₁; exact Option.some.inj hg₁
 have hb := hcs.bound
 have hVj := Vc_le j D
 have hlo := hpi.lo
 have hWs : Wg < w.heap.size := Nat.lt_of_lt_of_le G.hW hlo
 have hdk : Deaf t (base + 1 + i) = (D i).deaf := hpi.deafW i hi
 generalize hY : Y i = y at hs
 cases hs with
 | @work x _ _ _ h7 hd0 hsit =>
   have hOb : ∀ b, own b = base + 1 + i → Low ≤ b ∧ b < w.heap.size := fun b hb => ⟨Nat.le_of_not_lt fun hlt => by rw [hpi.own0 b hlt] at hb; omega, (hpi.ownR b (by omega)).1⟩
   obtain ⟨g', w', es, hgo, hE, hev, hnext⟩ := W.go hsit ⟨st, sm, hwg⟩ hpi.pay (by omega) hlo hOb
   have hgr : ∀ b, grown (fun b => own b = base + 1 + i) w w' b ↔ own1 own (base + 1 + i) w w' b = base + 1 + i := by
     intro b
     unfold grown own1
     split
     · rename_i hc; exact ⟨fun _ => rfl, fun _ => .inr hc⟩
     · rename_i hc; exact ⟨fun e => e.resolve_right hc, fun e => .inl e⟩
   have hEf : Eff Wg C n own (base + 1 + i) i w w' := ⟨hE.out, hE.size, fun b h1 h2 _ h4 => hE.same b h1 h2 h4, hE.pay hpi.pay, hE.cells⟩
   have hWg' : w'.heap[Wg]? = w.heap[Wg]? := hE.same Wg hWs (Ne.symm G.hCW) (by rw [hpi.own0 Wg G.hW]; omega)
   have hok : ∀ op ∈ MemOp.ofEvents (base + 1 + i) g.frame.fn g.frame.place es, OkW (ShS SB) (OwnF base C n (own1 own (base + 1 + i) w w')) (RdF base Low C SB) (base + 1 + i) op := by
     intro op hop
     obtain ⟨e, he, rfl⟩ := Go.Conc.mem_ofEvents hop
     refine ⟨rfl, fun x hx => ?_⟩
     rcases (hev e he).tch x hx with ⟨b, h1, h2⟩ | h1 | ⟨h1, b, h2, h3, h4, h5⟩
     · exact .inr (.inl (.inl ⟨by omega, b, h1, (hgr b).1 h2⟩))
     · exact .inr (.inl (.inr ⟨by omega, by omega, by rw [h1, show base + 1 + i - base - 1 = i by omega]⟩))
     · exact .inr (.inr ⟨⟨by omega, b, h2, h3, h4, h5⟩, h1⟩)
   have hlow : ∀ op ∈ MemOp.ofEvents (base + 1 + i) g.frame.fn g.frame.place es, lowT w'.heap.size op.act := by
     intro op hop
     obtain ⟨e, he, rfl⟩ := Go.Conc.mem_ofEvents hop
     exact (hev e he).low
   have hde : deafBehind (D i).deaf es = 0 := by rw [hd0]; exact deafBehind_idle (fun e he => ⟨(hev e he).dis, (hev e he).en⟩) 0
   have hmd : ∀ m' tag', (tag' = tag ∨ (tag = .blk ∧ tag' = .w3)) → Go.ConcN.Mode j (upd D i ⟨7, m', 0⟩) tag' st sm := fun m' tag' ht => Go.ConcN.Mode.retag (by have := hmode.same (i := i) m' 0; rwa [h7] at this) ht
   rcases hnext with ⟨x', hlt, hs'⟩ | ⟨v, m, hfin, hgoes⟩
   · exact wNx G hAr ha hcs hpi hyn hi (d' := ⟨7, 0, 0⟩) (y' := .at_ x') hg hgo hEf (.work rfl rfl (W.oext hs' hgr)) (fun v e => by cases e) hok hlow (fun e he => (hev e he).rel) hde (fun h => absurd h (by simp)) (hwg.of_block hWg') (fun tag' ht _ => hmd 0 tag' ht)
       (.inr (.inl ⟨h7.symm, by rw [hY]; exact hlt⟩))
   · exact wNx G hAr ha hcs hpi hyn hi (d' := ⟨7, m, 0⟩) (y' := .done v) hg hgo hEf (.done (.r0 hgoes)) (fun v' e => by cases e; exact ⟨W.fext hfin hgr, fun h => absurd h (by simp)⟩) hok hlow (fun e he => (hev e he).rel) hde (fun h => absurd h (by simp)) (hwg.of_block hWg') (fun tag' ht _ => hmd m tag' ht)
       (.inr (.inl ⟨h7.symm, by rw [hY]; trivial⟩))
 | @done v _ _ _ hsit =>
   obtain ⟨hfin, hhas⟩ := hpi.fin i v hi hY
   generalize hst : (D i).stage = s at hsit
   generalize hfu : (D i).fuel = m at hsit
   generalize hdd : (D i).deaf = dd at hsit
   rw [hdd] at hdk
   have bookG : ∀ {g' : Goroutine} {w' : World} {es : Array Event} {s' m' dd' : Nat} {st' sm' : Int}, stepG P false g w = .go g' w' es → Aside Wg w w' → WgAt ty Wg w' st' sm' → (∀ e ∈ es, Bk Wg e) →
       (∀ jx e, es[jx]? = some e → (MemAct.ofEvent e).touch? = none ∨ 0 < deafBehind dd (es.extract 0 jx)) → WSit P ty Wg C n noP noP Low (i + 1) v s' m' dd' g' w' → deafBehind dd es = dd' → s ≤ 6 → s' ≤ 6 →
       (∀ tag', (tag' = tag ∨ (tag = .blk ∧ tag' = .w3)) → (mayWake P g = true → g'.status = .running → tag' ≠ .blk) → Go.ConcN.Mode j (upd D i ⟨s', m', dd'⟩) tag' st' sm') → ((s' < s ∧ cnt ⟨s', m', dd'⟩ ≤ cnt (D i)) ∨ (s' = s ∧ m' + 1 = m)) →
       (Nx P ty Wg W base T0 w0 AnchW Out o0 o1 v1) (phi n (Vc j D) tag + Ssum j D) Y (f0 + 2 * (Fsum j D + sumTo (base + 1) q)) (crowd gs w sl) (base + 1 + i) t := by
     intro g' w' es s' m' dd' st' sm' hgo hAs hwg' hbk hd hs' hde h6 h6' hmode' hlt
     have hsame : own1 own (base + 1 + i) w w' = own := own1_same hAs.size
     have hst' : Stay Wg C Low (fun b => own b = base + 1 + i) w w' := ⟨fun b _ h1 _ => hAs.block b h1, fun b hb => hAs.block b (fun e => by subst e; rw [hpi.own0 _ G.hW] at hb; omega), by rw [hAs.size]; exact Nat.le_refl _⟩
     refine wNx G hAr ha hcs hpi hyn hi (d' := ⟨s', m', dd'⟩) (y' := .done v) hg hgo (.of_aside G hpi.pay hAs _ _ _) (.done hs') (fun v' e => ?_) (fun op hop => (okS_of_Bk G.sbW hbk op hop).1) (fun op hop => (okS_of_Bk (Own := noP) (Rd := noP) G.sbW hbk op hop).2.2 _ (by rw [hAs.size]; exact hWs)) (norel_of_Bk hbk) (by rw [hdd]; exact hde) (fun _ => ?_) hwg' hmode' ?_
     · cases e
       rw [hsame]
       exact ⟨W.fins hfin hst', fun _ => (cell_of_block (hAs.block C G.hCW) i).trans (hhas (by omega))⟩
     · obtain ⟨r, hr0, hr⟩ := hpi.rel i hi (by omega)
       exact ⟨r, hr0, hr.app (hr.by_.book hdk _ _ hbk hd) fun op hop _ x hx => (okS_of_Bk (Own := noP) (Rd := noP) G.sbW hbk op hop).2.1 x hx⟩
     · rcases hlt with ⟨h1, h2⟩ | ⟨h1, h2⟩
       · exact .inl ⟨by rw [hst]; exact h1, h2⟩
       · exact .inr (.inr ⟨by rw [hst]; exact h1, hY.symm, by rw [hfu]; exact h2⟩)
   have book : ∀ {g' : Goroutine} {w' : World} {es : Array Event} {s' m' dd' : Nat} {st' sm' : Int}, stepG P false g w = .go g' w' es → Aside Wg w w' → WgAt ty Wg w' st' sm' → (∀ e ∈ es, Bk Wg e) →
       (∀ jx e, es[jx]? = some e → (MemAct.ofEvent e).touch? = none ∨ 0 < deafBehind dd (es.extract 0 jx)) → WSit P ty Wg C n noP noP Low (i + 1) v s' m' dd' g' w' → deafBehind dd es = dd' → s ≤ 6 → s' ≤ 6 →
       Go.ConcN.Mode j (upd D i ⟨s', m', dd'⟩) tag st' sm' → ((s' < s ∧ cnt ⟨s', m', dd'⟩ ≤ cnt (D i)) ∨ (s' = s ∧ m' + 1 = m)) →
       (Nx P ty Wg W base T0 w0 AnchW Out o0 o1 v1) (phi n (Vc j D) tag + Ssum j D) Y (f0 + 2 * (Fsum j D + sumTo (base + 1) q)) (crowd gs w sl) (base + 1 + i) t :=
     fun hgo hAs hwg' hbk hd hs' hde h6 h6' hmode' hlt => bookG hgo hAs hwg' hbk hd hs' hde h6 h6' (fun _ ht _ => hmode'.retag ht) hlt
   have idle : ∀ {g' : Goroutine} {m' : Nat}, stepG P false g w = .go g' w #[] → WSit P ty Wg C n noP noP Low (i + 1) v s m' dd g' w → m' + 1 = m → s ≤ 6 →
       (Nx P ty Wg W base T0 w0 AnchW Out o0 o1 v1) (phi n (Vc j D) tag + Ssum j D) Y (f0 + 2 * (Fsum j D + sumTo (base + 1) q)) (crowd gs w sl) (base + 1 + i) t := by
     intro g' m' hgo hs' hm h6
     exact book hgo (.refl Wg w) hwg (by simp) (by simp) hs' rfl h6 h6 (by have := hmode.same (i := i) m' dd; rwa [hst] at this) (.inr ⟨rfl, hm⟩)
   cases hsit with
   | r0 h =>
     rcases Goes.cases h with hstop | ⟨m', rfl, hstep⟩
     · obtain ⟨_, hhas', g', hgo, m₂, hk⟩ := hstop w (RW.refl w)
       have hsame : own1 own (base + 1 + i) w w = own := own1_same rfl
       refine wNx G hAr ha hcs hpi hyn hi (d' := ⟨6, m₂, 0⟩) (y' := .done v) hg hgo (.of_aside G hpi.pay (.refl Wg w) _ _ _) (.done (.k1 hk)) (fun v' e => ?_) (fun op hop => ?_) (fun op hop => ?_) (by intro e he; simp at he; subst he; simp [mk]) (by rw [hdd]; rfl) (fun _ => ?_) hwg
         (fun _ ht _ => (hmode.counted hi (by omega) (.inl rfl) _ _).retag ht) (.inl ⟨by rw [hst]; simp, by simp [cnt, hst]⟩)
       · cases e
         rw [hsame]
         exact ⟨hfin, fun _ => by simpa using hhas'⟩
       · obtain ⟨e, he, rfl⟩ := Go.Conc.mem_ofEvents hop
         simp at he; subst he
         exact ⟨rfl, fun x hx => by cases hx⟩
       · obtain ⟨e, he, rfl⟩ := Go.Conc.mem_ofEvents hop
         simp at he; subst he
         exact fun x hx => by cases hx
       · refine ⟨t.size, hpi.tsz, RelBy.new hdk _ _, fun i1 x1 hi1 _ hx1 => ?_⟩
         obtain ⟨op, ho, hox⟩ := touch_op hx1
         rcases getElem?_append_cases ho with ⟨hlt, _⟩ | ⟨_, hou⟩
         · omega
         · obtain ⟨e, he, rfl⟩ := Go.Conc.mem_ofEvents hou
           simp at he; subst he
           cases hox
     · obtain ⟨g', w', es, hgo, ⟨hac, hev⟩, hg'⟩ := hstep w (RW.refl w)
       simp only [Nat.add_sub_cancel] at hac
       have hsame : own1 own (base + 1 + i) w w' = own := own1_same hac.size
       have hst' : Stay Wg C Low (fun b => own b = base + 1 + i) w w' := ⟨fun b _ _ h1 => hac.block b h1, fun b hb => hac.block b (fun e => by subst e; rw [hpi.own0 _ G.hC] at hb; omega), by rw [hac.size]; exact Nat.le_refl _⟩
       have hevt : ∀ e ∈ es, ∀ x, (MemAct.ofEvent e).touch? = some x → ShN Wg x.loc ∧ x.kind ≠ .plain ∧ x.kind ≠ .said := fun e he x hx => by
         rcases ((hev e he).1 0 "").2 x hx with h1 | h1 | ⟨h1, _⟩
         · exact h1
         · exact h1.elim
         · exact h1.elim
       refine wNx G hAr ha hcs hpi hyn hi (d' := ⟨7, m', 0⟩) (y' := .done v) hg hgo ⟨⟨hac.os, hac.output, hac.tape⟩, by rw [hac.size]; exact Nat.le_refl _, fun b _ h1 _ _ => hac.block b h1, hac.pay hpi.pay, hac.cells⟩ (.done (.r0 hg')) (fun v' e => ?_) (fun op hop => ?_) (fun op hop => ?_) (fun e he => (hev e he).2.2.2)
         (by rw [hdd]; exact deafBehind_idle (fun e he => ⟨(hev e he).2.1, (hev e he).2.2.1⟩) 0) (fun h => absurd h (by simp)) (hwg.of_block (hac.block Wg (Ne.symm G.hCW))) (fun _ ht _ => Go.ConcN.Mode.retag (by have := hmode.same (i := i) m' 0; rwa [hst] at this) ht) (.inr (.inr ⟨hst.symm, hY.symm, by rw [hfu]⟩))
       · cases e
         rw [hsame]
         exact ⟨W.fins hfin hst', fun h => absurd h (by simp)⟩
       · obtain ⟨e, he, rfl⟩ := Go.Conc.mem_ofEvents hop
         refine ⟨rfl, fun x hx => ?_⟩
         obtain ⟨⟨a1, h1, h2⟩, h3⟩ := hevt e he x hx
         exact .inl ⟨⟨a1, h1, by rw [h2]; exact G.sbW⟩, h3⟩
       · obtain ⟨e, he, rfl⟩ := Go.Conc.mem_ofEvents hop
         intro x hx
         obtain ⟨⟨a1, h1, h2⟩, h3⟩ := hevt e he x hx
         rw [h1]
         show a1.block < _
         rw [h2, hac.size]; exact hWs
   | k1 h =>
     rcases Goes.cases h with hstop | ⟨m', rfl, hstep⟩
     · obtain ⟨_, g', hgo, m₂, hk⟩ := hstop w (RW.refl w)
       exact book hgo (.refl Wg w) hwg bk_dis (by intro jx e he; exact .inl (by have := Array.mem_of_getElem? he; simp at this; subst this; rfl)) (.d1 hk) rfl (by omega) (by omega)
         (hmode.counted hi (by omega) (.inr rfl) _ _) (.inl ⟨by omega, by simp [cnt, hst]⟩)
     · obtain ⟨g', w', es, hgo, ⟨rfl, rfl⟩, hg'⟩ := hstep w (RW.refl w)
       exact idle hgo (.k1 hg') rfl (by omega)
   | d1 h =>
     rcases Goes.cases h with hstop | ⟨m', rfl, hstep⟩
     · obtain ⟨_, hall⟩ := hstop w (RW.refl w)
       have hc1 : cnt (D i) = 1 := by simp [cnt, hst]
       have hV1 : 1 ≤ Vc j D := by have := le_sumTo (f := fun x => cnt (D x)) hi; simp only [Vc]; omega
       have df2 : ∀ jx e, (#[rd (stA Wg), wr (stA Wg)] : Array Event)[jx]? = some e → (MemAct.ofEvent e).touch? = none ∨ 0 < deafBehind 1 ((#[rd (stA Wg), wr (stA Wg)] : Array Event).extract 0 jx) := by
         intro jx e he
         match jx, he with
         | 0, _ => exact .inr (by simp [deafBehind])
         | 1, _ => exact .inr (by simp [deafBehind, rd])
         | jx + 2, he => simp at he
       have hq0 : ∀ q, cnt (⟨1, q, 1⟩ : WD) = 0 := fun _ => rfl
       have opq : ∀ q, OpenSt j D → OpenSt j (upd D i ⟨1, q, 1⟩) := fun q h a ha => by
         by_cases e : a = i
         · subst e; rw [upd_same]; simp
         · rw [upd_ne D _ e]; exact h a ha
       have hnn := G.hn
       cases hmode with
       | opn h1 h2 h3 =>
         obtain ⟨v, hv⟩ : ∃ v, Vc j D + pend tag = v + 1 := ⟨Vc j D + pend tag - 1, by omega⟩
         rw [hv] at hwg
         have hw1 : WgAt ty Wg w (((v : Nat) + 1) * KK + ((0 : Nat) : Int)) 0 := by simpa using hwg
         obtain ⟨g', hgo, _, hq⟩ := hall v 0 (by omega) (by omega) hw1
         obtain ⟨q, hq⟩ := hq (by omega)
         have hv' : Vc j (upd D i ⟨1, q, 1⟩) + pend tag = v := by have := Vc_upd D (⟨1, q, 1⟩ : WD) hi; have := hq0 q; omega
         refine book hgo (aside_setCell w (stA Wg) _) (hwg.setSt _) bk_rw df2 (.quit hq) rfl (by omega) (by omega) ?_ (.inl ⟨by omega, by simp [cnt]⟩)
         have e : ((v : Nat) : Int) * KK + ((0 : Nat) : Int) = ((Vc j (upd D i ⟨1, q, 1⟩) + pend tag : Nat) : Int) * KK := by rw [hv']; simp
         rw [e]
         exact .opn h1 (opq q h2) (fun vs ev => by have := h3 vs ev; omega)
       | reg h1 h2 h3 =>
         obtain ⟨v, hv⟩ : ∃ v, Vc j D = v + 1 := ⟨Vc j D - 1, by omega⟩
         rw [hv] at hwg
         have hp : pend tag = 0 := by cases tag <;> first | rfl | exact h1.elim
         have hw1 : WgAt ty Wg w (((v : Nat) + 1) * KK + ((1 : Nat) : Int)) 0 := by simpa using hwg
         obtain ⟨g', hgo, hl, hq⟩ := hall v 1 (by omega) (by omega) hw1
         by_cases hv0 : v = 0
         · subst hv0
           obtain ⟨m₂, hk⟩ := hl ⟨rfl, rfl⟩
           refine book hgo (aside_setCell w (stA Wg) _) (hwg.setSt _) bk_rw df2 (.d2 hk) rfl (by omega) (by omega) ?_ (.inl ⟨by omega, by simp [cnt]⟩)
           have hoth : ∀ a, a < j → a ≠ i → (D a).stage = 1 := fun a ha e => by
             have c0 := others_uncounted hi hv hc1 a ha e
             have := h2 a ha
             simp only [cnt] at c0
             split at c0 <;> omega
           have := Go.ConcN.Mode.last (j := j) (D := upd D i ⟨4, m₂, 1⟩) (tag := tag) i h1 hi (by rw [upd_same]; simp) (fun a ha e => by rw [upd_ne D _ e]; exact hoth a ha e)
           rw [upd_same] at this
           simpa using this
         · obtain ⟨q, hq⟩ := hq (by omega)
           have hv' : Vc j (upd D i ⟨1, q, 1⟩) = v := by have := Vc_upd D (⟨1, q, 1⟩ : WD) hi; have := hq0 q; omega
           refine book hgo (aside_setCell w (stA Wg) _) (hwg.setSt _) bk_rw df2 (.quit hq) rfl (by omega) (by omega) ?_ (.inl ⟨by omega, by simp [cnt]⟩)
           have e : ((v : Nat) : Int) * KK + ((1 : Nat) : Int) = ((Vc j (upd D i ⟨1, q, 1⟩) : Nat) : Int) * KK + 1 := by rw [hv']; simp
           rw [e]
           exact .reg h1 (opq q h2) (by omega)
       | last L _ h2 h3 h4 =>
         by_cases e : i = L
         · subst e; omega
         · have := h4 i hi e; omega
       | sema h2 => have := h2 i hi; omega
       | fin _ h2 => have := h2 i hi; omega
     · obtain ⟨g', w', es, hgo, ⟨rfl, rfl⟩, hg'⟩ := hstep w (RW.refl w)
       exact idle hgo (.d1 hg') rfl (by omega)
   | d2 h =>
     rcases Goes.cases h with hstop | ⟨m', rfl, hstep⟩
     · obtain ⟨_, hx⟩ := hstop w (RW.refl w)
       obtain ⟨hW3, hoth, rfl, rfl⟩ := hmode.isLast hi (by omega)
       simp only [hst] at hwg
       obtain ⟨g', hgo, m₂, hk⟩ := hx (by simpa using hwg)
       refine book hgo (.refl Wg w) hwg bk_rd (by intro jx e he; match jx, he with | 0, _ => exact .inr (by simp [deafBehind]) | jx + 1, he => simp at he) (.d3 hk) rfl (by omega) (by omega) ?_ (.inl ⟨by omega, by simp [cnt]⟩)
       have := Go.ConcN.Mode.last (j := j) (D := upd D i ⟨3, m₂, 1⟩) (tag := tag) i hW3 hi (by rw [upd_same]; simp) (fun a ha e => by rw [upd_ne D _ e]; exact hoth a ha e)
       rw [upd_same] at this
       simpa using this
     · obtain ⟨g', w', es, hgo, ⟨rfl, rfl⟩, hg'⟩ := hstep w (RW.refl w)
       exact idle hgo (.d2 hg') rfl (by omega)
   | d3 h =>
     rcases Goes.cases h with hstop | ⟨m', rfl, hstep⟩
     · obtain ⟨_, hx⟩ := hstop w (RW.refl w)
       obtain ⟨hW3, hoth, rfl, rfl⟩ := hmode.isLast hi (by omega)
       simp only [hst] at hwg
       obtain ⟨g', hgo, m₂, hk⟩ := hx (by simpa using hwg)
       refine book hgo (aside_setCell w (stA Wg) _) (hwg.setSt 0) (by intro e he; simp at he; subst he; exact bk_cell _ _ rfl) (by intro jx e he; match jx, he with | 0, _ => exact .inr (by simp [deafBehind]) | jx + 1, he => simp at he) (.d4 hk) rfl (by omega) (by omega) ?_ (.inl ⟨by omega, by simp [cnt]⟩)
       have := Go.ConcN.Mode.last (j := j) (D := upd D i ⟨2, m₂, 1⟩) (tag := tag) i hW3 hi (by rw [upd_same]; simp) (fun a ha e => by rw [upd_ne D _ e]; exact hoth a ha e)
       rw [upd_same] at this
       simpa using this
     · obtain ⟨g', w', es, hgo, ⟨rfl, rfl⟩, hg'⟩ := hstep w (RW.refl w)
       exact idle hgo (.d3 hg') rfl (by omega)
   | d4 h =>
     rcases Goes.cases h with hstop | ⟨m', rfl, hstep⟩
     · obtain ⟨_, hmw, hx⟩ := hstop w (RW.refl w)
       obtain ⟨hW3, hoth, rfl, rfl⟩ := hmode.isLast hi (by omega)
       simp only [hst] at hwg
       obtain ⟨g', hgo, q, hq⟩ := hx (by simpa using hwg)
       have hrun' : g'.status = .running := by
         cases q with
         | zero => exact absurd hq.2 (by decide)
         | succ q => exact hq.elim (fun x => absurd x.2 (by decide)) (fun x => x.1)
       refine bookG hgo (aside_setCell w (smA Wg) _) (hwg.setSm 1) (es := semEvents (smA Wg)) bk_sem ?_ (.quit hq) (by simp [deafBehind, semEvents]) (by omega) (by omega) ?_ (.inl ⟨by omega, by simp [cnt]⟩)
       · intro jx e he
         match jx, he with
         | 0, he => simp [semEvents] at he; subst he; exact .inl rfl
         | 1, _ => exact .inr (by simp [deafBehind, semEvents])
         | 2, _ => exact .inr (by simp [deafBehind, semEvents])
         | 3, he => simp [semEvents] at he; subst he; exact .inl rfl
         | jx + 4, he => simp [semEvents] at he
       · intro tag' ht hw
         have hnb := hw hmw hrun'
         have e3 : tag' = .w3 := by
           rcases ht with rfl | ⟨_, rfl⟩
           · cases tag' <;> first | rfl | exact hW3.elim | exact absurd rfl hnb
           · rfl
         subst e3
         simp only [if_true]
         exact .sema fun a ha => by
           by_cases e : a = i
           · subst e; rw [upd_same]
           · rw [upd_ne D _ e]; exact hoth a ha e
     · obtain ⟨g', w', es, hgo, ⟨rfl, rfl⟩, hg'⟩ := hstep w (RW.refl w)
       exact idle hgo (.d4 hg') rfl (by omega)
   | quit h =>
     cases m with
     | zero => rw [h.1] at hrun; cases hrun
     | succ q1 =>
       rcases h with ⟨hf, _⟩ | ⟨_, g', es, hmute, hstep, hq⟩
       · rw [hf] at hrun; cases hrun
       · have hbk : ∀ e ∈ es, Bk Wg e := fun e he => bk_of_mute (hmute e he)
         refine book (hstep w) (.refl Wg w) hwg hbk (fun jx e he => .inl (touch_mute (hmute e (Array.mem_of_getElem? he)))) (.quit hq) rfl (by omega) (by omega) (by have := hmode.same (i := i) q1 (deafBehind dd es); rwa [hst] at this) (.inr ⟨rfl, rfl⟩)
end
end
end Crw
end Go.Proofs.YthgelfnflafoiaeGreat
namespace Go.Proofs.YthgelfnflafoiaeGreat
namespace Crw
open Go.Conc Go.ConcN
open Go.ConcR (KK wgBlock WgAt stA smA rd wr mk Payload DC0 Bk g_of_ofEvents again_blocked ofEvent_loc_mark ofEvent_cell ofEvent_mk)
theorem okC_of_Bk {SB : Nat -> Prop} {Wg j : Nat} {es : Array Event} {Own Rd : Nat -> Loc -> Prop} (hW : SB Wg) {fn : FuncId} {pos : String} (h : ∀ e ∈ es, Bk Wg e) : ∀ op ∈ MemOp.ofEvents 0 fn pos es, Ok0 (ShS SB) Own Rd j op /\ ∀ B, Wg < B -> lowT B op.act := by
 intro op hop
 obtain ⟨e, he, rfl⟩ := Go.Conc.mem_ofEvents hop
 rcases h e he with h1 | h1 | ⟨a, wr, rfl, ha⟩
 · exact ⟨⟨rfl, fun x hx => by simp only [ofEvent_loc_mark h1] at hx; cases hx⟩, (fun B _ x hx => by simp only [ofEvent_loc_mark h1] at hx; cases hx)⟩
 · exact ⟨⟨rfl, fun x hx => by simp only [ofEvent_loc_mark h1] at hx; cases hx⟩, (fun B _ x hx => by simp only [ofEvent_loc_mark h1] at hx; cases hx)⟩
 · refine ⟨⟨rfl, fun x hx => ?_⟩, fun B hB x hx => ?_⟩ <;> simp only [ofEvent_cell, MemAct.touch?, Option.some.injEq] at hx <;> subst hx
   · exact .inl ⟨⟨a, rfl, by rw [ha]; exact hW⟩, by simp⟩
   · show a.block < B
     omega
section
variable [Payload]
section
variable (P : Program) {SB : Nat -> Prop} (ty : TypeId) (Wg : Nat) {C n Low : Nat} (W : WSpec P SB ty Wg C n Low) (base : Nat) (w0 : World) (Out : Goroutine -> Prop)
structure Joined (gs : Array Goroutine) (a : Goroutine) (w : World) (t : Trace) (q own : Nat -> Nat) : Prop where
 zero : gs[0]? = some a
 out : Out a
 size : gs.size = base + 1 + n
 fr : Fr P SB gs q w t
 old : ∀ b, b < Low -> b ≠ Wg -> b ≠ C -> w.heap[b]? = w0.heap[b]?
 pay : PayAt C n w
 fin : ∀ i, i < n -> ∃ v, Has C i v w /\ W.Fin i v w (fun b => own b = base + 1 + i)
 own : ∀ b, own b ≠ 0 -> Low <= b /\ b < w.heap.size
 same : w.os = w0.os /\ w.output = w0.output /\ w.tape = w0.tape
 live : WgLive ty Wg w
end
section
variable {P : Program} {SB : Nat -> Prop} {ty : TypeId} {Wg C n Low : Nat} {W : WSpec P SB ty Wg C n Low} {base T0 : Nat} {w0 : World} {AnchW : Goroutine -> World -> Prop} {Out : Goroutine -> Prop} {o0 : Obj} {o1 : Nat -> Obj} {v1 : Nat -> Value}
 {gs : Array Goroutine} {w w' : World} {sl : Option (Nat × Nat)} {t : Trace} {own : Nat -> Nat} {j : Nat} {D : Nat -> WD} {Y : Nat -> Stt W.X} {q : Nat -> Nat} {f0 f' d0 : Nat} {nbo nbo' : Option (Nat × Obj)} {tag tag' : CTag} {a a' : Goroutine} {st sm st' sm' : Int} {es : Array Event}
theorem cNx (G : Geom SB Wg C Low n) (ha : gs[0]? = some a) (hpi : (PI P ty Wg W base T0 w0) gs w t own j D Y q d0 nbo) (hyn : ∀ k, j <= k -> ∃ v, Y k = .done v) (hgo : stepG P true a w = .go a' w' es)
   (hout : w'.os = w.os /\ w'.output = w.output /\ w'.tape = w.tape) (hsize : w.heap.size <= w'.heap.size)
   (hsame : ∀ b, b < w.heap.size -> b ≠ Wg -> (∀ o, nbo ≠ some (b, o)) -> w'.heap[b]? = w.heap[b]?)
   (hok : ∀ op ∈ MemOp.ofEvents 0 a.frame.fn a.frame.place es, Ok0 (ShS SB) (OwnF base C n own) (RdF base Low C SB) (base + j) op) (hlow : ∀ op ∈ MemOp.ofEvents 0 a.frame.fn a.frame.place es, lowT w'.heap.size op.act) (hnr : ∀ e ∈ es, e.loc ≠ .mark (.release (stA Wg)))
   (hnb : ∀ b o, nbo' = some (b, o) -> Low <= b /\ b < w'.heap.size /\ own b = 0 /\ w'.heap[b]? = some o)
   (hcs' : (CS P ty Wg n AnchW Out W w0 o0 o1 v1) tag' j f' (deafBehind d0 es) nbo' a' w') (hwg : WgAt ty Wg w' st' sm') (hmode : Go.ConcN.Mode j D tag' st' sm')
   (hlt : phi n (Vc j D) tag' < phi n (Vc j D) tag \/ (phi n (Vc j D) tag' = phi n (Vc j D) tag /\ f' < f0)) :
   (Nx P ty Wg W base T0 w0 AnchW Out o0 o1 v1) (phi n (Vc j D) tag + Ssum j D) Y (f0 + 2 * (Fsum j D + sumTo (base + 1) q)) (crowd gs w sl) 0 t := by
 have hrun := runT_crowd_go (P := P) (sl := sl) (i := 0) ha (by simpa using hgo)
 refine ⟨_, _, phi n (Vc j D) tag' + Ssum j D, Y, f' + 2 * (Fsum j D + sumTo (base + 1) q), hrun, ?_,
   _, w', sl, own, j, D, tag', f', deafBehind d0 es, nbo', a', st', sm', q, rfl, get_map_set_same _ _ _ (by rw [hpi.size]; omega), hcs', hpi.step0 G hout hsize ⟨_, _, hwg⟩ hsame hok hlow hnr hnb, hwg, hmode, hyn, rfl, rfl⟩
 rcases hlt with h | ⟨h1, h2⟩
 · exact .inl (by omega)
 · exact .inr (.inr ⟨by rw [h1], rfl, by omega⟩)
theorem bookC (G : Geom SB Wg C Low n) (ha : gs[0]? = some a) (hpi : (PI P ty Wg W base T0 w0) gs w t own j D Y q d0 nbo) (hyn : ∀ k, j <= k -> ∃ v, Y k = .done v) (hgo : stepG P true a w = .go a' w' es)
   (hAs : Aside Wg w w') (hbk : ∀ e ∈ es, Bk Wg e) (hnb : nbo' = nbo) (hcs' : (CS P ty Wg n AnchW Out W w0 o0 o1 v1) tag' j f' (deafBehind d0 es) nbo' a' w') (hwg : WgAt ty Wg w' st' sm') (hmode : Go.ConcN.Mode j D tag' st' sm')
   (hlt : phi n (Vc j D) tag' < phi n (Vc j D) tag \/ (phi n (Vc j D) tag' = phi n (Vc j D) tag /\ f' < f0)) :
   (Nx P ty Wg W base T0 w0 AnchW Out o0 o1 v1) (phi n (Vc j D) tag + Ssum j D) Y (f0 + 2 * (Fsum j D + sumTo (base + 1) q)) (crowd gs w sl) 0 t := by
 have hWs : Wg < w.heap.size := Nat.lt_of_lt_of_le G.hW hpi.lo
 refine cNx G ha hpi hyn hgo ⟨hAs.os, hAs.output, hAs.tape⟩ (by rw [hAs.size]; exact Nat.le_refl _) (fun b _ h1 _ => hAs.block b h1) (fun op hop => (okC_of_Bk G.sbW hbk op hop).1) (fun op hop => (okC_of_Bk (j := 0) (Own := noP) (Rd := noP) G.sbW hbk op hop).2 _ (by rw [hAs.size]; exact hWs)) (norel_of_Bk hbk) (fun b o hb => ?_) hcs' hwg hmode hlt
 subst hnb
 obtain ⟨h1, h2, h3, h4⟩ := hpi.nb b o hb
 exact ⟨h1, by rw [hAs.size]; exact h2, h3, by rw [hAs.block b (by have := G.hW; omega)]; exact h4⟩
theorem idleC (G : Geom SB Wg C Low n) (ha : gs[0]? = some a) (hpi : (PI P ty Wg W base T0 w0) gs w t own j D Y q d0 nbo) (hyn : ∀ k, j <= k -> ∃ v, Y k = .done v) (hgo : stepG P true a w = .go a' w' es) (hD : D0 Wg w w' es)
   (hcs' : (CS P ty Wg n AnchW Out W w0 o0 o1 v1) tag j f' d0 nbo a' w') (hwg : WgAt ty Wg w st sm) (hmode : Go.ConcN.Mode j D tag st sm) (hf : f' < f0) :
   (Nx P ty Wg W base T0 w0 AnchW Out o0 o1 v1) (phi n (Vc j D) tag + Ssum j D) Y (f0 + 2 * (Fsum j D + sumTo (base + 1) q)) (crowd gs w sl) 0 t := by
 obtain ⟨rfl, hev⟩ := hD
 have hWs : Wg < w'.heap.size := Nat.lt_of_lt_of_le G.hW hpi.lo
 have hdf : deafBehind d0 es = d0 := deafBehind_idle (fun e he => ⟨(hev e he).2.1, (hev e he).2.2.1⟩) d0
 refine cNx G ha hpi hyn hgo ⟨rfl, rfl, rfl⟩ (Nat.le_refl _) (fun _ _ _ _ => rfl) (fun op hop => ?_) (fun op hop => ?_) (fun e he => (hev e he).2.2.2) hpi.nb (by rw [hdf]; exact hcs') hwg hmode (.inr ⟨rfl, hf⟩)
 · obtain ⟨e, he, rfl⟩ := Go.Conc.mem_ofEvents hop
   refine ⟨rfl, fun x hx => ?_⟩
   obtain ⟨⟨a1, h1, h2⟩, h3⟩ := (hev e he).1 x hx
   exact .inl ⟨⟨a1, h1, by rw [h2]; exact G.sbW⟩, h3⟩
 · obtain ⟨e, he, rfl⟩ := Go.Conc.mem_ofEvents hop
   intro x hx
   obtain ⟨⟨a1, h1, h2⟩, h3⟩ := (hev e he).1 x hx
   rw [h1]
   show a1.block < _
   rw [h2]; exact hWs
theorem w1Step (G : Geom SB Wg C Low n) (ha : gs[0]? = some a) (hpi : (PI P ty Wg W base T0 w0) gs w t own n D Y q 1 none) (hyn : ∀ k, n <= k -> ∃ v, Y k = .done v) (hwg : WgAt ty Wg w st sm) (hmode : Go.ConcN.Mode n D .w1 st sm)
   (h : Goes P true (R0 ty Wg) (D0 Wg) (AtW1 P ty Wg AnchW Out) f0 a w) : (Nx P ty Wg W base T0 w0 AnchW Out o0 o1 v1) (phi n (Vc n D) .w1 + Ssum n D) Y (f0 + 2 * (Fsum n D + sumTo (base + 1) q)) (crowd gs w sl) 0 t := by
 rcases Goes.cases h with hstop | ⟨m', rfl, hstep⟩
 · obtain ⟨_, hall⟩ := hstop w (R0.refl ty Wg w)
   obtain ⟨ho, rfl, rfl, _⟩ := hmode.open_inv trivial
   have hV := Vc_le n D
   have hnn := G.hn
   obtain ⟨a', hgo, h0, hne⟩ := hall (Vc n D) (by omega) (by simpa [pend] using hwg)
   by_cases hv : Vc n D = 0
   · obtain ⟨m₂, hk⟩ := h0 hv
     refine bookC G ha hpi hyn hgo (.refl Wg w) bk_rd rfl (tag' := .ke) (.ke hk) hwg ?_ (.inl (by simp only [phi]; omega))
     have e : ((Vc n D + pend .w1 : Nat) : Int) * KK = 0 := by rw [hv]; simp [pend]
     rw [e]
     exact .fin trivial (allQuit_of ho hv)
   · obtain ⟨m₂, hk⟩ := hne hv
     exact bookC G ha hpi hyn hgo (.refl Wg w) bk_rd rfl (tag' := .w2 (Vc n D)) (.w2 hk) hwg (hmode.reopen trivial trivial rfl (fun vs e => by cases e; omega)) (.inl (by simp only [phi]; omega))
 · obtain ⟨a', w', es, hgo, hD, hg'⟩ := hstep w (R0.refl ty Wg w)
   exact idleC G ha hpi hyn hgo hD (.w1 hg') hwg hmode (by omega)
theorem acqStep (ha : gs[0]? = some a) (hl : WgLive ty Wg w) (G : Geom SB Wg C Low n) (hpi : (PI P ty Wg W base T0 w0) gs w t own n D Y q 0 none) (hq : AllQuit n D) (hgo : stepG P true a w = .go a' w #[mk (.acquire (stA Wg))]) (hO : Out a') :
   ∃ gs' ops q', runT P (crowd gs w sl) 0 = (.next (crowd gs' w sl), ops) /\ Joined P ty Wg W base w0 Out gs' a' w (t ++ ops) q' own := by
 have hrun := runT_crowd_go (P := P) (sl := sl) (i := 0) ha (by simpa using hgo)
 have hsz := hpi.size
 have e1 : MemOp.ofEvents 0 a.frame.fn a.frame.place #[mk (.acquire (stA Wg))] = #[{ g := 0, fn := a.frame.fn, pos := a.frame.place, act := .mark (.acquire (stA Wg)) }] := by rw [ofEvents_eq]; simp [ofEvent_mk]
 have hy : (t ++ #[({ g := 0, fn := a.frame.fn, pos := a.frame.place, act := .mark (.acquire (stA Wg)) } : MemOp)])[t.size]? = some { g := 0, fn := a.frame.fn, pos := a.frame.place, act := .mark (.acquire (stA Wg)) } := by simp
 have hok : ∀ op ∈ MemOp.ofEvents 0 a.frame.fn a.frame.place #[mk (.acquire (stA Wg))], op.act.touch? = none /\ op.g = 0 /\ op.act ≠ .mark (.release (stA Wg)) := by
   intro op hop
   rw [e1] at hop
   simp at hop
   subst hop
   exact ⟨rfl, rfl, by simp⟩
 have hT := Tr.app0 (apartF G hpi.own0) hpi.tr (fun op hop => ⟨(hok op hop).2.1, fun x hx => by rw [(hok op hop).1] at hx; cases hx⟩) (fun op hop => lowT_none (hok op hop).1)
 have hB := hT.back (q := t.size) (T0 := T0) (norel_app hpi.norel fun op hop => (hok op hop).2.2) (by rw [e1, act?_of hy]) (by rw [e1]; simp [Trace.g?])
   (by rw [e1]; exact ⟨0, by simp [Trace.g?], by rw [deaf_old (Nat.le_refl _)]; exact hpi.deaf0⟩) (fun k hk hkn => by
     obtain ⟨i, rfl⟩ : ∃ i, k = base + 1 + i := ⟨k - base - 1, by omega⟩
     obtain ⟨r, hr0, hr⟩ := hpi.rel i (by omega) (by rw [hq i (by omega)]; omega)
     exact ⟨r, hr0, hr.app (hr.by_.appOther (fun op hop => (hok op hop).2.1) (by omega)) fun op hop hg => by have := (hok op hop).2.1; omega, lt_of_act? hr.by_.act⟩)
 have wkq : ∀ i, i < n -> ∃ g v, gs[base + 1 + i]? = some g /\ Y i = .done v /\ QuitsD P (D i).fuel (D i).deaf g := by
   intro i hi
   obtain ⟨g, hg, hs⟩ := hpi.wk i hi
   generalize hYi : Y i = y at hs
   cases hs with
   | work h7 => have := hq i hi; omega
   | done hs => exact ⟨g, _, hg, rfl, hs.quits (hq i hi)⟩
 refine ⟨_, _, fun k => if k <= base then q k else (D (k - base - 1)).fuel, hrun, ⟨get_map_set_same _ _ _ (by omega), hO, by simp [hsz], ⟨fun k x hk hx => ?_, fun k hk => ?_, ?_, ?_, fun b hb => Nat.lt_of_lt_of_le (G.sbL b hb) hpi.lo⟩, hpi.old, hpi.pay, fun i hi => ?_, fun b hb => ?_, hpi.out, hl⟩⟩
 · rw [get_map_set _ _ _ _ (by omega)] at hx
   obtain ⟨y, hy', rfl⟩ := Option.map_eq_some_iff.1 hx
   rw [Deaf_other t (by omega) _ g_of_ofEvents]
   by_cases hkb : k <= base
   · have := hpi.lv k y hk hkb hy'
     rw [woken_quitsD this]
     simp only [hkb, if_true]
     exact this
   · obtain ⟨i, rfl⟩ : ∃ i, k = base + 1 + i := ⟨k - base - 1, by omega⟩
     have hin : i < n := by have := (Array.getElem?_eq_some_iff.1 hy').1; omega
     obtain ⟨g, v, hg, _, hqq⟩ := wkq i hin
     rw [hy'] at hg; cases hg
     rw [woken_quitsD hqq]
     simp only [hkb, if_false, show base + 1 + i - base - 1 = i by omega]
     rw [hpi.deafW i hin]
     exact hqq
 · simp only [Array.size_setIfInBounds, Array.size_map] at hk
   rw [Deaf_other t (by omega) _ g_of_ofEvents]
   exact hpi.above k hk
 · have : ((gs.map (woken P a a' w)).setIfInBounds 0 a').size - 1 = base + n := by
     simp only [Array.size_setIfInBounds, Array.size_map, hsz]
     omega
   rw [this]
   exact hB
 · rw [Deaf_own, hpi.deaf0]
   rfl
 · obtain ⟨g, v, _, hYv, _⟩ := wkq i hi
   obtain ⟨h1, h2⟩ := hpi.fin i v hi hYv
   exact ⟨v, h2 (by rw [hq i hi]; omega), h1⟩
 · exact ⟨Nat.le_of_not_lt fun hlt => hb (hpi.own0 b hlt), (hpi.ownR b hb).1⟩
set_option maxHeartbeats 1600000 in
theorem stepCaller (G : Geom SB Wg C Low n) (hAn : ∀ g w, AnchW g w -> ∃ m, Goes P true (R0 ty Wg) (D0 Wg) (AtW1 P ty Wg AnchW Out) m g w)
   (ha : gs[0]? = some a) (hcs : (CS P ty Wg n AnchW Out W w0 o0 o1 v1) tag j f0 d0 nbo a w) (hpi : (PI P ty Wg W base T0 w0) gs w t own j D Y q d0 nbo) (hyn : ∀ k, j <= k -> ∃ v, Y k = .done v) (hwg : WgAt ty Wg w st sm) (hmode : Go.ConcN.Mode j D tag st sm) (hrun : a.status = .running) :
   (Nx P ty Wg W base T0 w0 AnchW Out o0 o1 v1) (phi n (Vc j D) tag + Ssum j D) Y (f0 + 2 * (Fsum j D + sumTo (base + 1) q)) (crowd gs w sl) 0 t \/
   ∃ gs' a' ops q' own', runT P (crowd gs w sl) 0 = (.next (crowd gs' w sl), ops) /\ Joined P ty Wg W base w0 Out gs' a' w (t ++ ops) q' own' := by
 have hVj := Vc_le j D
 have hb := hcs.bound
 have hnn := G.hn
 have rr := R0.refl ty Wg w
 cases hcs with
 | snew hr h =>
   rename_i r
   left
   rcases Goes.cases h with hstop | ⟨m', rfl, hstep⟩
   · obtain ⟨_, a', hgo, m₂, hk⟩ := hstop w rr
     refine cNx G ha hpi hyn hgo ⟨rfl, rfl, rfl⟩ (by simp) (fun b hb' _ _ => ?_) (by rw [ofEvents_eq]; simp) (by rw [ofEvents_eq]; simp) (by simp) (fun b o e => ?_) (.sput hr hk) (tag' := .sp r 6) (hwg.of_block ?_) (hmode.reopen trivial trivial (by simp [pend]) (by simp)) (.inl (by simp only [phi]; omega))
     · simp only; rw [Array.getElem?_push_lt hb', Array.getElem?_eq_getElem hb']
     · cases e
       refine ⟨hpi.lo, by simp, Classical.byContradiction fun h0 => ?_, by simp⟩
       have := (hpi.ownR _ h0).1
       omega
     · have hWs : Wg < w.heap.size := Nat.lt_of_lt_of_le G.hW hpi.lo
       simp only; rw [Array.getElem?_push_lt hWs, Array.getElem?_eq_getElem hWs]
   · obtain ⟨a', w', es, hgo, hD, hg'⟩ := hstep w rr
     exact idleC G ha hpi hyn hgo hD (.snew hr hg') hwg hmode (by omega)
 | sput hr h =>
   rename_i r nb
   left
   obtain ⟨n1, n2, n3, n4⟩ := hpi.nb nb o0 rfl
   rcases Goes.cases h with hstop | ⟨m', rfl, hstep⟩
   · obtain ⟨_, hx⟩ := hstop w rr
     obtain ⟨a', hgo, hnew, m₂, hk⟩ := hx n4
     have hset : (w.setCell ⟨nb, 0, none⟩ (v1 (n - (r + 1)))).heap.size = w.heap.size := by simp [World.setCell]
     have hoth : ∀ b, b ≠ nb -> (w.setCell ⟨nb, 0, none⟩ (v1 (n - (r + 1)))).heap[b]? = w.heap[b]? := fun b hb' => (aside_setCell w ⟨nb, 0, none⟩ _).block b hb'
     refine cNx G ha hpi hyn hgo ⟨rfl, rfl, rfl⟩ (by rw [hset]; exact Nat.le_refl _) (fun b _ _ h3 => hoth b fun e => h3 o0 (by rw [e])) (fun op hop => ?_) (fun op hop => ?_) (by intro e he; simp at he; subst he; simp) (fun b o e => ?_) (.skd hr hk) (tag' := .sp r 5) (hwg.of_block (hoth Wg (by have := G.hW; omega))) (hmode.reopen trivial trivial (by simp [pend]) (by simp)) (.inl (by simp only [phi]; omega))
     · obtain ⟨e, he, rfl⟩ := Go.Conc.mem_ofEvents hop
       simp at he; subst he
       refine ⟨rfl, fun x hx => .inr ?_⟩
       simp only [ofEvent_cell, MemAct.touch?, Option.some.injEq] at hx
       subst hx
       refine ⟨fun ⟨a1, e1, e2⟩ => by cases e1; have := G.sbL _ e2; simp only at this; omega, fun k k1 kj hk' => ?_, fun _ k k1 kj hk' => ?_⟩
       · rcases hk' with ⟨h1, b, h2, h3⟩ | ⟨h1, h2, h3⟩
         · simp only [blkOf, Option.some.injEq] at h2; subst h2; omega
         · simp only [Loc.cell.injEq, Addr.mk.injEq] at h3; have := G.hC; omega
       · obtain ⟨h1, b, h2, h3, _⟩ := hk'
         simp only [blkOf, Option.some.injEq] at h2; subst h2; omega
     · obtain ⟨e, he, rfl⟩ := Go.Conc.mem_ofEvents hop
       simp at he; subst he
       intro x hx
       simp only [ofEvent_cell, MemAct.touch?, Option.some.injEq] at hx
       subst hx
       show nb < _
       rw [hset]; exact n2
     · cases e
       exact ⟨n1, by rw [hset]; exact n2, n3, hnew⟩
   · obtain ⟨a', w', es, hgo, hD, hg'⟩ := hstep w rr
     exact idleC G ha hpi hyn hgo hD (.sput hr hg') hwg hmode (by omega)
 | skd hr h =>
   left
   rcases Goes.cases h with hstop | ⟨m', rfl, hstep⟩
   · obtain ⟨_, a', hgo, m₂, hk⟩ := hstop w rr
     exact bookC G ha hpi hyn hgo (.refl Wg w) bk_dis rfl (.sa1 hr hk) hwg (hmode.reopen trivial trivial rfl (by simp)) (.inl (by simp only [phi]; omega))
   · obtain ⟨a', w', es, hgo, hD, hg'⟩ := hstep w rr
     exact idleC G ha hpi hyn hgo hD (.skd hr hg') hwg hmode (by omega)
 | sa1 hr h =>
   rename_i r nb
   left
   rcases Goes.cases h with hstop | ⟨m', rfl, hstep⟩
   · obtain ⟨_, hall⟩ := hstop w rr
     obtain ⟨ho, rfl, rfl, _⟩ := hmode.open_inv trivial
     obtain ⟨a', hgo, m₂, hk⟩ := hall (Vc (n - (r + 1)) D) (by omega) (by simpa [pend] using hwg)
     refine bookC G ha hpi hyn hgo (aside_setCell w (stA Wg) _) bk_rw rfl (.ske hr hk) (hwg.setSt _) ?_ (.inl (by simp only [phi]; omega))
     have e : (((Vc (n - (r + 1)) D : Nat) : Int) + 1) * KK = ((Vc (n - (r + 1)) D + pend (.sp r 3) : Nat) : Int) * KK := by simp [pend]
     rw [e]
     exact .opn trivial ho (by simp)
   · obtain ⟨a', w', es, hgo, hD, hg'⟩ := hstep w rr
     exact idleC G ha hpi hyn hgo hD (.sa1 hr hg') hwg hmode (by omega)
 | ske hr h =>
   left
   rcases Goes.cases h with hstop | ⟨m', rfl, hstep⟩
   · obtain ⟨_, a', hgo, m₂, hk⟩ := hstop w rr
     exact bookC G ha hpi hyn hgo (.refl Wg w) bk_en rfl (.sgo hr hk) hwg (hmode.reopen trivial trivial rfl (by simp)) (.inl (by simp only [phi]; omega))
   · obtain ⟨a', w', es, hgo, hD, hg'⟩ := hstep w rr
     exact idleC G ha hpi hyn hgo hD (.ske hr hg') hwg hmode (by omega)
 | sgo hr h =>
   rename_i r nb
   left
   rcases Goes.cases h with hstop | ⟨m', rfl, hstep⟩
   · obtain ⟨_, a', child, hsp, hnext, hborn⟩ := hstop w rr
     obtain ⟨x0, hx0⟩ := hborn (hpi.nb nb _ rfl).2.2.2 hpi.old hpi.pay ⟨_, _, hwg⟩
     obtain ⟨ho, rfl, rfl, _⟩ := hmode.open_inv trivial
     have hrun' := runT_crowd_spawn (P := P) (sl := sl) (i := 0) ha (by simpa using hsp)
     rw [hpi.size] at hrun'
     have hpi' := hpi.spawn G (by omega) (a' := a') (x := { g := 0, fn := a.frame.fn, pos := a.frame.place, act := .go (base + 1 + (n - (r + 1))) }) (y := { g := base + 1 + (n - (r + 1)), fn := child.frame.fn, pos := a.frame.place, act := .start }) ⟨rfl, by rw [show base + 1 + (n - (r + 1)) = base + (n - (r + 1)) + 1 by omega]⟩ ⟨by show base + 1 + (n - (r + 1)) = _; omega, rfl⟩ hx0
     have eV : Vc (n - (r + 1) + 1) (upd D (n - (r + 1)) ⟨7, 0, 0⟩) = Vc (n - (r + 1)) D + 1 := by
       simp only [Vc, sumTo, upd_same]
       rw [sumTo_upd_out D _ cnt (Nat.le_refl _)]; rfl
     have eS : Ssum (n - (r + 1) + 1) (upd D (n - (r + 1)) ⟨7, 0, 0⟩) = Ssum (n - (r + 1)) D + 7 := by
       simp only [Ssum, sumTo, upd_same]
       rw [sumTo_upd_out D _ WD.stage (Nat.le_refl _)]
     have ho' : OpenSt (n - (r + 1) + 1) (upd D (n - (r + 1)) ⟨7, 0, 0⟩) := fun i hi => by
       by_cases e : i = n - (r + 1)
       · subst e; rw [upd_same]; simp
       · rw [upd_ne D _ e]; exact ho i (by omega)
     have ha' : ((gs.setIfInBounds 0 a').push child)[0]? = some a' := by
       have h0 : 0 < gs.size := by rw [hpi.size]; omega
       rw [Array.getElem?_push_lt (by simpa using h0), <- Array.getElem?_eq_getElem]
       simp [h0]
     have ej : n - (r + 1) + 1 = n - r := by omega
     have hyn' : ∀ k, n - (r + 1) + 1 <= k -> ∃ v, upd Y (n - (r + 1)) (.at_ x0) k = .done v := fun k hk => by rw [upd_ne Y _ (by omega)]; exact hyn k (by omega)
     have ops0 : ((MemOp.ofEvents 0 a.frame.fn a.frame.place #[]).push { g := 0, fn := a.frame.fn, pos := a.frame.place, act := .go (base + 1 + (n - (r + 1))) } |>.push { g := base + 1 + (n - (r + 1)), fn := child.frame.fn, pos := a.frame.place, act := .start }) = #[{ g := 0, fn := a.frame.fn, pos := a.frame.place, act := .go (base + 1 + (n - (r + 1))) }, { g := base + 1 + (n - (r + 1)), fn := child.frame.fn, pos := a.frame.place, act := .start }] := by
       rw [ofEvents_eq]; simp
     rw [ops0] at hrun'
     have est : ∀ tag', pend tag' = 0 -> ((Vc (n - (r + 1)) D + pend (.sp r 2) : Nat) : Int) * KK = ((Vc (n - (r + 1) + 1) (upd D (n - (r + 1)) ⟨7, 0, 0⟩) + pend tag' : Nat) : Int) * KK := fun tag' hp => by rw [eV, hp]; simp [pend]
     cases r with
     | zero =>
       obtain ⟨m₂, hk⟩ := hnext
       have en : n - (0 + 1) + 1 = n := by omega
       have hm : Go.ConcN.Mode (n - (0 + 1) + 1) (upd D (n - (0 + 1)) ⟨7, 0, 0⟩) .kd (((Vc (n - (0 + 1)) D + pend (.sp 0 2) : Nat) : Int) * KK) 0 := by
         rw [est .kd rfl]
         exact .opn trivial ho' (by simp)
       refine ⟨_, _, _, upd Y (n - (0 + 1)) (.at_ x0), m₂ + 2 * (Fsum n (upd D (n - (0 + 1)) ⟨7, 0, 0⟩) + sumTo (base + 1) q), hrun', ?_, _, w, sl, upd own nb (base + 1 + (n - (0 + 1))), n, upd D (n - (0 + 1)) ⟨7, 0, 0⟩, .kd, m₂, 0, none, a', _, _, q, rfl, ha', .kd hk, ?_, hwg, ?_, ?_, rfl, rfl⟩
       · refine .inl ?_
         rw [en] at eV eS
         rw [eV, eS]
         simp only [phi]
         omega
       · rw [en] at hpi'; exact hpi'
       · rw [en] at hm; exact hm
       · rw [en] at hyn'; exact hyn'
     | succ r =>
       obtain ⟨m₂, hk⟩ := hnext
       have en : n - (r + 1 + 1) + 1 = n - (r + 1) := by omega
       have hm : Go.ConcN.Mode (n - (r + 1 + 1) + 1) (upd D (n - (r + 1 + 1)) ⟨7, 0, 0⟩) (.sp r 7) (((Vc (n - (r + 1 + 1)) D + pend (.sp (r + 1) 2) : Nat) : Int) * KK) 0 := by
         rw [est (.sp r 7) rfl]
         exact .opn trivial ho' (by simp)
       refine ⟨_, _, _, upd Y (n - (r + 1 + 1)) (.at_ x0), m₂ + 2 * (Fsum (n - (r + 1)) (upd D (n - (r + 1 + 1)) ⟨7, 0, 0⟩) + sumTo (base + 1) q), hrun', ?_, _, w, sl, upd own nb (base + 1 + (n - (r + 1 + 1))), n - (r + 1), upd D (n - (r + 1 + 1)) ⟨7, 0, 0⟩, .sp r 7, m₂, 0, none, a', _, _, q, rfl, ha', .snew (by omega) hk, ?_, hwg, ?_, ?_, rfl, rfl⟩
       · refine .inl ?_
         rw [en] at eV eS
         rw [eV, eS]
         simp only [phi]
         omega
       · rw [en] at hpi'; exact hpi'
       · rw [en] at hm; exact hm
       · rw [en] at hyn'; exact hyn'
   · obtain ⟨a', w', es, hgo, hD, hg'⟩ := hstep w rr
     exact idleC G ha hpi hyn hgo hD (.sgo hr hg') hwg hmode (by omega)
 | kd h =>
   left
   rcases Goes.cases h with hstop | ⟨m', rfl, hstep⟩
   · obtain ⟨_, a', hgo, m₂, hk⟩ := hstop w rr
     exact bookC G ha hpi hyn hgo (.refl Wg w) bk_dis rfl (.anch hk) hwg (hmode.reopen trivial trivial rfl (by simp)) (.inl (by simp only [phi]; omega))
   · obtain ⟨a', w', es, hgo, hD, hg'⟩ := hstep w rr
     exact idleC G ha hpi hyn hgo hD (.kd hg') hwg hmode (by omega)
 | anch h =>
   left
   rcases Goes.cases h with hstop | ⟨m', rfl, hstep⟩
   · obtain ⟨m₂, hk⟩ := hAn a w (hstop w rr)
     obtain ⟨m₁, ops, N', Y', F', h1, h2, h3⟩ := w1Step (base := base) (w0 := w0) (o0 := o0) (o1 := o1) (v1 := v1) (T0 := T0) (sl := sl) G ha hpi hyn hwg (hmode.reopen trivial trivial rfl (by simp)) hk
     refine ⟨m₁, ops, N', Y', F', h1, .inl ?_, h3⟩
     simp only [phi] at h2 ⊢
     rcases h2 with h2 | ⟨h2, _⟩ | ⟨h2, _⟩ <;> omega
   · obtain ⟨a', w', es, hgo, hD, hg'⟩ := hstep w rr
     exact idleC G ha hpi hyn hgo hD (.anch hg') hwg hmode (by omega)
 | w1 h => exact .inl (w1Step G ha hpi hyn hwg hmode h)
 | w2 h =>
   rename_i vs
   left
   rcases Goes.cases h with hstop | ⟨m', rfl, hstep⟩
   · obtain ⟨_, hall⟩ := hstop w rr
     obtain ⟨ho, rfl, rfl, hw2⟩ := hmode.open_inv trivial
     obtain ⟨hle, h1⟩ := hw2 vs rfl
     obtain ⟨hhit, hmiss⟩ := hall (Vc n D) (by omega) (by simpa [pend] using hwg)
     by_cases e : Vc n D = vs
     · obtain ⟨a', hgo, m₂, hk⟩ := hhit e
       exact bookC G ha hpi hyn hgo (aside_setCell w (stA Wg) _) bk_rw rfl (.w3 hk) (hwg.setSt _) (.reg trivial ho (by omega)) (.inl (by simp only [phi]; omega))
     · obtain ⟨a', hgo, m₂, hk⟩ := hmiss e
       exact bookC G ha hpi hyn hgo (.refl Wg w) bk_rd rfl (.anch hk) hwg (hmode.reopen trivial trivial rfl (by simp)) (.inl (by simp only [phi]; omega))
   · obtain ⟨a', w', es, hgo, hD, hg'⟩ := hstep w rr
     exact idleC G ha hpi hyn hgo hD (.w2 hg') hwg hmode (by omega)
 | w3 h =>
   left
   rcases Goes.cases h with hstop | ⟨m', rfl, hstep⟩
   · obtain ⟨_, hoff, hblk, htake⟩ := hstop w rr
     cases hmode with
     | opn h1 _ _ => exact h1.elim
     | reg h1 h2 h3 => exact bookC G ha hpi hyn (hblk ⟨_, hwg⟩) (.refl Wg w) (by simp) rfl (.blk hstop) hwg (.reg trivial h2 h3) (.inr ⟨rfl, by omega⟩)
     | last L h1 h2 h3 h4 => exact bookC G ha hpi hyn (hblk ⟨_, hwg⟩) (.refl Wg w) (by simp) rfl (.blk hstop) hwg (.last L trivial h2 h3 h4) (.inr ⟨rfl, by omega⟩)
     | sema h2 =>
       obtain ⟨a', hgo, m₂, hk⟩ := htake hwg
       exact bookC G ha hpi hyn hgo (aside_setCell w (smA Wg) _) bk_sem rfl (.w4 hk) (hwg.setSm 0) (.fin trivial h2) (.inl (by simp only [phi]; omega))
     | fin h1 _ => exact h1.elim
   · obtain ⟨a', w', es, hgo, hD, hg'⟩ := hstep w rr
     exact idleC G ha hpi hyn hgo hD (.w3 hg') hwg hmode (by omega)
 | blk h => simp at hrun
 | w4 h =>
   left
   rcases Goes.cases h with hstop | ⟨m', rfl, hstep⟩
   · obtain ⟨_, hx⟩ := hstop w rr
     obtain ⟨hq, rfl, rfl⟩ := hmode.fin_inv trivial
     obtain ⟨a', hgo, m₂, hk⟩ := hx hwg
     exact bookC G ha hpi hyn hgo (.refl Wg w) bk_rd rfl (.ke hk) hwg (.fin trivial hq) (.inl (by simp only [phi]; omega))
   · obtain ⟨a', w', es, hgo, hD, hg'⟩ := hstep w rr
     exact idleC G ha hpi hyn hgo hD (.w4 hg') hwg hmode (by omega)
 | ke h =>
   left
   rcases Goes.cases h with hstop | ⟨m', rfl, hstep⟩
   · obtain ⟨_, a', hgo, m₂, hk⟩ := hstop w rr
     obtain ⟨hq, rfl, rfl⟩ := hmode.fin_inv trivial
     exact bookC G ha hpi hyn hgo (.refl Wg w) bk_en rfl (.acq hk) hwg (.fin trivial hq) (.inl (by simp only [phi]; omega))
   · obtain ⟨a', w', es, hgo, hD, hg'⟩ := hstep w rr
     exact idleC G ha hpi hyn hgo hD (.ke hg') hwg hmode (by omega)
 | acq h =>
   rcases Goes.cases h with hstop | ⟨m', rfl, hstep⟩
   · obtain ⟨_, a', hgo, hO⟩ := hstop w rr
     obtain ⟨hq, rfl, rfl⟩ := hmode.fin_inv trivial
     right
     obtain ⟨gs', ops, q', h1, h2⟩ := acqStep (sl := sl) ha ⟨_, _, hwg⟩ G hpi hq hgo hO
     exact ⟨gs', a', ops, q', own, h1, h2⟩
   · obtain ⟨a', w', es, hgo, hD, hg'⟩ := hstep w rr
     exact .inl (idleC G ha hpi hyn hgo hD (.acq hg') hwg hmode (by omega))
end
end
end Crw
end Go.Proofs.YthgelfnflafoiaeGreat
namespace Go.Proofs.YthgelfnflafoiaeGreat
namespace Crw
open Go.Conc Go.ConcN
open Go.ConcR (KK wgBlock WgAt stA smA rd wr mk Payload DC0 Bk g_of_ofEvents again_blocked ofEvent_loc_mark ofEvent_cell ofEvent_mk)
theorem acc_many {α : Type} {r : α -> α -> Prop} : ∀ (n : Nat) (Y : Nat -> α), (∀ i, i < n -> Acc r (Y i)) -> Acc (fun Y' Y => ∃ i, i < n /\ (∀ k, k ≠ i -> Y' k = Y k) /\ r (Y' i) (Y i)) Y
 | 0, Y, _ => Acc.intro Y fun Y' ⟨i, hi, _⟩ => absurd hi (Nat.not_lt_zero i)
 | n + 1, Y, h => by
   have key : ∀ a, Acc r a -> ∀ Y : Nat -> α, Acc (fun Y' Y => ∃ i, i < n /\ (∀ k, k ≠ i -> Y' k = Y k) /\ r (Y' i) (Y i)) Y -> (∀ i, i < n -> Acc r (Y i)) -> Y n = a -> Acc (fun Y' Y => ∃ i, i < n + 1 /\ (∀ k, k ≠ i -> Y' k = Y k) /\ r (Y' i) (Y i)) Y := by
     intro a ha
     induction ha with
     | intro a _ iha =>
       intro Y hY
       induction hY with
       | intro Y _ ihY =>
         intro hall hYn
         refine Acc.intro Y fun Y' ⟨i, hi, hk, hr⟩ => ?_
         by_cases e : i = n
         · subst e
           have hall' : ∀ k, k < i -> Acc r (Y' k) := fun k hki => by rw [hk k (by omega)]; exact hall k hki
           exact iha (Y' i) (hYn ▸ hr) Y' (acc_many i Y' hall') hall' rfl
         · refine ihY Y' ⟨i, by omega, hk, hr⟩ (fun k hkn => ?_) (by rw [hk n (Ne.symm e)]; exact hYn)
           by_cases e2 : k = i
           · subst e2; exact (hall k hkn).inv hr
           · rw [hk k e2]; exact hall k hkn
   exact key (Y n) (h n (Nat.lt_succ_self n)) Y (acc_many n Y fun i hi => h i (by omega)) (fun i hi => h i (by omega)) rfl
theorem acc_stt {X : Type} {r : X -> X -> Prop} (v : Value) : Acc (Stt.lt r) (.done v) := Acc.intro _ fun y h => by cases y <;> exact h.elim
theorem acc_stt' {X : Type} {r : X -> X -> Prop} {x : X} (h : Acc r x) : Acc (Stt.lt r) (.at_ x) := by
 induction h with
 | intro x _ ih =>
   refine Acc.intro _ fun y hy => ?_
   cases y with
   | at_ x' => exact ih x' hy
   | done v => exact acc_stt v
theorem counted_one {D : Nat -> WD} : ∀ {j : Nat}, 1 <= Vc j D -> ∃ i, i < j /\ 5 <= (D i).stage
 | 0, h => by simp [Vc, sumTo] at h
 | j + 1, h => by
   by_cases hc : 5 <= (D j).stage
   · exact ⟨j, by omega, hc⟩
   · have : 1 <= Vc j D := by simp only [Vc, sumTo, cnt, if_neg hc] at h ⊢; simpa using h
     obtain ⟨i, hi, h5⟩ := counted_one this
     exact ⟨i, by omega, h5⟩
section
variable [Payload]
variable {P : Program} {SB : Nat -> Prop} {ty : TypeId} {Wg C n Low : Nat} {W : WSpec P SB ty Wg C n Low} {base T0 : Nat} {w0 : World} {AnchW : Goroutine -> World -> Prop} {Out : Goroutine -> Prop} {o0 : Obj} {o1 : Nat -> Obj} {v1 : Nat -> Value}
theorem WS.running_of {i : Nat} {d : WD} {y : Stt W.X} {g : Goroutine} {w : World} {O : Nat -> Prop} (h : WS P ty Wg W i d y g w O) (hs : d.stage ≠ 1) : g.status = .running := by
 cases h with
 | work h1 h2 h3 => exact W.run h3
 | done h1 =>
   revert hs
   generalize d.stage = s, d.fuel = f, d.deaf = dd at h1
   cases h1 with
   | r0 h => exact fun _ => Goes.running (fun _ _ x => x.1) w (RW.refl w) h
   | k1 h => exact fun _ => Goes.running (fun _ _ x => x.1) w (RW.refl w) h
   | d1 h => exact fun _ => Goes.running (fun _ _ x => x.1) w (RW.refl w) h
   | d2 h => exact fun _ => Goes.running (fun _ _ x => x.1) w (RW.refl w) h
   | d3 h => exact fun _ => Goes.running (fun _ _ x => x.1) w (RW.refl w) h
   | d4 h => exact fun _ => Goes.running (fun _ _ x => x.1) w (RW.refl w) h
   | quit _ => exact fun hs => absurd rfl hs
theorem pstep (G : Geom SB Wg C Low n) (hAr : ∀ g w, AnchW g w -> g.status = .running) (hAn : ∀ g w, AnchW g w -> ∃ m, Goes P true (R0 ty Wg) (D0 Wg) (AtW1 P ty Wg AnchW Out) m g w) {N : Nat} {Y : Nat -> Stt W.X} {F : Nat} {m : Machine} {t : Trace} (h : (PInv P ty Wg W base T0 w0 AnchW Out o0 o1 v1) N Y F m t) :
   (∃ m' ops N' Y' F', stepT P m = (.next m', ops) /\ Less P ty Wg W N' Y' F' N Y F /\ (PInv P ty Wg W base T0 w0 AnchW Out o0 o1 v1) N' Y' F' m' (t ++ ops)) \/
   ∃ gs' a' w' sl' ops q' own', stepT P m = (.next (crowd gs' w' sl'), ops) /\ Joined P ty Wg W base w0 Out gs' a' w' (t ++ ops) q' own' := by
 obtain ⟨gs, w, sl, own, j, D, tag, f0, d0, nbo, a, st, sm, q, rfl, ha, hcs, hpi, hwg, hmode, hyn, rfl, rfl⟩ := h
 have hsz := hpi.size
 have haw : ∀ g ∈ gs, awake g := by
   intro g hg
   obtain ⟨i, hi⟩ := Array.mem_iff_getElem?.1 hg
   have hlt := (Array.getElem?_eq_some_iff.1 hi).1
   rcases Nat.eq_zero_or_pos i with rfl | hpos
   · rw [ha] at hi; cases hi
     rcases hcs.status hAr with ⟨hs, _⟩ | ⟨hs, _⟩
     · exact awake_of (.inl hs)
     · intro tm; rw [hs]; simp
   · by_cases hb : i <= base
     · exact awake_of ((hpi.lv i g hpos hb hi).status.elim .inl fun x => .inr (.inr x))
     · obtain ⟨i', rfl⟩ : ∃ i', i = base + 1 + i' := ⟨i - base - 1, by omega⟩
       obtain ⟨g', hg', hs⟩ := hpi.wk i' (by omega)
       rw [hi] at hg'; cases hg'
       exact awake_of (hs.status.elim .inl fun x => .inr (.inr x))
 have hrun : ∃ (i : Nat) (g : Goroutine), gs[i]? = some g /\ g.status = .running := by
   rcases hcs.status hAr with ⟨hs, _⟩ | ⟨_, rfl⟩
   · exact ⟨0, a, ha, hs⟩
   · cases hmode with
     | opn h1 _ _ => exact h1.elim
     | reg _ _ h3 =>
       obtain ⟨i, hi, h5⟩ := counted_one h3
       obtain ⟨g, hg, hs⟩ := hpi.wk i hi
       exact ⟨base + 1 + i, g, hg, hs.running_of (by omega)⟩
     | last L _ h2 h3 _ =>
       obtain ⟨g, hg, hs⟩ := hpi.wk L h2
       exact ⟨base + 1 + L, g, hg, hs.running_of (by omega)⟩
     | fin h1 _ => exact h1.elim
 obtain ⟨i, g, d, sl', hg, hgr, hstep⟩ := crowd_pick (P := P) (w := w) (sl := sl) haw hrun
 rw [hstep]
 have hcs' : (CS P ty Wg n AnchW Out W w0 o0 o1 v1) tag j f0 d0 nbo a (w.at d) := hcs.rely (fun h => h)
 have hpi' := hpi.at d
 have hwg' : WgAt ty Wg (w.at d) st sm := hwg
 have hlt := (Array.getElem?_eq_some_iff.1 hg).1
 rcases Nat.eq_zero_or_pos i with rfl | hpos
 · rw [ha] at hg; cases hg
   rcases stepCaller (sl := sl') G hAn ha hcs' hpi' hyn hwg' hmode hgr with ⟨m₁, ops, N', Y', F', h1, h2, h3⟩ | ⟨gs', a', ops, q', own', h1, h2⟩
   · exact .inl ⟨m₁, ops, N', Y', F', h1, h2, h3⟩
   · exact .inr ⟨gs', a', _, sl', ops, q', own', h1, h2⟩
 · left
   by_cases hb : i <= base
   · have hq := hpi.lv i g hpos hb hg
     have hi0 : (i == 0) = false := by simp; omega
     cases hqi : q i with
     | zero => rw [hqi] at hq; rw [hq.1] at hgr; cases hgr
     | succ k =>
       rw [hqi] at hq
       rcases hq with ⟨hf, _⟩ | ⟨_, g', es, hm, hstp, hq'⟩
       · rw [hf] at hgr; cases hgr
       have hrunT := runT_crowd_go (P := P) (sl := sl') (i := i) hg (by rw [hi0]; exact hstp (w.at d))
       obtain ⟨tag', f', hcs2, hf', htag, hwk⟩ := hcs'.wokenBy hAr (w' := w.at d) (fun h => h) g g'
       have hsum : sumTo (base + 1) (upd q i k) + (k + 1) = sumTo (base + 1) q + k := by
         have := sumTo_upd q k id (show i < base + 1 by omega)
         simpa [hqi] using this
       refine ⟨_, _, _, Y, f' + 2 * (Fsum j D + sumTo (base + 1) (upd q i k)), hrunT, ?_, _, w.at d, sl', own, j, D, tag', f', d0, nbo, woken P g g' (w.at d) a, st, sm, upd q i k, rfl, by rw [get_map_set _ _ _ _ (by omega), ha]; rfl, hcs2, hpi'.stepL G hpos hb hm hq', hwg', hmode.retag htag, hyn, rfl, rfl⟩
       rw [phi_retag n _ htag]
       exact .inr (.inr ⟨rfl, rfl, by omega⟩)
   · obtain ⟨i', rfl⟩ : ∃ i', i = base + 1 + i' := ⟨i - base - 1, by omega⟩
     exact stepWorker (sl := sl') G hAr ha hcs' hpi' hyn hwg' hmode (by omega) hg hgr
theorem PInv.acc {N : Nat} {Y : Nat -> Stt W.X} {F : Nat} {m : Machine} {t : Trace} (h : (PInv P ty Wg W base T0 w0 AnchW Out o0 o1 v1) N Y F m t) : Acc (YLt P ty Wg W) Y := by
 obtain ⟨gs, w, sl, own, j, D, tag, f0, d0, nbo, a, st, sm, q, rfl, ha, hcs, hpi, hwg, hmode, hyn, rfl, rfl⟩ := h
 refine acc_many n Y fun i _ => ?_
 by_cases hi : i < j
 · obtain ⟨g, _, hs⟩ := hpi.wk i hi
   generalize Y i = y at hs
   cases hs with
   | work _ _ h3 => exact acc_stt' (W.acc h3)
   | done _ => exact acc_stt _
 · obtain ⟨v, hv⟩ := hyn i (by omega)
   rw [hv]; exact acc_stt v
theorem phase (G : Geom SB Wg C Low n) (hAr : ∀ g w, AnchW g w -> g.status = .running) (hAn : ∀ g w, AnchW g w -> ∃ m, Goes P true (R0 ty Wg) (D0 Wg) (AtW1 P ty Wg AnchW Out) m g w) {Post : Value -> World -> Prop}
   (hk : ∀ gs a w sl t q own, Joined P ty Wg W base w0 Out gs a w t q own -> Ends P Post (crowd gs w sl) t) : ∀ (N : Nat) (Y : Nat -> Stt W.X) (F : Nat) (m : Machine) (t : Trace), (PInv P ty Wg W base T0 w0 AnchW Out o0 o1 v1) N Y F m t -> Ends P Post m t := by
 intro N
 induction N using Nat.strongRecOn with
 | _ N ihN =>
   intro Y F m t h
   have hacc := h.acc
   induction hacc generalizing F m t with
   | intro Y _ ihY =>
     induction F using Nat.strongRecOn generalizing m t with
     | _ F ihF =>
       rcases pstep G hAr hAn h with ⟨m', ops, N', Y', F', hst, hlt, h'⟩ | ⟨gs', a', w', sl', ops, q', own', hst, hJ⟩
       · refine .step hst ?_
         rcases hlt with h1 | ⟨rfl, h1⟩ | ⟨rfl, rfl, h1⟩
         · exact ihN N' h1 Y' F' m' _ h'
         · exact ihY Y' h1 F' m' _ h'
         · exact ihF F' h1 m' _ h'
       · exact .step hst (hk _ _ _ _ _ _ _ hJ)
end
end Crw
end Go.Proofs.YthgelfnflafoiaeGreat
namespace Go.Proofs.YthgelfnflafoiaeGreat
namespace Crw
open Go.Conc Go.ConcN
open Go.ConcR (KK wgBlock WgAt stA smA rd wr mk Payload DC0 Bk g_of_ofEvents)
section
variable {P : Program} {SB : Nat -> Prop} {gs : Array Goroutine} {q : Nat -> Nat} {w : World} {t : Trace} {a a' : Goroutine} {o : Obj}
def more (SB : Nat -> Prop) (x : Nat) : Nat -> Prop := fun b => SB b \/ b = x
theorem fr_new (h0 : gs[0]? = some a) (h : Fr P SB gs q w t) (hgo : stepG P true a w = .go a' { w with heap := w.heap.push o } #[]) (sl : Option (Nat × Nat)) :
   ∃ gs' ops, runT P (crowd gs w sl) 0 = (.next (crowd gs' { w with heap := w.heap.push o } sl), ops) /\ gs'[0]? = some a' /\ gs'.size = gs.size /\ Fr P (more SB w.heap.size) gs' q { w with heap := w.heap.push o } (t ++ ops) := by
 have hle : w.heap.size <= ({ w with heap := w.heap.push o } : World).heap.size := by simp
 have hrunT := runT_crowd_go (P := P) (sl := sl) (i := 0) h0 (show stepG P (0 == 0) a w = _ from hgo)
 have hsz : ((gs.map (woken P a a' { w with heap := w.heap.push o })).setIfInBounds 0 a').size = gs.size := by simp
 have hlt : 0 < gs.size := (Array.getElem?_eq_some_iff.1 h0).1
 have e0 : MemOp.ofEvents 0 a.frame.fn a.frame.place #[] = #[] := by rw [ofEvents_eq]; simp
 refine ⟨_, _, hrunT, by simp [hlt], hsz, ?_⟩
 rw [e0, Array.append_empty]
 refine ⟨fun j x hj hx => ?_, fun j hj => h.above j (by rw [hsz] at hj; exact hj), ?_, h.hears, fun b hb => ?_⟩
 · have hne : 0 ≠ j := by omega
   rw [Array.getElem?_setIfInBounds_ne hne, Array.getElem?_map] at hx
   obtain ⟨y, hy, rfl⟩ := Option.map_eq_some_iff.1 hx
   have hqj := h.lv j y hj hy
   rw [woken_quitsD hqj]
   exact hqj
 · rw [hsz]
   refine (h.tr.grow (Sh' := ShS (more SB w.heap.size)) (fun l ⟨x, h1, h2⟩ => ⟨x, h1, .inl h2⟩) (fun i x hx ⟨y, h1, h2⟩ => ?_) (fun _ _ _ _ x => .inl x) (fun _ _ _ _ x => x) (fun _ _ _ _ x => x) (fun _ _ _ _ x => x)).mono hle
   rcases h2 with h2 | h2
   · exact ⟨y, h1, h2⟩
   · have := h.tr.fresh hx
     rw [h1] at this
     simp only [Loc.low] at this
     omega
 · rcases hb with hb | rfl
   · exact Nat.lt_of_lt_of_le (h.sb b hb) hle
   · simp
theorem step_new {Post : Value -> World -> Prop} (hr : a.status = .running)
   (hstep : ∀ d, ∃ a', stepG P true a (w.at d) = .go a' { (w.at d) with heap := (w.at d).heap.push o } #[] /\
     ∀ gs' q' sl' t', gs'[0]? = some a' -> gs'.size = gs.size -> Fr P (more SB w.heap.size) gs' q' { (w.at d) with heap := (w.at d).heap.push o } t' -> Ends P Post (crowd gs' { (w.at d) with heap := (w.at d).heap.push o } sl') t') :
   ∀ (M : Nat) (gs1 : Array Goroutine) (q : Nat -> Nat) (d : Nat) (sl : Option (Nat × Nat)) (t : Trace), sumTo gs1.size q <= M -> gs1[0]? = some a -> gs1.size = gs.size -> Fr P SB gs1 q (w.at d) t -> Ends P Post (crowd gs1 (w.at d) sl) t := by
 intro M
 induction M with
 | zero =>
   intro gs1 q d sl t hM h0 hsz h
   rcases fr_pick h0 hr h sl with ⟨d', sl', hst⟩ | ⟨gs', q', d', sl', ops, _, _, _, _, hlt⟩
   · obtain ⟨a', hgo, hk⟩ := hstep d'
     obtain ⟨gs', ops, hrun, h0', hs', hF'⟩ := fr_new h0 (h.at d') hgo sl'
     exact .step (hst.trans hrun) (hk gs' q sl' _ h0' (hs'.trans hsz) hF')
   · omega
 | succ M ih =>
   intro gs1 q d sl t hM h0 hsz h
   rcases fr_pick h0 hr h sl with ⟨d', sl', hst⟩ | ⟨gs', q', d', sl', ops, hst, h0', hs', hF', hlt⟩
   · obtain ⟨a', hgo, hk⟩ := hstep d'
     obtain ⟨gs', ops, hrun, h0', hs', hF'⟩ := fr_new h0 (h.at d') hgo sl'
     exact .step (hst.trans hrun) (hk gs' q sl' _ h0' (hs'.trans hsz) hF')
   · exact .step hst (ih gs' q' d' sl' _ (by rw [hs']; omega) h0' (hs'.trans hsz) hF')
end
section
variable [Payload]
variable {P : Program} {SB : Nat -> Prop} {ty : TypeId} {Wg C n Low : Nat} {w0 : World} {W : WSpec P SB ty Wg C n Low} {AnchW : Goroutine -> World -> Prop} {Out : Goroutine -> Prop} {o0 : Obj} {o1 : Nat -> Obj} {v1 : Nat -> Value}
 {gs : Array Goroutine} {q : Nat -> Nat} {t : Trace} {a : Goroutine}
theorem group (hLow : Low = w0.heap.size) (G : Geom SB Wg C Low n) (hn : 1 <= n) (hAr : ∀ g w, AnchW g w -> g.status = .running) (hAn : ∀ g w, AnchW g w -> ∃ m, Goes P true (R0 ty Wg) (D0 Wg) (AtW1 P ty Wg AnchW Out) m g w) {Post : Value -> World -> Prop}
   (h0 : gs[0]? = some a) (hF : Fr P SB gs q w0 t) (hwg : WgAt ty Wg w0 0 0) (hpay : PayAt C n w0) (hS : Spawns P ty Wg n AnchW W w0 o0 o1 v1 n a w0)
   (hk : ∀ gs' a' w' sl' t' q' own', Joined P ty Wg W (gs.size - 1) w0 Out gs' a' w' t' q' own' -> Ends P Post (crowd gs' w' sl') t') (sl : Option (Nat × Nat)) : Ends P Post (crowd gs w0 sl) t := by
 subst hLow
 have hlt : 0 < gs.size := (Array.getElem?_eq_some_iff.1 h0).1
 obtain ⟨r, rfl⟩ : ∃ r, n = r + 1 := ⟨n - 1, by omega⟩
 obtain ⟨m, hm⟩ := hS
 have e0 : r + 1 - (r + 1) = 0 := by omega
 have hcs : CS P ty Wg (r + 1) AnchW Out W w0 o0 o1 v1 (.sp r 7) (r + 1 - (r + 1)) m 0 none a w0 := .snew (Nat.lt_succ_self r) hm
 rw [e0] at hcs
 refine phase G hAr hAn hk _ (fun _ => .done undef) _ _ t ⟨gs, w0, sl, fun _ => 0, 0, fun _ => ⟨1, 0, 0⟩, .sp r 7, m, 0, none, a, 0, 0, q, rfl, h0, hcs,
   ⟨by omega, fun i g hi _ hg => hF.lv i g hi hg, hF.above, fun i hi => by omega, fun i v hi => by omega, ?_, fun i hi e => ?_, Nat.le_refl _, hF.hears, fun i hi => by omega, fun i hi => by omega, fun _ _ => rfl, fun b hb => absurd rfl hb, Nat.le_refl _, fun _ _ _ _ => rfl, hpay, (fun _ _ e => by cases e), rfl, rfl, rfl⟩, hwg, ?_, fun _ _ => ⟨undef, rfl⟩, rfl, rfl⟩
 · refine hF.tr.grow (fun _ x => x) (fun _ _ _ x => x) (fun k _ kj l hl => ?_) (fun k _ kj l hl => ?_) (fun _ _ _ _ x => x.elim) (fun _ _ _ _ x => x.elim)
   · rcases hl with ⟨h1, _⟩ | ⟨h1, _⟩ <;> omega
   · obtain ⟨h1, _⟩ := hl; omega
 · have := lt_of_act? e; omega
 · have := Go.ConcN.Mode.opn (tag := .sp r 7) (j := 0) (D := fun _ => ⟨1, 0, 0⟩) trivial (fun i hi => by omega) (by simp)
   have e : ((Vc 0 (fun _ => (⟨1, 0, 0⟩ : WD)) + pend (.sp r 7) : Nat) : Int) * KK = 0 := by simp [Vc, sumTo, pend]
   rw [e] at this
   exact this
end
end Crw
end Go.Proofs.YthgelfnflafoiaeGreat
