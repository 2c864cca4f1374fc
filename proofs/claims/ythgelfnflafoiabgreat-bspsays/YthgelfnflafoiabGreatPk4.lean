/-
  Several texts in one.
-/
import Derived.Conc.WgGenN3
import Derived.Test.YthgelfnflafoiabGreatProg
import Derived.Orders
import Derived.Test.YthgelfnflafoiabGreatPk3
namespace Go.Proofs.YthgelfnflafoiabGreat
namespace Sim
theorem results_any {S : Program} {F : FuncId -> Bool} {sp0 : FuncId} (H : Same S S F) {fr : Frame} {cs : List Frame} {s : World} (hwf : WF S F sp0 (fr :: cs) s) {fn : Func} {v : Value} (hr : (results fn fr.tmps).run S s = .ok v s) (τ : Nat -> Question -> Nat) (d : Nat) :
   (results fn fr.tmps).run S (tp s τ d) = .ok v (tp s τ d) := by
 obtain ⟨ρ, l', w, h1, h2⟩ := hwf
 cases h1 with
 | @cons _ f' _ cs' hf hc =>
   obtain ⟨_, _, h3⟩ := (results_rel H fn hf.tmps).local s w h2 v s hr
   have := h3 τ d (fun i q hi => by omega)
   rwa [Nat.sub_self, Nat.add_zero] at this
theorem bar_call {S : Program} {F : FuncId -> Bool} {sp0 : FuncId} (H : Same S S F) (hF : Fine S S F sp0) (hsp : NoSp S F sp0) {f : FuncId} {x : Array Value} {s : World} (hwf : WF S F sp0 [Frame.enter S f x .normal] s)
   (hC : ∀ τ d, Calls S f x (tp s τ d) fun e _ => ∃ v, e = .returned v /\ isSl v) : Bar S (RetE S) [Frame.enter S f x .normal] s := by
 refine bar_of H hF hsp (retE_ok S) hwf fun τ d => ?_
 obtain ⟨e, w', fr, ⟨v, rfl, hv⟩, ⟨n, hn⟩, hfn, hm, hd, hk, fn, hfs, hres⟩ := hC τ d [catcher S]
 have hwf' := hwf.tp τ d
 obtain ⟨ρ, l', w, h1, h2⟩ := hwf'
 have hg : GRun S [Frame.enter S f x .normal] (tp s τ d) [fr] w' := grun_of H hF hsp hm n _ [] l' (tp s τ d) (tp w τ d) ρ h1 (h2.of_heap rfl rfl) rfl rfl hn
 refine ⟨[fr], w', hg, fr, rfl, hm, fn, v, hfs, ?_, hv⟩
 obtain ⟨m, hm'⟩ := hg
 exact fun τ' d' => results_any H ((hwf.tp τ d).iter H hF hsp m hm') hres τ' d'
def RetQ (S : Program) (Q : Value -> Prop) (fs : List Frame) (s : World) : Prop :=
 ∃ fr, fs = [fr] /\ fr.mode = .returning /\ ∃ fn v, S.funcs[fr.fn]? = some fn /\ (∀ τ d, (results fn fr.tmps).run S (tp s τ d) = .ok v (tp s τ d)) /\ Q v
theorem retQ_ok (S : Program) (Q : Value -> Prop) : EndsOk S (RetQ S Q) := by
 refine ⟨?_, ?_⟩
 · rintro fs s ⟨fr, rfl, hm, fn, v, hf, _⟩ τ d ⟨fs1, s1, h⟩
   unfold gsem at h
   simp only [hm, hf] at h
   cases h
 · rintro fs s τ d ⟨fr, rfl, hm, fn, v, hf, hr, hv⟩
   exact ⟨fr, rfl, hm, fn, v, hf, fun τ' d' => hr τ' d', hv⟩
theorem barZ_call {S : Program} {F : FuncId -> Bool} {sp0 : FuncId} {zq : Question -> Bool} {Q : Value -> Prop} (H : Same S S F) (hF : Fine S S F sp0) (hsp : NoSp S F sp0) {f : FuncId} {x : Array Value} {s : World} (hwf : WF S F sp0 [Frame.enter S f x .normal] s)
   (hC : ∀ τ d, Zt zq τ -> Calls S f x (tp s τ d) fun e _ => ∃ v, e = .returned v /\ Q v) : BarZ S zq (RetQ S Q) [Frame.enter S f x .normal] s := by
 refine barZ_of H hF hsp (retQ_ok S Q) hwf fun τ d hz => ?_
 obtain ⟨e, w', fr, ⟨v, rfl, hv⟩, ⟨n, hn⟩, hfn, hm, hd, hk, fn, hfs, hres⟩ := hC τ d hz [catcher S]
 have hwf' := hwf.tp τ d
 obtain ⟨ρ, l', w, h1, h2⟩ := hwf'
 have hg : GRun S [Frame.enter S f x .normal] (tp s τ d) [fr] w' := grun_of H hF hsp hm n _ [] l' (tp s τ d) (tp w τ d) ρ h1 (h2.of_heap rfl rfl) rfl rfl hn
 refine ⟨[fr], w', hg, fr, rfl, hm, fn, v, hfs, ?_, hv⟩
 obtain ⟨m, hm'⟩ := hg
 exact fun τ' d' => results_any H ((hwf.tp τ d).iter H hF hsp m hm') hres τ' d'
end Sim
end Go.Proofs.YthgelfnflafoiabGreat
namespace Go.Proofs.YthgelfnflafoiabGreat
namespace Sim
theorem brel_lt {F : FuncId -> Prop} {ρ : Ren} {s w : World} {b : Nat} {e : Ent} (h : BRel F ρ s w b e) : e.blk < w.heap.size := by
 rcases h with ⟨_, _, _, _, _, _, _, h2, _⟩ | ⟨_, _, _, _, _, _, h2, _⟩ <;> exact (Array.getElem?_eq_some_iff.1 h2).1
def idOf (ρ : Ren) : Ren := fun b => if (ρ b).isSome then some ⟨b, 0, false⟩ else none
theorem idOf_some {ρ : Ren} {b : Nat} {e : Ent} (h : idOf ρ b = some e) : e = ⟨b, 0, false⟩ /\ ∃ e0, ρ b = some e0 := by
 unfold idOf at h
 split at h
 · rename_i hs
   cases h
   exact ⟨rfl, Option.isSome_iff_exists.1 hs⟩
 · cases h
theorem idOf_of {ρ : Ren} {b : Nat} {e : Ent} (h : ρ b = some e) : idOf ρ b = some ⟨b, 0, false⟩ := by
 unfold idOf; rw [h]; rfl
theorem isCells_lt {s : World} {b : Nat} (h : isCells s b = true) : b < s.heap.size := by
 unfold isCells at h
 split at h
 · rename_i hb; exact (Array.getElem?_eq_some_iff.1 hb).1
 · cases h
def zf (zq : Question -> Bool) (τ : Nat -> Question -> Nat) : Nat -> Question -> Nat := fun k q => if zq q then 0 else τ k q
theorem zf_zt (zq : Question -> Bool) (τ : Nat -> Question -> Nat) : Zt zq (zf zq τ) := fun k q h => by simp [zf, h]
theorem giter_zero {S R : Program} {F : FuncId -> Bool} {sp : FuncId} {zq : Question -> Bool} (H : Same S R F) (hF : Fine S R F sp) (hz : ∀ q, zq q = true -> ¬ OrdOk R q) {E : List Frame -> World -> Prop} (hE : EndsOk S E) (hno : ∀ x cs s, Bar S E (Frame.enter S sp x .normal :: cs) s -> False) :
   ∀ (n : Nat) (l l' l1 : List Frame) (s w s1 : World) (ρ : Ren), FsRel S F sp ρ l l' -> WRel (Fp F) ρ s w -> Bar S E l s -> giter S n l s = some (l1, s1) ->
     s1.tape = s.tape /\ giter S n l (tp s (zf zq s.tape) s.drawn) = some (l1, tp s1 (zf zq s.tape) s1.drawn)
 | 0, l, l', l1, s, w, s1, ρ, h, hw, hB, hg => by
   simp only [giter, Option.some.injEq, Prod.mk.injEq] at hg
   obtain ⟨rfl, rfl⟩ := hg
   exact ⟨rfl, rfl⟩
 | n + 1, l, l', l1, s, w, s1, ρ, h, hw, hB, hg => by
   simp only [giter] at hg
   cases hr : (gsem S l).run S s with
   | halt x y => rw [hr] at hg; cases hg
   | ok l2 s2 =>
     rw [hr] at hg
     have hB2 : Bar S E l2 s2 := by
       cases hB with
       | stop h => exact absurd ⟨_, _, hr⟩ (hE.stuck _ _ h s.tape s.drawn)
       | step h1 h2 => exact h2 s.tape s.drawn l2 s2 hr
     obtain ⟨a1, a2, a3⟩ := (gsem_rel H hF h).localR s w hw l2 s2 hr
     have e1 := a3 (zf zq s.tape) s.drawn fun i q _ ho => by
       unfold zf
       rw [if_neg (fun hq => hz q hq ho)]
     rw [show s.drawn + (s2.drawn - s.drawn) = s2.drawn by omega] at e1
     rcases (gsem_rel H hF h).runAll s (tp w s.tape s.drawn) #[] (hw.of_heap rfl rfl) (Agree.same rfl rfl) with ⟨hx, sx, r1, _⟩ | ⟨x, sx, x', w', σ, u, r1, r2, r3, r4, r5, r6, r7, r8, _⟩
     · rw [hr] at r1; cases r1
     · rw [hr] at r1; cases r1
       rcases r8 with r8 | ⟨_, y, y', cs, cs', _, rfl, _⟩
       · obtain ⟨b1, b2⟩ := giter_zero H hF hz hE hno n l2 x' l1 s2 w' s1 σ r8 r7 hB2 hg
         rw [a2] at b1 b2
         refine ⟨b1, ?_⟩
         simp only [giter, e1]
         exact b2
       · exact (hno _ _ _ hB2).elim
theorem replay {S R : Program} {F F' : FuncId -> Bool} {sp sp0 : FuncId} {zq : Question -> Bool} (H : Same S R F) (hF1 : Fine S R F sp) (hz : ∀ q, zq q = true -> ¬ OrdOk R q) (H0 : Same S S F) (hF : Fine S S F sp) (H0' : Same S S F') (hF0 : Fine S S F' sp0) (hsp0 : NoSp S F' sp0) (hno : ∀ x cs s, Bar S (RetE S) (Frame.enter S sp x .normal :: cs) s -> False)
   {θ0 : Ren} {s0 w0 : World} (hW0 : WRel (Fp F) θ0 s0 w0) {f : FuncId} {x x' : Array Value} (hf : F f = true) (hn : f ≠ sp) (hx : AVRel (Fp F) (shared θ0 s0) x x')
   (hB : Bar S (RetE S) [Frame.enter S f x .normal] (frz (Fp F) θ0 s0)) (hwf : WF S F' sp0 [Frame.enter S f x .normal] (frz (Fp F) θ0 s0))
   {ρ : Ren} {fr : Frame} {s1 w : World} {fn : Func} {vS v : Value} (hrec : Rec S [Frame.enter S f x .normal] (frz (Fp F) θ0 s0) [fr] s1) (hm : fr.mode = .returning) (hfn : S.funcs[fr.fn]? = some fn)
   (hres : ∀ τ d, (results fn fr.tmps).run S (tp s1 τ d) = .ok vS (tp s1 τ d)) (hv : VRel (Fp F) ρ vS v) (hw : WRel (Fp F) ρ s1 w) (hle : (shared θ0 s0).le ρ)
   (hnew : ∀ b e, ρ b = some e -> shared θ0 s0 b = some e \/ (s0.heap.size <= b /\ e.own = true)) :
   ∃ (m : Nat) (τ : Nat -> Question -> Nat) (k : Nat), Zt zq τ /\ ∀ (θ : Ren) (σ : World), WRel (Fp F) θ σ w -> (∀ b e, θ b = some e -> b < σ.heap.size) -> θ0.le θ -> s0.heap.size <= σ.heap.size -> (∀ b, b < s0.heap.size -> σ.heap[b]? = s0.heap[b]?) ->
     (∀ b e b1 e1, θ b = some e -> ρ b1 = some e1 -> e1.own = true -> e.blk ≠ e1.blk) -> (∀ i q, i < k -> σ.tape (σ.drawn + i) q = τ i q) ->
     ∃ fr' σ1 σ2 θ' vσ, giter S m [Frame.enter S f x .normal] σ = some ([fr'], σ1) /\ fr'.mode = .returning /\ S.funcs[fr'.fn]? = some fn /\ (results fn fr'.tmps).run S σ1 = .ok vσ σ2 /\ σ2.tape = σ.tape /\ σ2.drawn = σ.drawn + k /\
       WRel (Fp F) θ' σ2 w /\ θ.le θ' /\ VRel (Fp F) θ' vσ v /\ σ.heap.size <= σ2.heap.size /\ (∀ b, b < σ.heap.size -> σ2.heap[b]? = σ.heap[b]?) /\ (∀ b e, θ' b = some e -> b < σ2.heap.size) /\
       (∀ b e, θ' b = some e -> θ b = some e \/ (σ.heap.size <= b /\ ∃ b1, ρ b1 = some e /\ e.own = true)) := by
 obtain ⟨m, τ1, k, hg0⟩ := hrec
 have hBt : Bar S (RetE S) [Frame.enter S f x .normal] (tp (frz (Fp F) θ0 s0) τ1 0) := hB.along (retE_ok S) 0 τ1 0 rfl
 obtain ⟨_, hg1⟩ := giter_zero H hF1 hz (retE_ok S) hno m _ _ _ (tp (frz (Fp F) θ0 s0) τ1 0) w0 _ (shared θ0 s0) (.cons (FRel.enter hF1 hf hn hx) .nil) ((frz_rel hW0).of_heap rfl rfl) hBt hg0
 rw [tp_tp, tp_tp] at hg1
 have hg1 : giter S m [Frame.enter S f x .normal] (tp (frz (Fp F) θ0 s0) (zf zq τ1) 0) = some ([fr], tp s1 (zf zq τ1) k) := hg1
 have hag : ∀ (τ' : Nat -> Question -> Nat) (d : Nat), (∀ i q, i < k -> τ' (d + i) q = zf zq τ1 i q) -> giter S m [Frame.enter S f x .normal] (tp (frz (Fp F) θ0 s0) τ' d) = some ([fr], tp s1 τ' (d + k)) := by
   intro τ' d hag
   obtain ⟨_, _, b3⟩ := giter_shift H0' hF0 hsp0 m _ _ (tp (frz (Fp F) θ0 s0) (zf zq τ1) 0) (tp s1 (zf zq τ1) k) (hwf.tp _ _) hg1
   have e := b3 τ' d fun i q hi => by
     have hi' : i < k := by simpa [tp] using hi
     rw [hag i q hi']
     show zf zq τ1 i q = zf zq τ1 (0 + i) q
     rw [Nat.zero_add]
   rw [tp_tp, tp_tp] at e
   have e0 : (tp s1 (zf zq τ1) k).drawn - (tp (frz (Fp F) θ0 s0) (zf zq τ1) 0).drawn = k := by show k - 0 = k; omega
   rw [e0] at e
   exact e
 refine ⟨m, zf zq τ1, k, zf_zt zq τ1, fun θ σ hθ hin hle0 hsz hkeep hdis htape => ?_⟩
 have g1 := hag σ.tape σ.drawn htape
 have hι1 : ∀ b e, shared θ0 s0 b = some e -> idOf (shared θ0 s0) b = some ⟨b, 0, false⟩ := fun b e h => idOf_of h
 have hfs : FsRel S F sp (idOf (shared θ0 s0)) [Frame.enter S f x .normal] [Frame.enter S f x .normal] := .cons (FRel.enter hF hf hn ⟨rfl, fun i v v' h h' => by
   rw [h] at h'
   cases h'
   have hi : i < x'.size := by rw [<- hx.1]; exact (Array.getElem?_eq_some_iff.1 h).1
   exact (hx.2 i v _ h (Array.getElem?_eq_getElem hi)).self hι1⟩) .nil
 have hWι : WRel (Fp F) (idOf (shared θ0 s0)) (frz (Fp F) θ0 s0) σ := by
   refine frz_same (fun b e hb => ?_) (fun b hb => hkeep b (isCells_lt hb)) (fun b c t fr hb hc i v hv hok => ?_)
   · obtain ⟨h1, e0, h2⟩ := idOf_some hb
     exact ⟨h1, (shared_some h2).1⟩
   · obtain ⟨e, he⟩ := Option.isSome_iff_exists.1 hb
     obtain ⟨_, e1, h2⟩ := idOf_some he
     obtain ⟨_, e0, h3, _⟩ := shared_some h2
     rcases hW0.blk b e0 h3 with ⟨c2, t2, fr2, c', t', fr', m1, m2, m3, _⟩ | ⟨_, _, _, _, _, m1, _⟩
     · rw [hc] at m1
       cases m1
       obtain ⟨v', _, hvv⟩ := m3 i v hv
       exact (hok v' hvv).self hι1
     · rw [hc] at m1; cases m1
 have hB' : Bar S (RetE S) [Frame.enter S f x .normal] (tp (frz (Fp F) θ0 s0) σ.tape σ.drawn) := hB.along (retE_ok S) 0 σ.tape σ.drawn rfl
 obtain ⟨l1', σ1, ι', q1, q2, q3, q4, q5, q6⟩ := giter_rel H0 hF (retE_ok S) hno m _ _ _ (tp (frz (Fp F) θ0 s0) σ.tape σ.drawn) σ _ _ hfs (hWι.of_heap rfl rfl) (Agree.same rfl rfl) hB' g1
 cases q2 with
 | @cons _ fr' _ l a b =>
 cases b
 have q5' : σ1.drawn = σ.drawn + k := by
   have : (tp s1 σ.tape (σ.drawn + k)).drawn - (tp (frz (Fp F) θ0 s0) σ.tape σ.drawn).drawn = k := by show σ.drawn + k - σ.drawn = k; omega
   rw [q5, this]
 have hr := hres σ.tape (σ.drawn + k)
 rcases (results_rel H0 fn a.tmps).runAll (tp s1 σ.tape (σ.drawn + k)) σ1 #[] q3 (Agree.same q4.outW.2.2.symm q5'.symm) with ⟨hx, sx, r1, _⟩ | ⟨y, sx, y', σ2, κ, u, r1, r2, r3, r4, r5, r6, r7, r8, _⟩
 · rw [hr] at r1; cases r1
 · rw [hr] at r1
   cases r1
   have r4' : (results fn fr'.tmps).run S σ1 = .ok y' σ2 := by
     have := congrArg Prod.fst r4
     rw [Sem.runT_eq] at this
     exact this
   have M := q4.trans r6
   have fsz : (frz (Fp F) θ0 s0).heap.size = s0.heap.size := frz_size
   have P := put2_rel (s := σ) (s' := σ2) (f := tp s1 σ.tape (σ.drawn + k)) (σ2 := κ) (σ1 := ρ) (θ := θ) (w := w) hθ r7 (hw.of_heap rfl rfl)
     (fun b hb => M.keepW b hb fun b0 e hb0 ho => by obtain ⟨rfl, _⟩ := idOf_some hb0; cases ho) hin
     (fun b e2 h2 ho => by
       rcases M.new b e2 h2 with h | ⟨_, h, _⟩
       · obtain ⟨rfl, _⟩ := idOf_some h; cases ho
       · exact h)
     (fun b e2 e1 h2 h1 hnot => by
       rcases M.new b e2 h2 with h | ⟨hb, _, ho⟩
       · obtain ⟨rfl, e0, h0⟩ := idOf_some h
         obtain ⟨hc, e, h3, rfl⟩ := shared_some h0
         have := hle _ _ h0
         rw [h1] at this
         cases this
         exact ⟨Nat.lt_of_lt_of_le (isCells_lt hc) hsz, e, hle0 _ _ h3, rfl, rfl⟩
       · rcases hnew b e1 h1 with h | ⟨_, h⟩
         · obtain ⟨hc, _⟩ := shared_some h
           have := isCells_lt hc
           have hb' : (frz (Fp F) θ0 s0).heap.size <= b := hb
           omega
         · exact absurd ⟨ho, h⟩ hnot) hdis
   obtain ⟨p1, p2, p3⟩ := P
   refine ⟨fr', σ1, σ2, put2 θ κ ρ σ.heap.size, y', q1, a.mode.symm.trans hm, by rw [<- a.fn]; exact hfn, r4', ?_, ?_, p1, p2, r8.comp p3 hv, M.sizeW, ?_, ?_, ?_⟩
   · exact M.outW.2.2
   · rw [r5, q5']; omega
   · exact fun b hb => M.keepW b hb fun b0 e hb0 ho => by obtain ⟨rfl, _⟩ := idOf_some hb0; cases ho
   · intro b e hb
     by_cases hlt : b < σ.heap.size
     · exact Nat.lt_of_lt_of_le hlt M.sizeW
     · obtain ⟨b1, e2, h2, _, _, _, rfl⟩ := put2_new hlt hb
       exact brel_lt (r7.blk b1 e2 h2)
   · intro b e hb
     by_cases hlt : b < σ.heap.size
     · rw [put2_old hlt] at hb; exact .inl hb
     · obtain ⟨b1, e2, _, h1, _, ho, _⟩ := put2_new hlt hb
       exact .inr ⟨by omega, b1, h1, ho⟩
end Sim
end Go.Proofs.YthgelfnflafoiabGreat
namespace Go.Proofs.YthgelfnflafoiabGreat
namespace Sim
theorem barZ_ind {S : Program} {F : FuncId -> Bool} {sp0 : FuncId} {zq : Question -> Bool} {E : List Frame -> World -> Prop} (H : Same S S F) (hF : Fine S S F sp0) (hsp : NoSp S F sp0) (hE : EndsOk S E) {P : List Frame -> World -> Prop}
   (hP : ∀ fs s, WF S F sp0 fs s -> BarZ S zq E fs s -> (∀ n τ d fs' s', Zt zq τ -> giter S (n + 1) fs (tp s τ d) = some (fs', s') -> P fs' s') -> P fs s) :
   ∀ {fs : List Frame} {s : World}, BarZ S zq E fs s -> WF S F sp0 fs s -> P fs s := by
 have key : ∀ {fs : List Frame} {s : World}, BarZ S zq E fs s -> WF S F sp0 fs s -> ∀ n τ d fs' s', Zt zq τ -> giter S n fs (tp s τ d) = some (fs', s') -> P fs' s' := by
   intro fs s h
   induction h with
   | @stop fs s he =>
     intro hwf n τ d fs' s' hz hg
     have dead : ∀ τ d n fs' s', giter S (n + 1) fs (tp s τ d) = some (fs', s') -> False := by
       intro τ d n fs' s' hg
       simp only [giter] at hg
       cases hr : (gsem S fs).run S (tp s τ d) with
       | halt x y => rw [hr] at hg; cases hg
       | ok fs1 s1 => exact hE.stuck _ _ he τ d ⟨_, _, hr⟩
     cases n with
     | zero =>
       simp only [giter, Option.some.injEq, Prod.mk.injEq] at hg
       obtain ⟨rfl, rfl⟩ := hg
       exact hP _ _ (hwf.tp τ d) (.stop (hE.tp _ _ _ _ he)) fun n τ' d' fs' s' _ hg => (dead τ' d' n fs' s' hg).elim
     | succ n => exact (dead τ d n fs' s' hg).elim
   | @step fs s h1 h2 ih =>
     intro hwf n τ d fs' s' hz hg
     have go : ∀ τ d n fs' s', Zt zq τ -> giter S (n + 1) fs (tp s τ d) = some (fs', s') -> P fs' s' := by
       intro τ d n fs' s' hz hg
       simp only [giter] at hg
       cases hr : (gsem S fs).run S (tp s τ d) with
       | halt x y => rw [hr] at hg; cases hg
       | ok fs1 s1 =>
         rw [hr] at hg
         obtain ⟨_, ht, _⟩ := (hwf.tp τ d).local H hF fs1 s1 hr
         exact ih τ d fs1 s1 hz hr ((hwf.tp τ d).step H hF hsp hr) n s1.tape s1.drawn fs' s' (by rw [ht]; exact hz) hg
     cases n with
     | zero =>
       simp only [giter, Option.some.injEq, Prod.mk.injEq] at hg
       obtain ⟨rfl, rfl⟩ := hg
       exact hP _ _ (hwf.tp τ d) (.step (fun τ' d' hz => h1 τ' d' hz) (fun τ' d' fs1 s1 hz hr => h2 τ' d' fs1 s1 hz hr)) fun n τ' d' fs' s' hz' hg => go τ' d' n fs' s' hz' hg
     | succ n => exact go τ d n fs' s' hz hg
 intro fs s h hwf
 exact hP fs s hwf h fun n τ d fs' s' hz hg => key h hwf (n + 1) τ d fs' s' hz hg
end Sim
end Go.Proofs.YthgelfnflafoiabGreat
namespace Go.Proofs.YthgelfnflafoiabGreat
namespace Crw
open Go.Conc Go.ConcN Sim
theorem evf_of_ok {F : FuncId -> Bool} {SB : Nat -> Prop} {σ : Ren} {s' w' : World} (hSB : ∀ b e, σ b = some e -> ¬ SB e.blk) (hw : WRel (Fp F) σ s' w') {e : Event} (h : EvOk σ e) : EvF SB w'.heap.size e := by
 rcases h with ⟨m, hm, rfl⟩ | ⟨b, y, off, wr, h1, rfl, h3⟩ | ⟨b, y, h1, rfl, h3⟩
 · cases m <;> first | exact hm.elim | exact ⟨(fun x hx => by cases hx), by simp, by simp, (fun x hx => by cases hx)⟩
 · refine ⟨fun x hx => ?_, by simp, by simp, fun x hx => ?_⟩
   · simp only [Go.ConcR.ofEvent_cell, MemAct.touch?, Option.some.injEq] at hx
     subst hx
     rintro ⟨a, ha, hs⟩
     cases ha
     exact hSB b y h1 hs
   · simp only [Go.ConcR.ofEvent_cell, MemAct.touch?, Option.some.injEq] at hx
     subst hx
     exact brel_blk (hw.blk b y h1)
 · refine ⟨fun x hx => ?_, by simp, by simp, fun x hx => ?_⟩
   · have hx' : some (⟨.obj y.blk, false, .plain⟩ : Touch) = some x := hx
     cases hx'
     rintro ⟨a, ha, _⟩
     cases ha
   · have hx' : some (⟨.obj y.blk, false, .plain⟩ : Touch) = some x := hx
     cases hx'
     exact brel_blk (hw.blk b y h1)
theorem main_go {S R : Program} {F : FuncId -> Bool} {sp : FuncId} {zq : Question -> Bool} (H : Same S R F) (hF : Fine S R F sp) (hz : ∀ q, zq q = true -> ¬ OrdOk R q) {SB : Nat -> Prop} {fs : List Frame} {f' : Frame} {cs' : List Frame} {s w : World} {ρ : Ren}
   (hfs : FsRel S F sp ρ fs (f' :: cs')) (hw : WRel (Fp F) ρ s w) (hSB : ∀ b e, ρ b = some e -> ¬ SB e.blk) (hsb : ∀ b, SB b -> b < w.heap.size) (hB : ∀ τ d, Zt zq τ -> ∃ fs1 s1, (gsem S fs).run S (tp s τ d) = .ok fs1 s1) (d : Nat) :
   ∃ fs1 s1 f1 cs1 w' es σ, (gsem S fs).run S (tp s (zf zq w.tape) d) = .ok fs1 (tp s1 (zf zq w.tape) s1.drawn) /\ stepG R true (G f' cs') (w.at d) = .go (G f1 cs1) w' es /\ DF SB (w.at d) w' es /\
     (FsRel S F sp σ fs1 (f1 :: cs1) \/ AtSp S R F sp σ fs1 (f1 :: cs1)) /\ WRel (Fp F) σ s1 w' /\ Moved ρ σ (tp s w.tape d) s1 (w.at d) w' /\ (∀ b e, σ b = some e -> ¬ SB e.blk) := by
 obtain ⟨fs1, sz, hr0⟩ := hB (zf zq w.tape) d (zf_zt zq w.tape)
 obtain ⟨a1, a2, a3⟩ := (gsem_rel H hF hfs).localR (tp s (zf zq w.tape) d) w (hw.of_heap rfl rfl) fs1 sz hr0
 have hr := a3 w.tape d fun i q _ ho => by
   show w.tape (d + i) q = zf zq w.tape (d + i) q
   unfold zf
   rw [if_neg (fun hq => hz q hq ho)]
 rw [tp_tp] at hr
 have a1' : d <= sz.drawn := a1
 have e0 : d + (sz.drawn - (tp s (zf zq w.tape) d).drawn) = sz.drawn := by show d + (sz.drawn - d) = _; omega
 rw [e0] at hr
 have hA : ∀ K, Agree K (tp s w.tape d) (w.at d) := fun K i q _ => rfl
 have hf'R : ∃ fn, R.funcs[f'.fn]? = some fn := by
   cases hfs with
   | cons a _ =>
     obtain ⟨fn, cc, e1, e2, _⟩ := hF.fn _ a.known a.nsp
     exact ⟨fn, by rw [<- a.fn]; exact e2⟩
 have hpl : Plain f' := by
   cases hfs with
   | cons a _ => exact a.pR
 rcases (gsem_rel H hF hfs).runAll (tp s w.tape d) (w.at d) #[] (hw.of_heap rfl rfl) hA with ⟨hx, sx, r1, _⟩ | ⟨y, sx, y', w', σ, u, r1, r2, r3, r4, r5, r6, r7, r8, r9⟩
 · rw [hr] at r1; cases r1
 · rw [hr] at r1
   cases r1
   obtain ⟨f1, cs1, rfl, hst⟩ := step_of_gsem hpl r4 true [] hf'R
   rw [List.append_nil, List.append_nil] at hst
   have hSB' : ∀ b e, σ b = some e -> ¬ SB e.blk := fun b e hb hs => by
     rcases r6.new b e hb with h | ⟨_, h, _⟩
     · exact hSB b e h hs
     · have h1 := hsb _ hs
       have h2 : w.heap.size <= e.blk := h
       omega
   refine ⟨fs1, tp sz w.tape sz.drawn, f1, cs1, w', _, σ, ?_, hst, ⟨r6.sizeW, fun e he => ?_⟩, r8, r7, ?_, hSB'⟩
   · rw [hr0]
     congr 1
     rw [tp_tp]
     show sz = tp sz (zf zq w.tape) sz.drawn
     have a2' : sz.tape = zf zq w.tape := a2
     rw [<- a2']
     rfl
   · have := mem_seen he
     rw [Array.empty_append] at this
     exact evf_of_ok hSB' r7 (r9 e this)
   · exact r6
end Crw
end Go.Proofs.YthgelfnflafoiabGreat
namespace Go.Proofs.YthgelfnflafoiabGreat
namespace Crw
open Go.Conc Go.ConcN Sim
open Go.ConcR (KK wgBlock WgAt stA smA rd wr mk Payload DC0 deafBehind_cons deafBehind_one)
theorem stepG_done {P : Program} {f : Frame} {w w' : World} {fn : Func} {v : Value} {es : Array Event} (hp : Plain f) (hm : f.mode = .returning) (hf : P.funcs[f.fn]? = some fn) (hi : P.inits.idxOf? f.fn = none)
   (hr : (results fn f.tmps).runT P w #[] = (.ok v w', es)) : stepG P true (G f []) w = .ended (.done v) w' (seen P f.fn es) := by
 obtain ⟨fnid, tmps, todo, defers, mode, kind, roundOf⟩ := f
 obtain ⟨h1, h2, h3⟩ := hp
 simp only at h1 h2 h3 hm hf hi hr
 subst h1 h2 h3 hm
 simp only [Conc.G, stepG, unwind, hf, hr, doReturn, GStep.after, hi]
 simp
theorem end_fr2 {P : Program} {SB : Nat -> Prop} {w : World} {a : Goroutine} {Post : Value -> World -> Prop} (hr : a.status = .running) (hstep : ∀ d, ∃ v w' es, stepG P true a (w.at d) = .ended (.done v) w' es /\ w.heap.size <= w'.heap.size /\ (∀ e ∈ es, EvF SB w'.heap.size e) /\ Post v w') :
   ∀ (M : Nat) (gs : Array Goroutine) (q : Nat -> Nat) (d : Nat) (sl : Option (Nat × Nat)) (t : Trace), sumTo gs.size q <= M -> gs[0]? = some a -> Fr P SB gs q (w.at d) t -> Ends P Post (crowd gs (w.at d) sl) t := by
 intro M
 induction M with
 | zero =>
   intro gs q d sl t hM h0 h
   rcases fr_pick h0 hr h sl with ⟨d', sl', hst⟩ | ⟨gs', q', d', sl', ops, _, _, _, _, hlt⟩
   · exact fin d' sl' hst h0 h
   · omega
 | succ M ih =>
   intro gs q d sl t hM h0 h
   rcases fr_pick h0 hr h sl with ⟨d', sl', hst⟩ | ⟨gs', q', d', sl', ops, hst, h0', hs', hF', hlt⟩
   · exact fin d' sl' hst h0 h
   · exact .step hst (ih gs' q' d' sl' _ (by rw [hs']; omega) h0' hF')
 where
 fin {gs : Array Goroutine} {q : Nat -> Nat} {d : Nat} {sl : Option (Nat × Nat)} {t : Trace} (d' : Nat) (sl' : Option (Nat × Nat)) (hst : stepT P (crowd gs (w.at d) sl) = runT P (crowd gs ((w.at d).at d') sl') 0) (h0 : gs[0]? = some a) (h : Fr P SB gs q (w.at d) t) :
     Ends P Post (crowd gs (w.at d) sl) t := by
   obtain ⟨v, w', es, hend, hsz, hes, hpost⟩ := hstep d'
   have hrunT := runT_many_ended (P := P) (sl := sl') (i := 0) h0 (show stepG P (0 == 0) a ((w.at d).at d') = _ from hend)
   have hrT := hst.trans hrunT
   have htr : Tr (ShS SB) (fun _ _ => False) (fun _ _ => False) (gs.size - 1) (gs.size - 1) w.heap.size t := h.tr
   have hT : Tr (ShS SB) (fun _ _ => False) (fun _ _ => False) (gs.size - 1) (gs.size - 1) w'.heap.size (t ++ MemOp.ofEvents 0 a.frame.fn a.frame.place es) := by
     refine (htr.mono hsz).app0 apart_none (fun op hop => ?_) (fun op hop => ?_)
     · obtain ⟨e, he, rfl⟩ := Go.Conc.mem_ofEvents hop
       exact ⟨rfl, fun x hx => .inr ⟨(hes e he).1 x hx, fun _ _ _ hf => hf, fun _ _ _ _ hf => hf⟩⟩
     · obtain ⟨e, he, rfl⟩ := Go.Conc.mem_ofEvents hop
       exact (hes e he).2.2.2
   refine ⟨0, crowd gs (w.at d) sl, _, _, t ++ MemOp.ofEvents 0 a.frame.fn a.frame.place es, by simp only [runNT, hrT], rfl, by simp only [Go.step, hrT], v, rfl, hpost, hT.ct.nr, hT.start, ⟨fun x hx => ?_, rfl⟩, fun j x hx hj => ?_⟩
   · obtain ⟨j, hj⟩ := List.mem_iff_getElem?.1 hx
     rw [List.getElem?_drop] at hj
     exact ⟨_, (h.lv (1 + j) x (by omega) (by simpa [crowd] using hj)).leaves⟩
   · have hq := h.lv j x (by omega) hx
     refine ⟨q j, ?_⟩
     have e : (t ++ MemOp.ofEvents 0 a.frame.fn a.frame.place es).deaf j (t ++ MemOp.ofEvents 0 a.frame.fn a.frame.place es).size = Deaf t j :=
       Deaf_other t (g := j) (g' := 0) (by omega) _ ofEvents_g
     rw [e]
     exact hq.hears _
theorem Rec.steps {S : Program} {F : FuncId -> Bool} {sp0 : FuncId} (H : Same S S F) (hF : Fine S S F sp0) (hsp : NoSp S F sp0) {fs0 : List Frame} {f0 : World} (hwf : WF S F sp0 fs0 f0) :
   ∀ (n : Nat) {fs fs' : List Frame} {s s' : World}, Rec S fs0 f0 fs s -> giter S n fs s = some (fs', s') -> Rec S fs0 f0 fs' s'
 | 0, fs, fs', s, s', h, hg => by
   simp only [giter, Option.some.injEq, Prod.mk.injEq] at hg
   obtain ⟨rfl, rfl⟩ := hg
   exact h
 | n + 1, fs, fs', s, s', h, hg => by
   simp only [giter] at hg
   cases hr : (gsem S fs).run S s with
   | halt x y => rw [hr] at hg; cases hg
   | ok fs1 s1 =>
     rw [hr] at hg
     exact Rec.steps H hF hsp hwf n (h.step H hF hsp hwf (τ1 := s.tape) (d1 := s.drawn) hr) hg
theorem VRel.fmono {F G : FuncId -> Prop} (hFG : ∀ f, F f -> G f) {ρ : Ren} {v v' : Value} (h : VRel F ρ v v') : VRel G ρ v v' := by
 induction h with
 | bool b => exact .bool b
 | int k n => exact .int k n
 | string s => exact .string s
 | nilPtr => exact .nilPtr
 | ptr h => exact .ptr h
 | nilSlice l c => exact .nilSlice l c
 | slice l c h => exact .slice l c h
 | void a a' => exact .void a a'
 | nilFunc => exact .nilFunc
 | func hf h1 _ h2 _ i1 i2 => exact .func (hFG _ hf) h1 i1 h2 i2
 | nilIface => exact .nilIface
 | iface t _ ih => exact .iface t ih
 | agg h _ ih => exact .agg h ih
 | tuple h _ ih => exact .tuple h ih
theorem AVRel.fmono {F G : FuncId -> Prop} (hFG : ∀ f, F f -> G f) {ρ : Ren} {x x' : Array Value} (h : AVRel F ρ x x') : AVRel G ρ x x' := ⟨h.1, fun i v v' a b => VRel.fmono hFG (h.2 i v v' a b)⟩
theorem WRel.fmono {F G : FuncId -> Prop} (hFG : ∀ f, F f -> G f) {ρ : Ren} {s w : World} (h : WRel F ρ s w) : WRel G ρ s w := by
 refine ⟨fun b e hb => ?_, h.inj⟩
 rcases h.blk b e hb with ⟨c, t, fr, c', t', fr', h1, h2, h3, h4⟩ | h
 · exact .inl ⟨c, t, fr, c', t', fr', h1, h2, fun i v hv => by
     obtain ⟨v', k1, k2⟩ := h3 i v hv
     exact ⟨v', k1, VRel.fmono hFG k2⟩, h4⟩
 · exact .inr h
theorem shared_slice {F : FuncId -> Prop} {θ : Ren} {s : World} {a : Option Addr} {l c : Nat} {v' : Value} (h : VRel F θ (.slice a l c) v') (hc : ∀ x, a = some x -> isCells s x.block = true) : VRel F (shared θ s) (.slice a l c) v' := by
 cases h with
 | nilSlice => exact .nilSlice _ _
 | void => exact .void _ _
 | @slice a a' _ _ ha =>
   obtain ⟨e, h1, h2, h3⟩ := ha
   refine .slice _ _ ⟨{ e with own := false }, ?_, h2, h3⟩
   unfold shared
   rw [if_pos (hc a rfl), h1]
   rfl
end Crw
end Go.Proofs.YthgelfnflafoiabGreat
namespace Go.Proofs.YthgelfnflafoiabGreat
namespace Crw
open Go.Conc Go.ConcN Go.RowKit Go.Conc.Lib Go.ConcR.Gen Go.ConcN.Gen
open Go.ConcR (KK wgBlock WgAt stA smA rd wr mk Payload Aside2 DC0)
theorem d0_nil {Wg : Nat} {w : World} : D0 Wg w w #[] := ⟨rfl, by simp⟩
theorem d0_none {Wg : Nat} {w : World} {es : Array Event} (h : ∀ e ∈ es, False) : D0 Wg w w es := ⟨rfl, fun e he => (h e he).elim⟩
theorem ev1_said_read {Wg : Nat} (a : Addr) (h : a.block = Wg) : Ev1 Wg ⟨.mark (.read a), false, true⟩ := by
 refine ⟨fun x hx => ?_, by simp, by simp, by simp⟩
 simp only [MemAct.ofEvent, MemAct.touch?, Option.some.injEq] at hx
 subst hx
 exact ⟨⟨a, rfl, h⟩, by simp⟩
theorem ev1_said_write {Wg : Nat} (a : Addr) (h : a.block = Wg) : Ev1 Wg ⟨.mark (.write a), false, true⟩ := by
 refine ⟨fun x hx => ?_, by simp, by simp, by simp⟩
 simp only [MemAct.ofEvent, MemAct.touch?, Option.some.injEq] at hx
 subst hx
 exact ⟨⟨a, rfl, h⟩, by simp⟩
theorem all_said_read {Wg : Nat} (a : Addr) (h : a.block = Wg) : ∀ e ∈ #[(⟨.mark (.read a), false, true⟩ : Event)], Ev1 Wg e := fun e he => by
 rw [Array.mem_singleton] at he
 subst he
 exact ev1_said_read a h
theorem all_said_write {Wg : Nat} (a : Addr) (h : a.block = Wg) : ∀ e ∈ #[(⟨.mark (.write a), false, true⟩ : Event)], Ev1 Wg e := fun e he => by
 rw [Array.mem_singleton] at he
 subst he
 exact ev1_said_write a h
section
variable [Payload] {L : WgLink} {P : Program} {SB : Nat -> Prop} {Wg C n Low : Nat} {W : WSpec P SB L.tWg Wg C n Low} {w0 : World} {o1 : Nat -> Obj} {j nb : Nat} {Next : Goroutine -> World -> Prop}
 {b₀ : Frame} {a₀ : Act} {ops₀ : Array Oper} {i₀ : Nat} {rest₀ : List Nat} {k₀ : List Item} {cs : List Frame} {mT : Nat}
set_option maxRecDepth 100000 in
set_option maxHeartbeats 8000000 in
theorem addPos0 (H : WgLib P L)
   (hT : ∀ w, WgLive L.tWg Wg w -> Goes P true (R0 L.tWg Wg) (D0 Wg) (AtGoS P L.tWg Wg n W w0 o1 j Next nb) mT (G (b₀.at (a₀.put ((ops₀[i₀]?).bind (·.dst)) (.tuple #[])) (.inRegion ops₀ rest₀ :: k₀)) cs) w)
   (w : World) (hF : WgLive L.tWg Wg w) :
   Goes P true (R0 L.tWg Wg) (D0 Wg) (AtKdS P L.tWg Wg n W w0 o1 j Next nb) 12
     (G ((base L.add).at ⟨#[.pointer (some ⟨Wg, 0, none⟩), .int .i64 1, undef, undef, undef, undef, undef, undef, undef, undef, undef, undef, undef, undef, undef, undef, undef, undef, undef, undef, undef, undef, undef, undef, undef, undef, undef, undef, undef, undef, undef, undef, undef, undef, undef, undef, undef, undef, undef, undef, undef, undef, undef, undef, undef, undef, undef, undef, undef, undef, undef, undef, undef, undef, undef, undef, undef, undef, undef, undef, undef, undef, undef, undef, undef, undef, undef, undef, undef, undef, undef, undef, undef, undef, undef, undef, undef, undef, undef, undef, undef, undef, undef, undef, undef, undef, undef, undef, undef, undef, undef, undef, undef, undef, undef, undef, undef, undef, undef, undef, undef, undef, undef, undef, undef, undef, undef, undef, undef, undef, undef, undef, undef, undef, undef, undef, undef], []⟩ [.code (body_add L)]) (b₀.at a₀ (.inRegion ops₀ (i₀ :: rest₀) :: k₀) :: cs)) w := by
 lib_facts
 simp only [body_add, addFn, Option.getD_some]
 (refine Goes.step rfl (fun _ hq => ?_); replace hF := hq hF; clear hq; rw [stepG_seq]; simp only [goes_go]; refine ⟨d0_nil, ?_⟩)
 (refine Goes.step rfl (fun _ hq => ?_); replace hF := hq hF; clear hq; rw [stepG_cond (t := true) (rfl)]; simp only [goes_go, ↓reduceIte]; refine ⟨d0_nil, ?_⟩)
 iterate 6 (refine Goes.step rfl (fun _ hq => ?_); replace hF := hq hF; clear hq; first | (rw [stepG_seq]; simp only [goes_go]; refine ⟨d0_nil, ?_⟩) | (rw [stepG_region_end]; simp only [goes_go]; refine ⟨d0_nil, ?_⟩) | (rw [stepG_region]; simp only [goes_go, List.size_toArray, List.length_cons, List.length_nil, Nat.zero_add]; (try simp only [Nat.reduceAdd]); simp only [List.range, List.range.loop]; refine ⟨d0_nil, ?_⟩) | (refine goes_oper_k rfl rfl (by k_ne) (fun K hK => ?_); go_simp; refine hK _ _ ⟨d0_none (fun e he => by have hm := mem_listed he; simp [go_sem, *] at hm), ?_⟩; clear hK K; try w_num))
 (refine Goes.step rfl (fun _ hq => ?_); replace hF := hq hF; clear hq; rw [stepG_cond (t := false) (rfl)]; simp only [goes_go, Bool.false_eq_true, ↓reduceIte]; refine ⟨d0_nil, ?_⟩)
 iterate 3 (refine Goes.step rfl (fun _ hq => ?_); replace hF := hq hF; clear hq; first | (rw [stepG_seq]; simp only [goes_go]; refine ⟨d0_nil, ?_⟩) | (rw [stepG_region]; simp only [goes_go, List.size_toArray, List.length_cons, List.length_nil, Nat.zero_add]; (try simp only [Nat.reduceAdd]); simp only [List.range, List.range.loop]; refine ⟨d0_nil, ?_⟩) | (rw [stepG_skip]; simp only [goes_go]; refine ⟨d0_nil, ?_⟩))
 refine Goes.stop (fun w1 h1 => ?_)
 replace hF := h1 hF
 clear h1
 refine ⟨rfl, _, stepG_mark0 .disable (by simp) rfl rfl (by k_ne) rfl H.f_disable (x_disable_n L) (x_disable_b L) (x_disable_x L) (x_disable_f L), 40, ?_⟩
 walk_nrm
 iterate 2 (refine Goes.step rfl (fun _ hq => ?_); replace hF := hq hF; clear hq; first | (rw [stepG_region_end]; simp only [goes_go]; refine ⟨d0_nil, ?_⟩) | (rw [stepG_region]; simp only [goes_go, List.size_toArray, List.length_cons, List.length_nil, Nat.zero_add]; (try simp only [Nat.reduceAdd]); simp only [List.range, List.range.loop]; refine ⟨d0_nil, ?_⟩))
 (refine Goes.step rfl (fun _ hq => ?_); replace hF := hq hF; clear hq; rw [stepG_defer rfl rfl (by k_ne) rfl]; simp only [goes_go]; refine ⟨d0_nil, ?_⟩; walk_nrm)
 iterate 8 (refine Goes.step rfl (fun _ hq => ?_); replace hF := hq hF; clear hq; first | (rw [stepG_seq]; simp only [goes_go]; refine ⟨d0_nil, ?_⟩) | (rw [stepG_region_end]; simp only [goes_go]; refine ⟨d0_nil, ?_⟩) | (rw [stepG_region]; simp only [goes_go, List.size_toArray, List.length_cons, List.length_nil, Nat.zero_add]; (try simp only [Nat.reduceAdd]); simp only [List.range, List.range.loop]; refine ⟨d0_nil, ?_⟩) | (refine goes_oper_k rfl rfl (by k_ne) (fun K hK => ?_); go_simp; refine hK _ _ ⟨d0_none (fun e he => by have hm := mem_listed he; simp [go_sem, *] at hm), ?_⟩; clear hK K; try w_num))
 (refine Goes.step rfl (fun _ hq => ?_); replace hF := hq hF; clear hq; rw [stepG_entry_pure (.bool false) rfl rfl (by k_ne) rfl H.f_inBubble (x_inBubble_n L) (x_inBubble_b L) (x_inBubble_x L) (x_inBubble_f L)]; simp only [goes_go]; refine ⟨d0_nil, ?_⟩; walk_nrm)
 (refine Goes.step rfl (fun _ hq => ?_); replace hF := hq hF; clear hq; rw [stepG_region_end]; simp only [goes_go]; refine ⟨d0_nil, ?_⟩)
 (refine Goes.step rfl (fun _ hq => ?_); replace hF := hq hF; clear hq; rw [stepG_cond (t := false) (rfl)]; simp only [goes_go, Bool.false_eq_true, ↓reduceIte]; refine ⟨d0_nil, ?_⟩)
 iterate 9 (refine Goes.step rfl (fun _ hq => ?_); replace hF := hq hF; clear hq; first | (rw [stepG_seq]; simp only [goes_go]; refine ⟨d0_nil, ?_⟩) | (rw [stepG_region]; simp only [goes_go, List.size_toArray, List.length_cons, List.length_nil, Nat.zero_add]; (try simp only [Nat.reduceAdd]); simp only [List.range, List.range.loop]; refine ⟨d0_nil, ?_⟩) | (rw [stepG_skip]; simp only [goes_go]; refine ⟨d0_nil, ?_⟩) | (refine goes_oper_k rfl rfl (by k_ne) (fun K hK => ?_); go_simp; refine hK _ _ ⟨d0_none (fun e he => by have hm := mem_listed he; simp [go_sem, *] at hm), ?_⟩; clear hK K; try w_num))
 (refine Goes.step rfl (fun _ hq => ?_); replace hF := hq hF; clear hq; refine goes_call rfl rfl (by k_ne) rfl H.f_uAdd (nm_uAdd L) rfl ⟨d0_nil, ?_⟩; walk_nrmf uAddFn)
 iterate 10 (refine Goes.step rfl (fun _ hq => ?_); replace hF := hq hF; clear hq; first | (rw [stepG_seq]; simp only [goes_go]; refine ⟨d0_nil, ?_⟩) | (rw [stepG_region_end]; simp only [goes_go]; refine ⟨d0_nil, ?_⟩) | (rw [stepG_region]; simp only [goes_go, List.size_toArray, List.length_cons, List.length_nil, Nat.zero_add]; (try simp only [Nat.reduceAdd]); simp only [List.range, List.range.loop]; refine ⟨d0_nil, ?_⟩) | (refine goes_oper_k rfl rfl (by k_ne) (fun K hK => ?_); go_simp; refine hK _ _ ⟨d0_none (fun e he => by have hm := mem_listed he; simp [go_sem, *] at hm), ?_⟩; clear hK K; try w_num))
 refine Goes.stop (fun w2 h2 => ?_)
 replace hF := h2 hF
 clear h2
 refine ⟨rfl, fun v hv hw => ?_⟩
 rcases Nat.eq_zero_or_pos v with rfl | hvp
 · -- the count is now 1
   replace hw : WgAt L.tWg Wg w2 0 0 := by simpa using hw
   have z : (((0 : Nat) : Int) + 1) * KK = KK := by simp
   rw [z]
   have e0 : IntKind.u64.wrap (0 + 4294967296) = KK := by decide
   refine ⟨_, (stepG_add_atomic rfl rfl (by k_ne) rfl H.f_addU64 (x_addU64_n L) (x_addU64_b L) (x_addU64_x L) .u64 (x_addU64_f L) rfl rfl hw.cellSt (hw.thaw 0)).trans (by rw [e0]; rfl), 110, ?_⟩
   replace hF : WgLive L.tWg Wg (w2.setCell (stA Wg) (.int .u64 KK)) := ⟨_, _, hw.setSt _⟩
   clear hw
   simp only [KK] at hF ⊢
   walk_nrm
   iterate 2 (refine Goes.step rfl (fun _ hq => ?_); replace hF := hq hF; clear hq; first | (rw [stepG_region_end]; simp only [goes_go]; refine ⟨d0_nil, ?_⟩) | (refine goes_oper_k rfl rfl (by k_ne) (fun K hK => ?_); go_simp; refine hK _ _ ⟨d0_none (fun e he => by have hm := mem_listed he; simp [go_sem, *] at hm), ?_⟩; clear hK K; try w_num))
   (refine Goes.step rfl (fun _ hq => ?_); replace hF := hq hF; clear hq; rw [stepG_ret']; simp only [goes_go]; refine ⟨d0_nil, ?_⟩)
   (refine Goes.step rfl (fun _ hq => ?_); replace hF := hq hF; clear hq; refine goes_leave1 rfl rfl H.f_uAdd rfl ⟨d0_nil, ?_⟩; walk_nrm)
   iterate 9 (refine Goes.step rfl (fun _ hq => ?_); replace hF := hq hF; clear hq; first | (rw [stepG_seq]; simp only [goes_go]; refine ⟨d0_nil, ?_⟩) | (rw [stepG_region_end]; simp only [goes_go]; refine ⟨d0_nil, ?_⟩) | (rw [stepG_region]; simp only [goes_go, List.size_toArray, List.length_cons, List.length_nil, Nat.zero_add]; (try simp only [Nat.reduceAdd]); simp only [List.range, List.range.loop]; refine ⟨d0_nil, ?_⟩) | (refine goes_oper_k rfl rfl (by k_ne) (fun K hK => ?_); go_simp; refine hK _ _ ⟨d0_none (fun e he => by have hm := mem_listed he; simp [go_sem, *] at hm), ?_⟩; clear hK K; try w_num))
   (refine Goes.step rfl (fun _ hq => ?_); replace hF := hq hF; clear hq; rw [stepG_unwanted rfl rfl]; simp only [goes_go]; refine ⟨d0_nil, ?_⟩; walk_nrm)
   (refine Goes.step rfl (fun _ hq => ?_); replace hF := hq hF; clear hq; rw [stepG_unwanted rfl rfl]; simp only [goes_go]; refine ⟨d0_nil, ?_⟩; walk_nrm)
   iterate 2 (refine Goes.step rfl (fun _ hq => ?_); replace hF := hq hF; clear hq; first | (rw [stepG_region_end]; simp only [goes_go]; refine ⟨d0_nil, ?_⟩) | (refine goes_oper_k rfl rfl (by k_ne) (fun K hK => ?_); go_simp; refine hK _ _ ⟨d0_none (fun e he => by have hm := mem_listed he; simp [go_sem, *] at hm), ?_⟩; clear hK K; try w_num))
   (refine Goes.step rfl (fun _ hq => ?_); replace hF := hq hF; clear hq; rw [stepG_cond (t := false) (rfl)]; simp only [goes_go, Bool.false_eq_true, ↓reduceIte]; refine ⟨d0_nil, ?_⟩)
   iterate 29 (refine Goes.step rfl (fun _ hq => ?_); replace hF := hq hF; clear hq; first | (rw [stepG_seq]; simp only [goes_go]; refine ⟨d0_nil, ?_⟩) | (rw [stepG_region_end]; simp only [goes_go]; refine ⟨d0_nil, ?_⟩) | (rw [stepG_region]; simp only [goes_go, List.size_toArray, List.length_cons, List.length_nil, Nat.zero_add]; (try simp only [Nat.reduceAdd]); simp only [List.range, List.range.loop]; refine ⟨d0_nil, ?_⟩) | (rw [stepG_skip]; simp only [goes_go]; refine ⟨d0_nil, ?_⟩) | (refine goes_oper_k rfl rfl (by k_ne) (fun K hK => ?_); go_simp; refine hK _ _ ⟨d0_none (fun e he => by have hm := mem_listed he; simp [go_sem, *] at hm), ?_⟩; clear hK K; try w_num))
   (refine Goes.step rfl (fun _ hq => ?_); replace hF := hq hF; clear hq; rw [stepG_cond (t := true) (rfl)]; simp only [goes_go, ↓reduceIte]; refine ⟨d0_nil, ?_⟩)
   iterate 4 (refine Goes.step rfl (fun _ hq => ?_); replace hF := hq hF; clear hq; first | (rw [stepG_region]; simp only [goes_go, List.size_toArray, List.length_cons, List.length_nil, Nat.zero_add]; (try simp only [Nat.reduceAdd]); simp only [List.range, List.range.loop]; refine ⟨d0_nil, ?_⟩) | (refine goes_oper_k rfl rfl (by k_ne) (fun K hK => ?_); go_simp; refine hK _ _ ⟨d0_none (fun e he => by have hm := mem_listed he; simp [go_sem, *] at hm), ?_⟩; clear hK K; try w_num))
   (refine Goes.step rfl (fun _ hq => ?_); replace hF := hq hF; clear hq; refine goes_oper_k rfl rfl (by k_ne) (fun Kx hKx => ?_); have hcv := run_convert_to_unsafe (P := P) H.underlying_tPU32 H.underlying_tUP H.room_tU32 (WgLive.cell1 hF).choose_spec; have hce := fun es => events_convert_to_unsafe (P := P) H.underlying_tPU32 H.underlying_tUP H.room_tU32 (WgLive.cell1 hF).choose_spec es; go_simp; refine hKx _ _ ⟨d0_none (fun ex hex => by have hmx := mem_listed hex; simp [go_sem, hce] at hmx), ?_⟩; clear hKx Kx hcv hce)
   (refine Goes.step rfl (fun _ hq => ?_); replace hF := hq hF; clear hq; rw [stepG_markAt .read (by simp) rfl rfl (by k_ne) rfl H.f_raceRead (x_raceRead_n L) (x_raceRead_b L) (x_raceRead_x L) (x_raceRead_f L) (ad := ⟨_, 1, none⟩) (by simp [Act.eval] <;> rfl)]; simp only [goes_go]; refine ⟨⟨rfl, all_said_read _ rfl⟩, ?_⟩; walk_nrm)
   iterate 7 (refine Goes.step rfl (fun _ hq => ?_); replace hF := hq hF; clear hq; first | (rw [stepG_seq]; simp only [goes_go]; refine ⟨d0_nil, ?_⟩) | (rw [stepG_region_end]; simp only [goes_go]; refine ⟨d0_nil, ?_⟩) | (rw [stepG_region]; simp only [goes_go, List.size_toArray, List.length_cons, List.length_nil, Nat.zero_add]; (try simp only [Nat.reduceAdd]); simp only [List.range, List.range.loop]; refine ⟨d0_nil, ?_⟩) | (refine goes_oper_k rfl rfl (by k_ne) (fun K hK => ?_); go_simp; refine hK _ _ ⟨d0_none (fun e he => by have hm := mem_listed he; simp [go_sem, *] at hm), ?_⟩; clear hK K; try w_num))
   (refine Goes.step rfl (fun _ hq => ?_); replace hF := hq hF; clear hq; rw [stepG_cond (t := false) (rfl)]; simp only [goes_go, Bool.false_eq_true, ↓reduceIte]; refine ⟨d0_nil, ?_⟩)
   iterate 7 (refine Goes.step rfl (fun _ hq => ?_); replace hF := hq hF; clear hq; first | (rw [stepG_seq]; simp only [goes_go]; refine ⟨d0_nil, ?_⟩) | (rw [stepG_region]; simp only [goes_go, List.size_toArray, List.length_cons, List.length_nil, Nat.zero_add]; (try simp only [Nat.reduceAdd]); simp only [List.range, List.range.loop]; refine ⟨d0_nil, ?_⟩) | (rw [stepG_skip]; simp only [goes_go]; refine ⟨d0_nil, ?_⟩) | (refine goes_oper_k rfl rfl (by k_ne) (fun K hK => ?_); go_simp; refine hK _ _ ⟨d0_none (fun e he => by have hm := mem_listed he; simp [go_sem, *] at hm), ?_⟩; clear hK K; try w_num))
   (refine Goes.step rfl (fun _ hq => ?_); replace hF := hq hF; clear hq; rw [stepG_unwanted rfl rfl]; simp only [goes_go]; refine ⟨d0_nil, ?_⟩; walk_nrm)
   (refine Goes.step rfl (fun _ hq => ?_); replace hF := hq hF; clear hq; rw [stepG_unwanted rfl rfl]; simp only [goes_go]; refine ⟨d0_nil, ?_⟩; walk_nrm)
   iterate 2 (refine Goes.step rfl (fun _ hq => ?_); replace hF := hq hF; clear hq; refine goes_oper_k rfl rfl (by k_ne) (fun K hK => ?_); go_simp; refine hK _ _ ⟨d0_none (fun e he => by have hm := mem_listed he; simp [go_sem, *] at hm), ?_⟩; clear hK K; try w_num)
   (refine Goes.step rfl (fun _ hq => ?_); replace hF := hq hF; clear hq; rw [stepG_unwanted rfl rfl]; simp only [goes_go]; refine ⟨d0_nil, ?_⟩; walk_nrm)
   (refine Goes.step rfl (fun _ hq => ?_); replace hF := hq hF; clear hq; rw [stepG_unwanted rfl rfl]; simp only [goes_go]; refine ⟨d0_nil, ?_⟩; walk_nrm)
   (refine Goes.step rfl (fun _ hq => ?_); replace hF := hq hF; clear hq; rw [stepG_unwanted rfl rfl]; simp only [goes_go]; refine ⟨d0_nil, ?_⟩; walk_nrm)
   (refine Goes.step rfl (fun _ hq => ?_); replace hF := hq hF; clear hq; rw [stepG_unwanted rfl rfl]; simp only [goes_go]; refine ⟨d0_nil, ?_⟩; walk_nrm)
   iterate 2 (refine Goes.step rfl (fun _ hq => ?_); replace hF := hq hF; clear hq; first | (rw [stepG_region_end]; simp only [goes_go]; refine ⟨d0_nil, ?_⟩) | (refine goes_oper_k rfl rfl (by k_ne) (fun K hK => ?_); go_simp; refine hK _ _ ⟨d0_none (fun e he => by have hm := mem_listed he; simp [go_sem, *] at hm), ?_⟩; clear hK K; try w_num))
   (refine Goes.step rfl (fun _ hq => ?_); replace hF := hq hF; clear hq; rw [stepG_cond (t := false) (rfl)]; simp only [goes_go, Bool.false_eq_true, ↓reduceIte]; refine ⟨d0_nil, ?_⟩)
   iterate 7 (refine Goes.step rfl (fun _ hq => ?_); replace hF := hq hF; clear hq; first | (rw [stepG_seq]; simp only [goes_go]; refine ⟨d0_nil, ?_⟩) | (rw [stepG_region]; simp only [goes_go, List.size_toArray, List.length_cons, List.length_nil, Nat.zero_add]; (try simp only [Nat.reduceAdd]); simp only [List.range, List.range.loop]; refine ⟨d0_nil, ?_⟩) | (rw [stepG_skip]; simp only [goes_go]; refine ⟨d0_nil, ?_⟩) | (refine goes_oper_k rfl rfl (by k_ne) (fun K hK => ?_); go_simp; refine hK _ _ ⟨d0_none (fun e he => by have hm := mem_listed he; simp [go_sem, *] at hm), ?_⟩; clear hK K; try w_num))
   (refine Goes.step rfl (fun _ hq => ?_); replace hF := hq hF; clear hq; rw [stepG_unwanted rfl rfl]; simp only [goes_go]; refine ⟨d0_nil, ?_⟩; walk_nrm)
   (refine Goes.step rfl (fun _ hq => ?_); replace hF := hq hF; clear hq; rw [stepG_unwanted rfl rfl]; simp only [goes_go]; refine ⟨d0_nil, ?_⟩; walk_nrm)
   iterate 2 (refine Goes.step rfl (fun _ hq => ?_); replace hF := hq hF; clear hq; first | (rw [stepG_region_end]; simp only [goes_go]; refine ⟨d0_nil, ?_⟩) | (refine goes_oper_k rfl rfl (by k_ne) (fun K hK => ?_); go_simp; refine hK _ _ ⟨d0_none (fun e he => by have hm := mem_listed he; simp [go_sem, *] at hm), ?_⟩; clear hK K; try w_num))
   (refine Goes.step rfl (fun _ hq => ?_); replace hF := hq hF; clear hq; rw [stepG_cond (t := true) (rfl)]; simp only [goes_go, ↓reduceIte]; refine ⟨d0_nil, ?_⟩)
   (refine Goes.step rfl (fun _ hq => ?_); replace hF := hq hF; clear hq; rw [stepG_ret']; simp only [goes_go]; refine ⟨d0_nil, ?_⟩)
   refine Goes.stop (fun w3 h3 => ?_)
   replace hF := h3 hF
   clear h3
   refine ⟨rfl, _, stepG_unwind_entry (v := .tuple #[]) (evs := #[mk .enable]) rfl H.f_enable (x_enable_n L) (x_enable_b L) (x_enable_x L) (x_enable_f L) (by simp [Extern.Race.none_]) (by simp [mk]) (by simp [mk]), mT + 1, ?_⟩
   (refine Goes.step rfl (fun _ hq => ?_); replace hF := hq hF; clear hq; refine goes_leave0 rfl rfl H.f_add rfl ⟨d0_nil, ?_⟩; walk_nrm)
   exact hT _ hF
 · -- it is more
   obtain ⟨V, hV⟩ : ∃ V : Int, V = (v : Int) + 1 := ⟨_, rfl⟩
   obtain ⟨S, hS⟩ : ∃ S : Int, S = V * KK := ⟨_, rfl⟩
   have eS : IntKind.u64.wrap ((v : Int) * KK + 4294967296) = S := by rw [IntKind.wrap_u64, hS, hV]; simp only [KK]; omega
   rw [<- hV, <- hS]
   have a1 : S / 4294967296 = V := by rw [hS]; simp only [KK]; omega
   have b1 : bits .and .u64 S 2147483648 = 0 := by rw [hS, hV]; have := st_flag (v + 1) 0 (by omega) (by omega); simpa [KK] using this
   have b2 : bits .and .u64 S 2147483647 = 0 := by rw [hS, hV]; have := st_waiters (v + 1) 0 (by omega) (by omega); simpa [KK] using this
   have c1 : IntKind.i32.wrap V = V := by rw [IntKind.wrap_i32]; omega
   have hV1 : 1 < V := by omega
   have hV2 : V < 2147483648 := by omega
   have q1 : (V == 1) = false := by simp; omega
   have q2 : decide (V = 1) = false := decide_eq_false (by omega)
   have q3 : decide (V < 0) = false := decide_eq_false (by omega)
   have q4 : decide (0 < V) = true := decide_eq_true (by omega)
   have q5 : (V == 0) = false := by simp; omega
   have q6 : decide (V = 0) = false := decide_eq_false (by omega)
   refine ⟨_, (stepG_add_atomic rfl rfl (by k_ne) rfl H.f_addU64 (x_addU64_n L) (x_addU64_b L) (x_addU64_x L) .u64 (x_addU64_f L) rfl rfl hw.cellSt (hw.thaw 0)).trans (by rw [eS]; rfl), 110, ?_⟩
   replace hF : WgLive L.tWg Wg (w2.setCell (stA Wg) (.int .u64 S)) := ⟨_, _, hw.setSt _⟩
   clear hw hS hV eS
   walk_nrm
   iterate 2 (refine Goes.step rfl (fun _ hq => ?_); replace hF := hq hF; clear hq; first | (rw [stepG_region_end]; simp only [goes_go]; refine ⟨d0_nil, ?_⟩) | (refine goes_oper_k rfl rfl (by k_ne) (fun K hK => ?_); go_simp; refine hK _ _ ⟨d0_none (fun e he => by have hm := mem_listed he; simp [go_sem, *] at hm), ?_⟩; clear hK K; try w_num))
   (refine Goes.step rfl (fun _ hq => ?_); replace hF := hq hF; clear hq; rw [stepG_ret']; simp only [goes_go]; refine ⟨d0_nil, ?_⟩)
   (refine Goes.step rfl (fun _ hq => ?_); replace hF := hq hF; clear hq; refine goes_leave1 rfl rfl H.f_uAdd rfl ⟨d0_nil, ?_⟩; walk_nrm)
   iterate 9 (refine Goes.step rfl (fun _ hq => ?_); replace hF := hq hF; clear hq; first | (rw [stepG_seq]; simp only [goes_go]; refine ⟨d0_nil, ?_⟩) | (rw [stepG_region_end]; simp only [goes_go]; refine ⟨d0_nil, ?_⟩) | (rw [stepG_region]; simp only [goes_go, List.size_toArray, List.length_cons, List.length_nil, Nat.zero_add]; (try simp only [Nat.reduceAdd]); simp only [List.range, List.range.loop]; refine ⟨d0_nil, ?_⟩) | (refine goes_oper_k rfl rfl (by k_ne) (fun K hK => ?_); go_simp; refine hK _ _ ⟨d0_none (fun e he => by have hm := mem_listed he; simp [go_sem, *] at hm), ?_⟩; clear hK K; try w_num))
   (refine Goes.step rfl (fun _ hq => ?_); replace hF := hq hF; clear hq; rw [stepG_unwanted rfl rfl]; simp only [goes_go]; refine ⟨d0_nil, ?_⟩; walk_nrm)
   (refine Goes.step rfl (fun _ hq => ?_); replace hF := hq hF; clear hq; rw [stepG_unwanted rfl rfl]; simp only [goes_go]; refine ⟨d0_nil, ?_⟩; walk_nrm)
   iterate 2 (refine Goes.step rfl (fun _ hq => ?_); replace hF := hq hF; clear hq; first | (rw [stepG_region_end]; simp only [goes_go]; refine ⟨d0_nil, ?_⟩) | (refine goes_oper_k rfl rfl (by k_ne) (fun K hK => ?_); go_simp; refine hK _ _ ⟨d0_none (fun e he => by have hm := mem_listed he; simp [go_sem, *] at hm), ?_⟩; clear hK K; try w_num))
   (refine Goes.step rfl (fun _ hq => ?_); replace hF := hq hF; clear hq; rw [stepG_cond (t := false) (by first | rfl | (simp [Act.eval]; omega))]; simp only [goes_go, Bool.false_eq_true, ↓reduceIte]; refine ⟨d0_nil, ?_⟩)
   iterate 29 (refine Goes.step rfl (fun _ hq => ?_); replace hF := hq hF; clear hq; first | (rw [stepG_seq]; simp only [goes_go]; refine ⟨d0_nil, ?_⟩) | (rw [stepG_region_end]; simp only [goes_go]; refine ⟨d0_nil, ?_⟩) | (rw [stepG_region]; simp only [goes_go, List.size_toArray, List.length_cons, List.length_nil, Nat.zero_add]; (try simp only [Nat.reduceAdd]); simp only [List.range, List.range.loop]; refine ⟨d0_nil, ?_⟩) | (rw [stepG_skip]; simp only [goes_go]; refine ⟨d0_nil, ?_⟩) | (refine goes_oper_k rfl rfl (by k_ne) (fun K hK => ?_); go_simp; refine hK _ _ ⟨d0_none (fun e he => by have hm := mem_listed he; simp [go_sem, *] at hm), ?_⟩; clear hK K; try w_num))
   (refine Goes.step rfl (fun _ hq => ?_); replace hF := hq hF; clear hq; rw [stepG_cond (t := false) (by first | rfl | (simp [Act.eval]; omega))]; simp only [goes_go, Bool.false_eq_true, ↓reduceIte]; refine ⟨d0_nil, ?_⟩)
   iterate 7 (refine Goes.step rfl (fun _ hq => ?_); replace hF := hq hF; clear hq; first | (rw [stepG_seq]; simp only [goes_go]; refine ⟨d0_nil, ?_⟩) | (rw [stepG_region_end]; simp only [goes_go]; refine ⟨d0_nil, ?_⟩) | (rw [stepG_region]; simp only [goes_go, List.size_toArray, List.length_cons, List.length_nil, Nat.zero_add]; (try simp only [Nat.reduceAdd]); simp only [List.range, List.range.loop]; refine ⟨d0_nil, ?_⟩) | (rw [stepG_skip]; simp only [goes_go]; refine ⟨d0_nil, ?_⟩) | (refine goes_oper_k rfl rfl (by k_ne) (fun K hK => ?_); go_simp; refine hK _ _ ⟨d0_none (fun e he => by have hm := mem_listed he; simp [go_sem, *] at hm), ?_⟩; clear hK K; try w_num))
   (refine Goes.step rfl (fun _ hq => ?_); replace hF := hq hF; clear hq; rw [stepG_cond (t := false) (by first | rfl | (simp [Act.eval]; omega))]; simp only [goes_go, Bool.false_eq_true, ↓reduceIte]; refine ⟨d0_nil, ?_⟩)
   iterate 7 (refine Goes.step rfl (fun _ hq => ?_); replace hF := hq hF; clear hq; first | (rw [stepG_seq]; simp only [goes_go]; refine ⟨d0_nil, ?_⟩) | (rw [stepG_region]; simp only [goes_go, List.size_toArray, List.length_cons, List.length_nil, Nat.zero_add]; (try simp only [Nat.reduceAdd]); simp only [List.range, List.range.loop]; refine ⟨d0_nil, ?_⟩) | (rw [stepG_skip]; simp only [goes_go]; refine ⟨d0_nil, ?_⟩) | (refine goes_oper_k rfl rfl (by k_ne) (fun K hK => ?_); go_simp; refine hK _ _ ⟨d0_none (fun e he => by have hm := mem_listed he; simp [go_sem, *] at hm), ?_⟩; clear hK K; try w_num))
   (refine Goes.step rfl (fun _ hq => ?_); replace hF := hq hF; clear hq; rw [stepG_unwanted rfl rfl]; simp only [goes_go]; refine ⟨d0_nil, ?_⟩; walk_nrm)
   (refine Goes.step rfl (fun _ hq => ?_); replace hF := hq hF; clear hq; rw [stepG_unwanted rfl rfl]; simp only [goes_go]; refine ⟨d0_nil, ?_⟩; walk_nrm)
   iterate 2 (refine Goes.step rfl (fun _ hq => ?_); replace hF := hq hF; clear hq; refine goes_oper_k rfl rfl (by k_ne) (fun K hK => ?_); go_simp; refine hK _ _ ⟨d0_none (fun e he => by have hm := mem_listed he; simp [go_sem, *] at hm), ?_⟩; clear hK K; try w_num)
   (refine Goes.step rfl (fun _ hq => ?_); replace hF := hq hF; clear hq; rw [stepG_unwanted rfl rfl]; simp only [goes_go]; refine ⟨d0_nil, ?_⟩; walk_nrm)
   (refine Goes.step rfl (fun _ hq => ?_); replace hF := hq hF; clear hq; rw [stepG_unwanted rfl rfl]; simp only [goes_go]; refine ⟨d0_nil, ?_⟩; walk_nrm)
   (refine Goes.step rfl (fun _ hq => ?_); replace hF := hq hF; clear hq; rw [stepG_unwanted rfl rfl]; simp only [goes_go]; refine ⟨d0_nil, ?_⟩; walk_nrm)
   (refine Goes.step rfl (fun _ hq => ?_); replace hF := hq hF; clear hq; rw [stepG_unwanted rfl rfl]; simp only [goes_go]; refine ⟨d0_nil, ?_⟩; walk_nrm)
   iterate 2 (refine Goes.step rfl (fun _ hq => ?_); replace hF := hq hF; clear hq; first | (rw [stepG_region_end]; simp only [goes_go]; refine ⟨d0_nil, ?_⟩) | (refine goes_oper_k rfl rfl (by k_ne) (fun K hK => ?_); go_simp; refine hK _ _ ⟨d0_none (fun e he => by have hm := mem_listed he; simp [go_sem, *] at hm), ?_⟩; clear hK K; try w_num))
   (refine Goes.step rfl (fun _ hq => ?_); replace hF := hq hF; clear hq; rw [stepG_cond (t := false) (by first | rfl | (simp [Act.eval]; omega))]; simp only [goes_go, Bool.false_eq_true, ↓reduceIte]; refine ⟨d0_nil, ?_⟩)
   iterate 7 (refine Goes.step rfl (fun _ hq => ?_); replace hF := hq hF; clear hq; first | (rw [stepG_seq]; simp only [goes_go]; refine ⟨d0_nil, ?_⟩) | (rw [stepG_region]; simp only [goes_go, List.size_toArray, List.length_cons, List.length_nil, Nat.zero_add]; (try simp only [Nat.reduceAdd]); simp only [List.range, List.range.loop]; refine ⟨d0_nil, ?_⟩) | (rw [stepG_skip]; simp only [goes_go]; refine ⟨d0_nil, ?_⟩) | (refine goes_oper_k rfl rfl (by k_ne) (fun K hK => ?_); go_simp; refine hK _ _ ⟨d0_none (fun e he => by have hm := mem_listed he; simp [go_sem, *] at hm), ?_⟩; clear hK K; try w_num))
   (refine Goes.step rfl (fun _ hq => ?_); replace hF := hq hF; clear hq; rw [stepG_unwanted rfl rfl]; simp only [goes_go]; refine ⟨d0_nil, ?_⟩; walk_nrm)
   (refine Goes.step rfl (fun _ hq => ?_); replace hF := hq hF; clear hq; rw [stepG_unwanted rfl rfl]; simp only [goes_go]; refine ⟨d0_nil, ?_⟩; walk_nrm)
   iterate 2 (refine Goes.step rfl (fun _ hq => ?_); replace hF := hq hF; clear hq; first | (rw [stepG_region_end]; simp only [goes_go]; refine ⟨d0_nil, ?_⟩) | (refine goes_oper_k rfl rfl (by k_ne) (fun K hK => ?_); go_simp; refine hK _ _ ⟨d0_none (fun e he => by have hm := mem_listed he; simp [go_sem, *] at hm), ?_⟩; clear hK K; try w_num))
   (refine Goes.step rfl (fun _ hq => ?_); replace hF := hq hF; clear hq; rw [stepG_cond (t := true) (by first | rfl | (simp [Act.eval]; omega))]; simp only [goes_go, ↓reduceIte]; refine ⟨d0_nil, ?_⟩)
   (refine Goes.step rfl (fun _ hq => ?_); replace hF := hq hF; clear hq; rw [stepG_ret']; simp only [goes_go]; refine ⟨d0_nil, ?_⟩)
   refine Goes.stop (fun w3 h3 => ?_)
   replace hF := h3 hF
   clear h3
   refine ⟨rfl, _, stepG_unwind_entry (v := .tuple #[]) (evs := #[mk .enable]) rfl H.f_enable (x_enable_n L) (x_enable_b L) (x_enable_x L) (x_enable_f L) (by simp [Extern.Race.none_]) (by simp [mk]) (by simp [mk]), mT + 1, ?_⟩
   (refine Goes.step rfl (fun _ hq => ?_); replace hF := hq hF; clear hq; refine goes_leave0 rfl rfl H.f_add rfl ⟨d0_nil, ?_⟩; walk_nrm)
   exact hT _ hF
end
def Anch0 (L : WgLink) (Wg : Nat) (c : Frame) (cs : List Frame) (g : Goroutine) (w : World) : Prop :=
 ∃ T : Array Value, g = G ((base L.wait).at ⟨T, []⟩ [.code (L7 L), .inLoop (L7 L), .inBlock 0]) (c :: cs) /\ T.size = 84 /\ T[0]? = some (.pointer (some ⟨Wg, 0, none⟩)) /\ WgLive L.tWg Wg w
section
variable {L : WgLink} {P : Program} {Wg : Nat} {c : Frame} {cs : List Frame}
set_option maxRecDepth 100000 in
theorem waitStart0 (H : WgLib P L) (w : World) (hF : WgLive L.tWg Wg w) :
   Goes P true (R0 L.tWg Wg) (D0 Wg) (AtKd P L.tWg Wg (Anch0 L Wg c cs)) 3
     (G ((base L.wait).at ⟨#[.pointer (some ⟨Wg, 0, none⟩), undef, undef, undef, undef, undef, undef, undef, undef, undef, undef, undef, undef, undef, undef, undef, undef, undef, undef, undef, undef, undef, undef, undef, undef, undef, undef, undef, undef, undef, undef, undef, undef, undef, undef, undef, undef, undef, undef, undef, undef, undef, undef, undef, undef, undef, undef, undef, undef, undef, undef, undef, undef, undef, undef, undef, undef, undef, undef, undef, undef, undef, undef, undef, undef, undef, undef, undef, undef, undef, undef, undef, undef, undef, undef, undef, undef, undef, undef, undef, undef, undef, undef, undef], []⟩ [.code (body_wait L)]) (c :: cs)) w := by
 lib_facts
 simp only [body_wait, waitFn, Option.getD_some]
 (refine Goes.step rfl (fun _ hq => ?_); replace hF := hq hF; clear hq; rw [stepG_seq]; simp only [goes_go]; refine ⟨d0_nil, ?_⟩)
 (refine Goes.step rfl (fun _ hq => ?_); replace hF := hq hF; clear hq; rw [stepG_cond (t := true) (rfl)]; simp only [goes_go, ↓reduceIte]; refine ⟨d0_nil, ?_⟩)
 (refine Goes.step rfl (fun _ hq => ?_); replace hF := hq hF; clear hq; rw [stepG_region]; simp only [goes_go, List.size_toArray, List.length_cons, List.length_nil, Nat.zero_add]; (try simp only [Nat.reduceAdd]); simp only [List.range, List.range.loop]; refine ⟨d0_nil, ?_⟩)
 refine Goes.stop (fun w1 h1 => ?_)
 replace hF := h1 hF
 clear h1
 refine ⟨rfl, _, stepG_mark0 .disable (by simp) rfl rfl (by k_ne) rfl H.f_disable (x_disable_n L) (x_disable_b L) (x_disable_x L) (x_disable_f L), 3, ?_⟩
 walk_nrm
 (refine Goes.step rfl (fun _ hq => ?_); replace hF := hq hF; clear hq; rw [stepG_region_end]; simp only [goes_go]; refine ⟨d0_nil, ?_⟩)
 (refine Goes.step rfl (fun _ hq => ?_); replace hF := hq hF; clear hq; rw [stepG_block]; simp only [goes_go]; refine ⟨d0_nil, ?_⟩)
 (refine Goes.step rfl (fun _ hq => ?_); replace hF := hq hF; clear hq; rw [stepG_loop]; simp only [goes_go]; refine ⟨d0_nil, ?_⟩)
 exact Goes.stop (fun w2 h2 => ⟨_, rfl, by simp, by simp, h2 hF⟩)
def OutW (L : WgLink) (P : Program) (SB : Nat -> Prop) (Wg : Nat) (r : Goroutine) (g : Goroutine) : Prop :=
 ∃ m, ∀ w, WgLive L.tWg Wg w -> Goes P true AtRel (DF SB) (fun g' w' => g' = r /\ AtRel w w') m g w
end
section
variable {L : WgLink} {P : Program} {SB : Nat -> Prop} {Wg : Nat}
 {b₀ : Frame} {a₀ : Act} {ops₀ : Array Oper} {i₀ : Nat} {rest₀ : List Nat} {k₀ : List Item} {cs : List Frame}
theorem df_nil {w : World} : DF SB w w #[] := ⟨Nat.le_refl _, by simp⟩
theorem df_none {w : World} {es : Array Event} (h : ∀ e ∈ es, False) : DF SB w w es := ⟨Nat.le_refl _, fun e he => (h e he).elim⟩
theorem at_on {w0 w w₁ : World} (h : AtRel w0 w) (r : AtRel w w₁) : AtRel w0 w₁ := atRel_trans _ _ _ h r
set_option maxRecDepth 100000 in
set_option maxHeartbeats 8000000 in
theorem waitRound0 (H : WgLib P L)
   (g : Goroutine) (w : World) (h : Anch0 L Wg (b₀.at a₀ (.inRegion ops₀ (i₀ :: rest₀) :: k₀)) cs g w) :
   ∃ m, Goes P true (R0 L.tWg Wg) (D0 Wg) (AtW1 P L.tWg Wg (Anch0 L Wg (b₀.at a₀ (.inRegion ops₀ (i₀ :: rest₀) :: k₀)) cs) (OutW L P SB Wg (G (b₀.at (a₀.put ((ops₀[i₀]?).bind (·.dst)) (.tuple #[])) (.inRegion ops₀ rest₀ :: k₀)) cs))) m g w := by
 lib_facts
 obtain ⟨T, rfl, hT84, t0, hF⟩ := h
 obtain ⟨v0, v1, v2, v3, v4, v5, v6, v7, v8, v9, v10, v11, v12, v13, v14, v15, v16, v17, v18, v19, v20, v21, v22, v23, v24, v25, v26, v27, v28, v29, v30, v31, v32, v33, v34, v35, v36, v37, v38, v39, v40, v41, v42, v43, v44, v45, v46, v47, v48, v49, v50, v51, v52, v53, v54, v55, v56, v57, v58, v59, v60, v61, v62, v63, v64, v65, v66, v67, v68, v69, v70, v71, v72, v73, v74, v75, v76, v77, v78, v79, v80, v81, v82, v83, rfl⟩ := array84 T hT84
 simp only [List.getElem?_toArray, List.getElem?_cons_zero, Option.some.injEq] at t0
 subst t0
 refine ⟨30, ?_⟩
 simp only [L7, body_wait, waitFn, Option.getD_some]
 (refine Goes.step rfl (fun _ hq => ?_); replace hF := hq hF; clear hq; rw [stepG_block]; simp only [goes_go]; refine ⟨d0_nil, ?_⟩)
 iterate 5 (refine Goes.step rfl (fun _ hq => ?_); replace hF := hq hF; clear hq; first | (rw [stepG_seq]; simp only [goes_go]; refine ⟨d0_nil, ?_⟩) | (rw [stepG_region]; simp only [goes_go, List.size_toArray, List.length_cons, List.length_nil, Nat.zero_add]; (try simp only [Nat.reduceAdd]); simp only [List.range, List.range.loop]; refine ⟨d0_nil, ?_⟩) | (refine goes_oper_k rfl rfl (by k_ne) (fun K hK => ?_); go_simp; refine hK _ _ ⟨d0_none (fun e he => by have hm := mem_listed he; simp [go_sem, *] at hm), ?_⟩; clear hK K; try w_num))
 (refine Goes.step rfl (fun _ hq => ?_); replace hF := hq hF; clear hq; refine goes_call rfl rfl (by k_ne) rfl H.f_uLoad (nm_uLoad L) rfl ⟨d0_nil, ?_⟩; walk_nrmf uLoadFn)
 iterate 9 (refine Goes.step rfl (fun _ hq => ?_); replace hF := hq hF; clear hq; first | (rw [stepG_seq]; simp only [goes_go]; refine ⟨d0_nil, ?_⟩) | (rw [stepG_region_end]; simp only [goes_go]; refine ⟨d0_nil, ?_⟩) | (rw [stepG_region]; simp only [goes_go, List.size_toArray, List.length_cons, List.length_nil, Nat.zero_add]; (try simp only [Nat.reduceAdd]); simp only [List.range, List.range.loop]; refine ⟨d0_nil, ?_⟩) | (refine goes_oper_k rfl rfl (by k_ne) (fun K hK => ?_); go_simp; refine hK _ _ ⟨d0_none (fun e he => by have hm := mem_listed he; simp [go_sem, *] at hm), ?_⟩; clear hK K; try w_num))
 refine Goes.stop (fun w1 h1 => ?_)
 replace hF := h1 hF
 clear h1
 refine ⟨rfl, fun v hv hw => ?_⟩
 rcases Nat.eq_zero_or_pos v with rfl | hvp
 · replace hw : WgAt L.tWg Wg w1 0 0 := by simpa using hw
   refine ⟨_, stepG_load_atomic (v := 0) rfl rfl (by k_ne) rfl H.f_loadU64 (x_loadU64_n L) (x_loadU64_b L) (x_loadU64_x L) .u64 (x_loadU64_f L) rfl hw.cellSt, fun _ => ⟨50, ?_⟩, fun h => absurd rfl h⟩
   clear hw
   walk_nrm
   iterate 2 (refine Goes.step rfl (fun _ hq => ?_); replace hF := hq hF; clear hq; first | (rw [stepG_region_end]; simp only [goes_go]; refine ⟨d0_nil, ?_⟩) | (refine goes_oper_k rfl rfl (by k_ne) (fun K hK => ?_); go_simp; refine hK _ _ ⟨d0_none (fun e he => by have hm := mem_listed he; simp [go_sem, *] at hm), ?_⟩; clear hK K; try w_num))
   (refine Goes.step rfl (fun _ hq => ?_); replace hF := hq hF; clear hq; rw [stepG_ret']; simp only [goes_go]; refine ⟨d0_nil, ?_⟩)
   (refine Goes.step rfl (fun _ hq => ?_); replace hF := hq hF; clear hq; refine goes_leave1 rfl rfl H.f_uLoad rfl ⟨d0_nil, ?_⟩; walk_nrm)
   iterate 22 (refine Goes.step rfl (fun _ hq => ?_); replace hF := hq hF; clear hq; first | (rw [stepG_seq]; simp only [goes_go]; refine ⟨d0_nil, ?_⟩) | (rw [stepG_region_end]; simp only [goes_go]; refine ⟨d0_nil, ?_⟩) | (rw [stepG_region]; simp only [goes_go, List.size_toArray, List.length_cons, List.length_nil, Nat.zero_add]; (try simp only [Nat.reduceAdd]); simp only [List.range, List.range.loop]; refine ⟨d0_nil, ?_⟩) | (refine goes_oper_k rfl rfl (by k_ne) (fun K hK => ?_); go_simp; refine hK _ _ ⟨d0_none (fun e he => by have hm := mem_listed he; simp [go_sem, *] at hm), ?_⟩; clear hK K; try w_num))
   (refine Goes.step rfl (fun _ hq => ?_); replace hF := hq hF; clear hq; rw [stepG_cond (t := true) (rfl)]; simp only [goes_go, ↓reduceIte]; refine ⟨d0_nil, ?_⟩)
   (refine Goes.step rfl (fun _ hq => ?_); replace hF := hq hF; clear hq; rw [stepG_seq]; simp only [goes_go]; refine ⟨d0_nil, ?_⟩)
   (refine Goes.step rfl (fun _ hq => ?_); replace hF := hq hF; clear hq; rw [stepG_cond (t := true) (rfl)]; simp only [goes_go, ↓reduceIte]; refine ⟨d0_nil, ?_⟩)
   iterate 2 (refine Goes.step rfl (fun _ hq => ?_); replace hF := hq hF; clear hq; first | (rw [stepG_seq]; simp only [goes_go]; refine ⟨d0_nil, ?_⟩) | (rw [stepG_region]; simp only [goes_go, List.size_toArray, List.length_cons, List.length_nil, Nat.zero_add]; (try simp only [Nat.reduceAdd]); simp only [List.range, List.range.loop]; refine ⟨d0_nil, ?_⟩))
   refine Goes.stop (fun w5 h5 => ?_)
   replace hF := h5 hF
   clear h5
   refine ⟨rfl, _, stepG_mark0 .enable (by simp) rfl rfl (by k_ne) rfl H.f_enable (x_enable_n L) (x_enable_b L) (x_enable_x L) (x_enable_f L), 12, ?_⟩
   walk_nrm
   iterate 3 (refine Goes.step rfl (fun _ hq => ?_); replace hF := hq hF; clear hq; first | (rw [stepG_region_end]; simp only [goes_go]; refine ⟨d0_nil, ?_⟩) | (rw [stepG_region]; simp only [goes_go, List.size_toArray, List.length_cons, List.length_nil, Nat.zero_add]; (try simp only [Nat.reduceAdd]); simp only [List.range, List.range.loop]; refine ⟨d0_nil, ?_⟩) | (refine goes_oper_k rfl rfl (by k_ne) (fun K hK => ?_); go_simp; refine hK _ _ ⟨d0_none (fun e he => by have hm := mem_listed he; simp [go_sem, *] at hm), ?_⟩; clear hK K; try w_num))
   (refine Goes.step rfl (fun _ hq => ?_); replace hF := hq hF; clear hq; refine goes_oper_k rfl rfl (by k_ne) (fun Kx hKx => ?_); have hcv := run_convert_to_unsafe (P := P) H.underlying_tWgP H.underlying_tUP H.room_tWg (WgLive.cell0 hF).choose_spec; have hce := fun es => events_convert_to_unsafe (P := P) H.underlying_tWgP H.underlying_tUP H.room_tWg (WgLive.cell0 hF).choose_spec es; go_simp; refine hKx _ _ ⟨d0_none (fun ex hex => by have hmx := mem_listed hex; simp [go_sem, hce] at hmx), ?_⟩; clear hKx Kx hcv hce)
   refine Goes.stop (fun w6 h6 => ?_)
   replace hF := h6 hF
   clear h6
   refine ⟨rfl, _, stepG_markAt .acquire (by simp) rfl rfl (by k_ne) rfl H.f_acquire (x_acquire_n L) (x_acquire_b L) (x_acquire_x L) (x_acquire_f L) (by simp [Act.eval, stA]), 20, ?_⟩
   clear hF
   intro w7 _
   have hF : AtRel w7 w7 := atRel_refl w7
   walk_nrm
   (refine Goes.step rfl (fun _ hq => ?_); replace hF := at_on hF hq; clear hq; rw [stepG_region_end]; simp only [goes_go]; refine ⟨df_nil, ?_⟩)
   (refine Goes.step rfl (fun _ hq => ?_); replace hF := at_on hF hq; clear hq; rw [stepG_seq]; simp only [goes_go]; refine ⟨df_nil, ?_⟩)
   (refine Goes.step rfl (fun _ hq => ?_); replace hF := at_on hF hq; clear hq; rw [stepG_seq]; simp only [goes_go]; refine ⟨df_nil, ?_⟩)
   (refine Goes.step rfl (fun _ hq => ?_); replace hF := at_on hF hq; clear hq; rw [stepG_region]; simp only [goes_go, List.size_toArray, List.length_cons, List.length_nil, Nat.zero_add]; (try simp only [Nat.reduceAdd]); simp only [List.range, List.range.loop]; refine ⟨df_nil, ?_⟩)
   (refine Goes.step rfl (fun _ hq => ?_); replace hF := at_on hF hq; clear hq; refine goes_oper_k rfl rfl (by k_ne) (fun K hK => ?_); go_simp; refine hK _ _ ⟨df_none (fun e he => by have hm := mem_listed he; simp [go_sem, *] at hm), ?_⟩; clear hK K; try w_num)
   (refine Goes.step rfl (fun _ hq => ?_); replace hF := at_on hF hq; clear hq; refine goes_oper_k rfl rfl (by k_ne) (fun K hK => ?_); go_simp; refine hK _ _ ⟨df_none (fun e he => by have hm := mem_listed he; simp [go_sem, *] at hm), ?_⟩; clear hK K; try w_num)
   (refine Goes.step rfl (fun _ hq => ?_); replace hF := at_on hF hq; clear hq; refine goes_oper_k rfl rfl (by k_ne) (fun K hK => ?_); go_simp; refine hK _ _ ⟨df_none (fun e he => by have hm := mem_listed he; simp [go_sem, *] at hm), ?_⟩; clear hK K; try w_num)
   (refine Goes.step rfl (fun _ hq => ?_); replace hF := at_on hF hq; clear hq; refine goes_oper_k rfl rfl (by k_ne) (fun K hK => ?_); go_simp; refine hK _ _ ⟨df_none (fun e he => by have hm := mem_listed he; simp [go_sem, *] at hm), ?_⟩; clear hK K; try w_num)
   (refine Goes.step rfl (fun _ hq => ?_); replace hF := at_on hF hq; clear hq; refine goes_oper_k rfl rfl (by k_ne) (fun K hK => ?_); go_simp; refine hK _ _ ⟨df_none (fun e he => by have hm := mem_listed he; simp [go_sem, *] at hm), ?_⟩; clear hK K; try w_num)
   (refine Goes.step rfl (fun _ hq => ?_); replace hF := at_on hF hq; clear hq; refine goes_oper_k rfl rfl (by k_ne) (fun K hK => ?_); go_simp; refine hK _ _ ⟨df_none (fun e he => by have hm := mem_listed he; simp [go_sem, *] at hm), ?_⟩; clear hK K; try w_num)
   (refine Goes.step rfl (fun _ hq => ?_); replace hF := at_on hF hq; clear hq; refine goes_oper_k rfl rfl (by k_ne) (fun K hK => ?_); go_simp; refine hK _ _ ⟨df_none (fun e he => by have hm := mem_listed he; simp [go_sem, *] at hm), ?_⟩; clear hK K; try w_num)
   (refine Goes.step rfl (fun _ hq => ?_); replace hF := at_on hF hq; clear hq; refine goes_oper_k rfl rfl (by k_ne) (fun K hK => ?_); go_simp; refine hK _ _ ⟨df_none (fun e he => by have hm := mem_listed he; simp [go_sem, *] at hm), ?_⟩; clear hK K; try w_num)
   (refine Goes.step rfl (fun _ hq => ?_); replace hF := at_on hF hq; clear hq; rw [stepG_unwanted rfl rfl]; simp only [goes_go]; refine ⟨df_nil, ?_⟩; walk_nrm)
   (refine Goes.step rfl (fun _ hq => ?_); replace hF := at_on hF hq; clear hq; rw [stepG_unwanted rfl rfl]; simp only [goes_go]; refine ⟨df_nil, ?_⟩; walk_nrm)
   (refine Goes.step rfl (fun _ hq => ?_); replace hF := at_on hF hq; clear hq; refine goes_oper_k rfl rfl (by k_ne) (fun K hK => ?_); go_simp; refine hK _ _ ⟨df_none (fun e he => by have hm := mem_listed he; simp [go_sem, *] at hm), ?_⟩; clear hK K; try w_num)
   (refine Goes.step rfl (fun _ hq => ?_); replace hF := at_on hF hq; clear hq; rw [stepG_region_end]; simp only [goes_go]; refine ⟨df_nil, ?_⟩)
   (refine Goes.step rfl (fun _ hq => ?_); replace hF := at_on hF hq; clear hq; rw [stepG_cond (t := false) (rfl)]; simp only [goes_go, Bool.false_eq_true, ↓reduceIte]; refine ⟨df_nil, ?_⟩)
   (refine Goes.step rfl (fun _ hq => ?_); replace hF := at_on hF hq; clear hq; rw [stepG_skip]; simp only [goes_go]; refine ⟨df_nil, ?_⟩)
   (refine Goes.step rfl (fun _ hq => ?_); replace hF := at_on hF hq; clear hq; rw [stepG_ret']; simp only [goes_go]; refine ⟨df_nil, ?_⟩)
   (refine Goes.step rfl (fun _ hq => ?_); replace hF := at_on hF hq; clear hq; refine goes_leave0 rfl rfl H.f_wait rfl ⟨df_nil, ?_⟩; walk_nrm)
   exact Goes.stop (fun w8 h8 => ⟨rfl, at_on hF h8⟩)
 · obtain ⟨S, hS⟩ : ∃ S : Int, (v : Int) * KK = S := ⟨_, rfl⟩
   have a1 : S / 4294967296 = (v : Int) := by rw [<- hS]; simp only [KK]; omega
   have b1 : bits .and .u64 S 2147483648 = 0 := by rw [<- hS]; have := st_flag v 0 (by omega) (by omega); simpa [KK] using this
   have b2 : bits .and .u64 S 2147483647 = 0 := by rw [<- hS]; have := st_waiters v 0 (by omega) (by omega); simpa [KK] using this
   have c1 : IntKind.i32.wrap (v : Int) = (v : Int) := by rw [IntKind.wrap_i32]; omega
   have w1' : IntKind.u64.wrap (S + 1) = S + 1 := by rw [IntKind.wrap_u64, <- hS]; simp only [KK]; omega
   have q3 : decide ((v : Int) < 0) = false := decide_eq_false (by omega)
   have q4 : decide (0 < (v : Int)) = true := decide_eq_true (by omega)
   have q5 : ((v : Int) == 0) = false := by simp; omega
   have q6 : decide ((v : Int) = 0) = false := decide_eq_false (by omega)
   rw [hS] at hw
   refine ⟨_, stepG_load_atomic (v := S) rfl rfl (by k_ne) rfl H.f_loadU64 (x_loadU64_n L) (x_loadU64_b L) (x_loadU64_x L) .u64 (x_loadU64_f L) rfl hw.cellSt, fun h0 => absurd h0 (by omega), fun _ => ⟨60, ?_⟩⟩
   clear hw
   walk_nrm
   iterate 2 (refine Goes.step rfl (fun _ hq => ?_); replace hF := hq hF; clear hq; first | (rw [stepG_region_end]; simp only [goes_go]; refine ⟨d0_nil, ?_⟩) | (refine goes_oper_k rfl rfl (by k_ne) (fun K hK => ?_); go_simp; refine hK _ _ ⟨d0_none (fun e he => by have hm := mem_listed he; simp [go_sem, *] at hm), ?_⟩; clear hK K; try w_num))
   (refine Goes.step rfl (fun _ hq => ?_); replace hF := hq hF; clear hq; rw [stepG_ret']; simp only [goes_go]; refine ⟨d0_nil, ?_⟩)
   (refine Goes.step rfl (fun _ hq => ?_); replace hF := hq hF; clear hq; refine goes_leave1 rfl rfl H.f_uLoad rfl ⟨d0_nil, ?_⟩; walk_nrm)
   iterate 22 (refine Goes.step rfl (fun _ hq => ?_); replace hF := hq hF; clear hq; first | (rw [stepG_seq]; simp only [goes_go]; refine ⟨d0_nil, ?_⟩) | (rw [stepG_region_end]; simp only [goes_go]; refine ⟨d0_nil, ?_⟩) | (rw [stepG_region]; simp only [goes_go, List.size_toArray, List.length_cons, List.length_nil, Nat.zero_add]; (try simp only [Nat.reduceAdd]); simp only [List.range, List.range.loop]; refine ⟨d0_nil, ?_⟩) | (refine goes_oper_k rfl rfl (by k_ne) (fun K hK => ?_); go_simp; refine hK _ _ ⟨d0_none (fun e he => by have hm := mem_listed he; simp [go_sem, *] at hm), ?_⟩; clear hK K; try w_num))
   (refine Goes.step rfl (fun _ hq => ?_); replace hF := hq hF; clear hq; rw [stepG_cond (t := false) (by first | rfl | (simp [Act.eval]; omega))]; simp only [goes_go, Bool.false_eq_true, ↓reduceIte]; refine ⟨d0_nil, ?_⟩)
   iterate 9 (refine Goes.step rfl (fun _ hq => ?_); replace hF := hq hF; clear hq; first | (rw [stepG_seq]; simp only [goes_go]; refine ⟨d0_nil, ?_⟩) | (rw [stepG_region]; simp only [goes_go, List.size_toArray, List.length_cons, List.length_nil, Nat.zero_add]; (try simp only [Nat.reduceAdd]); simp only [List.range, List.range.loop]; refine ⟨d0_nil, ?_⟩) | (rw [stepG_skip]; simp only [goes_go]; refine ⟨d0_nil, ?_⟩) | (refine goes_oper_k rfl rfl (by k_ne) (fun K hK => ?_); go_simp; refine hK _ _ ⟨d0_none (fun e he => by have hm := mem_listed he; simp [go_sem, *] at hm), ?_⟩; clear hK K; try w_num))
   (refine Goes.step rfl (fun _ hq => ?_); replace hF := hq hF; clear hq; refine goes_call rfl rfl (by k_ne) rfl H.f_uCas (nm_uCas L) rfl ⟨d0_nil, ?_⟩; walk_nrmf uCasFn)
   iterate 11 (refine Goes.step rfl (fun _ hq => ?_); replace hF := hq hF; clear hq; first | (rw [stepG_seq]; simp only [goes_go]; refine ⟨d0_nil, ?_⟩) | (rw [stepG_region_end]; simp only [goes_go]; refine ⟨d0_nil, ?_⟩) | (rw [stepG_region]; simp only [goes_go, List.size_toArray, List.length_cons, List.length_nil, Nat.zero_add]; (try simp only [Nat.reduceAdd]); simp only [List.range, List.range.loop]; refine ⟨d0_nil, ?_⟩) | (refine goes_oper_k rfl rfl (by k_ne) (fun K hK => ?_); go_simp; refine hK _ _ ⟨d0_none (fun e he => by have hm := mem_listed he; simp [go_sem, *] at hm), ?_⟩; clear hK K; try w_num))
   refine Goes.stop (fun w2 h2 => ?_)
   replace hF := h2 hF
   clear h2
   refine ⟨rfl, fun v' hv' hw => ⟨fun e => ?_, fun e => ?_⟩⟩
   · subst e
     rw [hS] at hw ⊢
     refine ⟨_, (stepG_cas_hit (v := S) (n := S + 1) rfl rfl (by k_ne) rfl H.f_casU64 (x_casU64_n L) (x_casU64_b L) (x_casU64_x L) .u64 (x_casU64_f L) rfl rfl rfl hw.cellSt (hw.thaw 0)).trans (by rfl), 70, ?_⟩
     replace hF : WgLive L.tWg Wg (w2.setCell (stA Wg) (.int .u64 (S + 1))) := ⟨_, _, hw.setSt _⟩
     clear hw
     walk_nrm
     iterate 2 (refine Goes.step rfl (fun _ hq => ?_); replace hF := hq hF; clear hq; first | (rw [stepG_region_end]; simp only [goes_go]; refine ⟨d0_nil, ?_⟩) | (refine goes_oper_k rfl rfl (by k_ne) (fun K hK => ?_); go_simp; refine hK _ _ ⟨d0_none (fun e he => by have hm := mem_listed he; simp [go_sem, *] at hm), ?_⟩; clear hK K; try w_num))
     (refine Goes.step rfl (fun _ hq => ?_); replace hF := hq hF; clear hq; rw [stepG_ret']; simp only [goes_go]; refine ⟨d0_nil, ?_⟩)
     (refine Goes.step rfl (fun _ hq => ?_); replace hF := hq hF; clear hq; refine goes_leave1 rfl rfl H.f_uCas rfl ⟨d0_nil, ?_⟩; walk_nrm)
     (refine Goes.step rfl (fun _ hq => ?_); replace hF := hq hF; clear hq; rw [stepG_region_end]; simp only [goes_go]; refine ⟨d0_nil, ?_⟩)
     (refine Goes.step rfl (fun _ hq => ?_); replace hF := hq hF; clear hq; rw [stepG_cond (t := true) (rfl)]; simp only [goes_go, ↓reduceIte]; refine ⟨d0_nil, ?_⟩)
     iterate 8 (refine Goes.step rfl (fun _ hq => ?_); replace hF := hq hF; clear hq; first | (rw [stepG_seq]; simp only [goes_go]; refine ⟨d0_nil, ?_⟩) | (rw [stepG_region_end]; simp only [goes_go]; refine ⟨d0_nil, ?_⟩) | (rw [stepG_region]; simp only [goes_go, List.size_toArray, List.length_cons, List.length_nil, Nat.zero_add]; (try simp only [Nat.reduceAdd]); simp only [List.range, List.range.loop]; refine ⟨d0_nil, ?_⟩) | (refine goes_oper_k rfl rfl (by k_ne) (fun K hK => ?_); go_simp; refine hK _ _ ⟨d0_none (fun e he => by have hm := mem_listed he; simp [go_sem, *] at hm), ?_⟩; clear hK K; try w_num))
     (refine Goes.step rfl (fun _ hq => ?_); replace hF := hq hF; clear hq; rw [stepG_cond (t := true) (rfl)]; simp only [goes_go, ↓reduceIte]; refine ⟨d0_nil, ?_⟩)
     iterate 4 (refine Goes.step rfl (fun _ hq => ?_); replace hF := hq hF; clear hq; first | (rw [stepG_region]; simp only [goes_go, List.size_toArray, List.length_cons, List.length_nil, Nat.zero_add]; (try simp only [Nat.reduceAdd]); simp only [List.range, List.range.loop]; refine ⟨d0_nil, ?_⟩) | (refine goes_oper_k rfl rfl (by k_ne) (fun K hK => ?_); go_simp; refine hK _ _ ⟨d0_none (fun e he => by have hm := mem_listed he; simp [go_sem, *] at hm), ?_⟩; clear hK K; try w_num))
     (refine Goes.step rfl (fun _ hq => ?_); replace hF := hq hF; clear hq; refine goes_oper_k rfl rfl (by k_ne) (fun Kx hKx => ?_); have hcv := run_convert_to_unsafe (P := P) H.underlying_tPU32 H.underlying_tUP H.room_tU32 (WgLive.cell1 hF).choose_spec; have hce := fun es => events_convert_to_unsafe (P := P) H.underlying_tPU32 H.underlying_tUP H.room_tU32 (WgLive.cell1 hF).choose_spec es; go_simp; refine hKx _ _ ⟨d0_none (fun ex hex => by have hmx := mem_listed hex; simp [go_sem, hce] at hmx), ?_⟩; clear hKx Kx hcv hce)
     (refine Goes.step rfl (fun _ hq => ?_); replace hF := hq hF; clear hq; rw [stepG_markAt .write (by simp) rfl rfl (by k_ne) rfl H.f_raceWrite (x_raceWrite_n L) (x_raceWrite_b L) (x_raceWrite_x L) (x_raceWrite_f L) (ad := ⟨_, 1, none⟩) (by simp [Act.eval] <;> rfl)]; simp only [goes_go]; refine ⟨⟨rfl, all_said_write _ rfl⟩, ?_⟩; walk_nrm)
     iterate 12 (refine Goes.step rfl (fun _ hq => ?_); replace hF := hq hF; clear hq; first | (rw [stepG_seq]; simp only [goes_go]; refine ⟨d0_nil, ?_⟩) | (rw [stepG_region_end]; simp only [goes_go]; refine ⟨d0_nil, ?_⟩) | (rw [stepG_region]; simp only [goes_go, List.size_toArray, List.length_cons, List.length_nil, Nat.zero_add]; (try simp only [Nat.reduceAdd]); simp only [List.range, List.range.loop]; refine ⟨d0_nil, ?_⟩) | (refine goes_oper_k rfl rfl (by k_ne) (fun K hK => ?_); go_simp; refine hK _ _ ⟨d0_none (fun e he => by have hm := mem_listed he; simp [go_sem, *] at hm), ?_⟩; clear hK K; try w_num))
     (refine Goes.step rfl (fun _ hq => ?_); replace hF := hq hF; clear hq; rw [stepG_unwanted rfl rfl]; simp only [goes_go]; refine ⟨d0_nil, ?_⟩; walk_nrm)
     iterate 2 (refine Goes.step rfl (fun _ hq => ?_); replace hF := hq hF; clear hq; first | (rw [stepG_region_end]; simp only [goes_go]; refine ⟨d0_nil, ?_⟩) | (refine goes_oper_k rfl rfl (by k_ne) (fun K hK => ?_); go_simp; refine hK _ _ ⟨d0_none (fun e he => by have hm := mem_listed he; simp [go_sem, *] at hm), ?_⟩; clear hK K; try w_num))
     (refine Goes.step rfl (fun _ hq => ?_); replace hF := hq hF; clear hq; rw [stepG_cond (t := false) (rfl)]; simp only [goes_go, Bool.false_eq_true, ↓reduceIte]; refine ⟨d0_nil, ?_⟩)
     iterate 7 (refine Goes.step rfl (fun _ hq => ?_); replace hF := hq hF; clear hq; first | (rw [stepG_seq]; simp only [goes_go]; refine ⟨d0_nil, ?_⟩) | (rw [stepG_region]; simp only [goes_go, List.size_toArray, List.length_cons, List.length_nil, Nat.zero_add]; (try simp only [Nat.reduceAdd]); simp only [List.range, List.range.loop]; refine ⟨d0_nil, ?_⟩) | (rw [stepG_skip]; simp only [goes_go]; refine ⟨d0_nil, ?_⟩) | (refine goes_oper_k rfl rfl (by k_ne) (fun K hK => ?_); go_simp; refine hK _ _ ⟨d0_none (fun e he => by have hm := mem_listed he; simp [go_sem, *] at hm), ?_⟩; clear hK K; try w_num))
     refine Goes.stop (fun w3 h3 => ?_)
     replace hF := h3 hF
     clear h3
     refine ⟨rfl, rfl, fun ⟨st, hw⟩ => stepG_semacquire_wait rfl rfl rfl H.f_semacquire (x_semacquire_n L) (x_semacquire_b L) (x_semacquire_x L) (x_semacquire_f L) (by simp [Act.eval, smA]) hw.cellSm, fun hf => ?_⟩
     refine ⟨_, (stepG_semacquire (n := 1) rfl rfl (by k_ne) rfl H.f_semacquire (x_semacquire_n L) (x_semacquire_b L) (x_semacquire_x L) (x_semacquire_f L) (by simp [Act.eval, smA]) hf.cellSm (by k_ne) (hf.thaw 1)).trans (by rfl), 30, ?_⟩
     replace hF : WgLive L.tWg Wg (w3.setCell (smA Wg) (.int .u32 0)) := ⟨_, _, hf.setSm 0⟩
     clear hf
     walk_nrm
     iterate 6 (refine Goes.step rfl (fun _ hq => ?_); replace hF := hq hF; clear hq; first | (rw [stepG_seq]; simp only [goes_go]; refine ⟨d0_nil, ?_⟩) | (rw [stepG_region_end]; simp only [goes_go]; refine ⟨d0_nil, ?_⟩) | (rw [stepG_region]; simp only [goes_go, List.size_toArray, List.length_cons, List.length_nil, Nat.zero_add]; (try simp only [Nat.reduceAdd]); simp only [List.range, List.range.loop]; refine ⟨d0_nil, ?_⟩) | (refine goes_oper_k rfl rfl (by k_ne) (fun K hK => ?_); go_simp; refine hK _ _ ⟨d0_none (fun e he => by have hm := mem_listed he; simp [go_sem, *] at hm), ?_⟩; clear hK K; try w_num))
     (refine Goes.step rfl (fun _ hq => ?_); replace hF := hq hF; clear hq; refine goes_call rfl rfl (by k_ne) rfl H.f_uLoad (nm_uLoad L) rfl ⟨d0_nil, ?_⟩; walk_nrmf uLoadFn)
     iterate 9 (refine Goes.step rfl (fun _ hq => ?_); replace hF := hq hF; clear hq; first | (rw [stepG_seq]; simp only [goes_go]; refine ⟨d0_nil, ?_⟩) | (rw [stepG_region_end]; simp only [goes_go]; refine ⟨d0_nil, ?_⟩) | (rw [stepG_region]; simp only [goes_go, List.size_toArray, List.length_cons, List.length_nil, Nat.zero_add]; (try simp only [Nat.reduceAdd]); simp only [List.range, List.range.loop]; refine ⟨d0_nil, ?_⟩) | (refine goes_oper_k rfl rfl (by k_ne) (fun K hK => ?_); go_simp; refine hK _ _ ⟨d0_none (fun e he => by have hm := mem_listed he; simp [go_sem, *] at hm), ?_⟩; clear hK K; try w_num))
     refine Goes.stop (fun w4 h4 => ?_)
     replace hF := h4 hF
     clear h4
     refine ⟨rfl, fun hw => ⟨_, stepG_load_atomic (v := 0) rfl rfl (by k_ne) rfl H.f_loadU64 (x_loadU64_n L) (x_loadU64_b L) (x_loadU64_x L) .u64 (x_loadU64_f L) rfl hw.cellSt, 30, ?_⟩⟩
     clear hw
     walk_nrm
     iterate 2 (refine Goes.step rfl (fun _ hq => ?_); replace hF := hq hF; clear hq; first | (rw [stepG_region_end]; simp only [goes_go]; refine ⟨d0_nil, ?_⟩) | (refine goes_oper_k rfl rfl (by k_ne) (fun K hK => ?_); go_simp; refine hK _ _ ⟨d0_none (fun e he => by have hm := mem_listed he; simp [go_sem, *] at hm), ?_⟩; clear hK K; try w_num))
     (refine Goes.step rfl (fun _ hq => ?_); replace hF := hq hF; clear hq; rw [stepG_ret']; simp only [goes_go]; refine ⟨d0_nil, ?_⟩)
     (refine Goes.step rfl (fun _ hq => ?_); replace hF := hq hF; clear hq; refine goes_leave1 rfl rfl H.f_uLoad rfl ⟨d0_nil, ?_⟩; walk_nrm)
     iterate 4 (refine Goes.step rfl (fun _ hq => ?_); replace hF := hq hF; clear hq; first | (rw [stepG_seq]; simp only [goes_go]; refine ⟨d0_nil, ?_⟩) | (rw [stepG_region_end]; simp only [goes_go]; refine ⟨d0_nil, ?_⟩) | (refine goes_oper_k rfl rfl (by k_ne) (fun K hK => ?_); go_simp; refine hK _ _ ⟨d0_none (fun e he => by have hm := mem_listed he; simp [go_sem, *] at hm), ?_⟩; clear hK K; try w_num))
     (refine Goes.step rfl (fun _ hq => ?_); replace hF := hq hF; clear hq; rw [stepG_cond (t := true) (rfl)]; simp only [goes_go, ↓reduceIte]; refine ⟨d0_nil, ?_⟩)
     iterate 2 (refine Goes.step rfl (fun _ hq => ?_); replace hF := hq hF; clear hq; first | (rw [stepG_seq]; simp only [goes_go]; refine ⟨d0_nil, ?_⟩) | (rw [stepG_region]; simp only [goes_go, List.size_toArray, List.length_cons, List.length_nil, Nat.zero_add]; (try simp only [Nat.reduceAdd]); simp only [List.range, List.range.loop]; refine ⟨d0_nil, ?_⟩))
     refine Goes.stop (fun w5 h5 => ?_)
     replace hF := h5 hF
     clear h5
     refine ⟨rfl, _, stepG_mark0 .enable (by simp) rfl rfl (by k_ne) rfl H.f_enable (x_enable_n L) (x_enable_b L) (x_enable_x L) (x_enable_f L), 12, ?_⟩
     walk_nrm
     iterate 3 (refine Goes.step rfl (fun _ hq => ?_); replace hF := hq hF; clear hq; first | (rw [stepG_region_end]; simp only [goes_go]; refine ⟨d0_nil, ?_⟩) | (rw [stepG_region]; simp only [goes_go, List.size_toArray, List.length_cons, List.length_nil, Nat.zero_add]; (try simp only [Nat.reduceAdd]); simp only [List.range, List.range.loop]; refine ⟨d0_nil, ?_⟩) | (refine goes_oper_k rfl rfl (by k_ne) (fun K hK => ?_); go_simp; refine hK _ _ ⟨d0_none (fun e he => by have hm := mem_listed he; simp [go_sem, *] at hm), ?_⟩; clear hK K; try w_num))
     (refine Goes.step rfl (fun _ hq => ?_); replace hF := hq hF; clear hq; refine goes_oper_k rfl rfl (by k_ne) (fun Kx hKx => ?_); have hcv := run_convert_to_unsafe (P := P) H.underlying_tWgP H.underlying_tUP H.room_tWg (WgLive.cell0 hF).choose_spec; have hce := fun es => events_convert_to_unsafe (P := P) H.underlying_tWgP H.underlying_tUP H.room_tWg (WgLive.cell0 hF).choose_spec es; go_simp; refine hKx _ _ ⟨d0_none (fun ex hex => by have hmx := mem_listed hex; simp [go_sem, hce] at hmx), ?_⟩; clear hKx Kx hcv hce)
     refine Goes.stop (fun w6 h6 => ?_)
     replace hF := h6 hF
     clear h6
     refine ⟨rfl, _, stepG_markAt .acquire (by simp) rfl rfl (by k_ne) rfl H.f_acquire (x_acquire_n L) (x_acquire_b L) (x_acquire_x L) (x_acquire_f L) (by simp [Act.eval, stA]), 10, ?_⟩
     clear hF
     intro w7 _
     have hF : AtRel w7 w7 := atRel_refl w7
     walk_nrm
     (refine Goes.step rfl (fun _ hq => ?_); replace hF := at_on hF hq; clear hq; rw [stepG_region_end]; simp only [goes_go]; refine ⟨df_nil, ?_⟩)
     (refine Goes.step rfl (fun _ hq => ?_); replace hF := at_on hF hq; clear hq; rw [stepG_seq]; simp only [goes_go]; refine ⟨df_nil, ?_⟩)
     (refine Goes.step rfl (fun _ hq => ?_); replace hF := at_on hF hq; clear hq; rw [stepG_seq]; simp only [goes_go]; refine ⟨df_nil, ?_⟩)
     (refine Goes.step rfl (fun _ hq => ?_); replace hF := at_on hF hq; clear hq; rw [stepG_region]; simp only [goes_go, List.size_toArray, List.length_cons, List.length_nil, Nat.zero_add]; (try simp only [Nat.reduceAdd]); simp only [List.range, List.range.loop]; refine ⟨df_nil, ?_⟩)
     (refine Goes.step rfl (fun _ hq => ?_); replace hF := at_on hF hq; clear hq; refine goes_oper_k rfl rfl (by k_ne) (fun K hK => ?_); go_simp; refine hK _ _ ⟨df_none (fun e he => by have hm := mem_listed he; simp [go_sem, *] at hm), ?_⟩; clear hK K; try w_num)
     (refine Goes.step rfl (fun _ hq => ?_); replace hF := at_on hF hq; clear hq; rw [stepG_region_end]; simp only [goes_go]; refine ⟨df_nil, ?_⟩)
     (refine Goes.step rfl (fun _ hq => ?_); replace hF := at_on hF hq; clear hq; rw [stepG_cond (t := false) (rfl)]; simp only [goes_go, Bool.false_eq_true, ↓reduceIte]; refine ⟨df_nil, ?_⟩)
     (refine Goes.step rfl (fun _ hq => ?_); replace hF := at_on hF hq; clear hq; rw [stepG_skip]; simp only [goes_go]; refine ⟨df_nil, ?_⟩)
     (refine Goes.step rfl (fun _ hq => ?_); replace hF := at_on hF hq; clear hq; rw [stepG_ret']; simp only [goes_go]; refine ⟨df_nil, ?_⟩)
     (refine Goes.step rfl (fun _ hq => ?_); replace hF := at_on hF hq; clear hq; refine goes_leave0 rfl rfl H.f_wait rfl ⟨df_nil, ?_⟩; walk_nrm)
     exact Goes.stop (fun w8 h8 => ⟨rfl, at_on hF h8⟩)
   · refine ⟨_, stepG_cas_miss (v := (v' : Int) * KK) (old := S) (n := S + 1) rfl rfl (by k_ne) rfl H.f_casU64 (x_casU64_n L) (x_casU64_b L) (x_casU64_x L) .u64 (x_casU64_f L) rfl rfl rfl hw.cellSt (hw.thaw 0) (by rw [<- hS]; simp only [KK]; omega), 20, ?_⟩
     clear hw
     walk_nrm
     iterate 2 (refine Goes.step rfl (fun _ hq => ?_); replace hF := hq hF; clear hq; first | (rw [stepG_region_end]; simp only [goes_go]; refine ⟨d0_nil, ?_⟩) | (refine goes_oper_k rfl rfl (by k_ne) (fun K hK => ?_); go_simp; refine hK _ _ ⟨d0_none (fun e he => by have hm := mem_listed he; simp [go_sem, *] at hm), ?_⟩; clear hK K; try w_num))
     (refine Goes.step rfl (fun _ hq => ?_); replace hF := hq hF; clear hq; rw [stepG_ret']; simp only [goes_go]; refine ⟨d0_nil, ?_⟩)
     (refine Goes.step rfl (fun _ hq => ?_); replace hF := hq hF; clear hq; refine goes_leave1 rfl rfl H.f_uCas rfl ⟨d0_nil, ?_⟩; walk_nrm)
     (refine Goes.step rfl (fun _ hq => ?_); replace hF := hq hF; clear hq; rw [stepG_region_end]; simp only [goes_go]; refine ⟨d0_nil, ?_⟩)
     (refine Goes.step rfl (fun _ hq => ?_); replace hF := hq hF; clear hq; rw [stepG_cond (t := false) (rfl)]; simp only [goes_go, Bool.false_eq_true, ↓reduceIte]; refine ⟨d0_nil, ?_⟩)
     (refine Goes.step rfl (fun _ hq => ?_); replace hF := hq hF; clear hq; rw [stepG_skip]; simp only [goes_go]; refine ⟨d0_nil, ?_⟩)
     (refine Goes.step rfl (fun _ hq => ?_); replace hF := hq hF; clear hq; rw [stepG_inBlock]; simp only [goes_go]; refine ⟨d0_nil, ?_⟩)
     (refine Goes.step rfl (fun _ hq => ?_); replace hF := hq hF; clear hq; rw [stepG_inLoop]; simp only [goes_go]; refine ⟨d0_nil, ?_⟩)
     exact Goes.stop (fun w3 h3 => ⟨_, rfl, by simp, by simp, h3 hF⟩)
end
end Crw
end Go.Proofs.YthgelfnflafoiabGreat
namespace Go.Proofs.YthgelfnflafoiabGreat
open Go.RowKit
abbrev lk : Go.Conc.Lib.WgLink := { add := 33, done := 35, wait := 37, relMerge := 46, disable := 47, enable := 48, inBubble := 49, associate := 50, fatal := 51, uOr := 52, uAdd := 53, raceRead := 54, uLoad := 55, uStore := 56, disassociate := 57, semrelease := 58, acquire := 60, isAssociated := 61, uCas := 62, raceWrite := 63, semacquire := 64, orU64 := 79, addU64 := 80, loadU64 := 81, storeU64 := 82, casU64 := 84, tWgP := 105, tUP := 107, tAssoc := 108, tWg := 90, tAU := 87, tU64 := 85, tUint := 112, tU32 := 88, tPU32 := 113, tPAU := 137, tPU64 := 139, tNoCopy := 82, tANoCopy := 83, tAlign64 := 84 }
theorem lk_lib : Go.Conc.Lib.WgLib Tryz.prog lk :=
 ⟨Tryz.func33, Tryz.func35, Tryz.func37, Tryz.func46, Tryz.func47, Tryz.func48, Tryz.func49, Tryz.func50, Tryz.func51, Tryz.func52, Tryz.func53, Tryz.func54, Tryz.func55, Tryz.func56, Tryz.func57, Tryz.func58, Tryz.func60, Tryz.func61, Tryz.func62, Tryz.func63, Tryz.func64, Tryz.func79, Tryz.func80, Tryz.func81, Tryz.func82, Tryz.func84, Tryz.underlying105, Tryz.runUnderlying105, Tryz.sizeOf105, Tryz.isAgg105, Tryz.zeroValue105, Tryz.underlying107, Tryz.runUnderlying107, Tryz.sizeOf107, Tryz.isAgg107, Tryz.zeroValue107, Tryz.underlying108, Tryz.runUnderlying108, Tryz.sizeOf108, Tryz.isAgg108, Tryz.zeroValue108, Tryz.underlying90, Tryz.runUnderlying90, Tryz.sizeOf90, Tryz.isAgg90, Tryz.zeroValue90, Tryz.underlying87, Tryz.runUnderlying87, Tryz.sizeOf87, Tryz.isAgg87, Tryz.zeroValue87, Tryz.underlying85, Tryz.runUnderlying85, Tryz.sizeOf85, Tryz.isAgg85, Tryz.zeroValue85, Tryz.underlying112, Tryz.runUnderlying112, Tryz.sizeOf112, Tryz.isAgg112, Tryz.zeroValue112, Tryz.underlying88, Tryz.runUnderlying88, Tryz.sizeOf88, Tryz.isAgg88, Tryz.zeroValue88, Tryz.underlying113, Tryz.runUnderlying113, Tryz.sizeOf113, Tryz.isAgg113, Tryz.zeroValue113, Tryz.underlying137, Tryz.runUnderlying137, Tryz.sizeOf137, Tryz.isAgg137, Tryz.zeroValue137, Tryz.underlying139, Tryz.runUnderlying139, Tryz.sizeOf139, Tryz.isAgg139, Tryz.zeroValue139, Tryz.underlying0, Tryz.runUnderlying0, Tryz.sizeOf0, Tryz.isAgg0, Tryz.zeroValue0, Tryz.underlying3, Tryz.runUnderlying3, Tryz.sizeOf3, Tryz.isAgg3, Tryz.zeroValue3, Tryz.underlying4, Tryz.runUnderlying4, Tryz.sizeOf4, Tryz.isAgg4, Tryz.zeroValue4, Tryz.underlying9, Tryz.runUnderlying9, Tryz.sizeOf9, Tryz.isAgg9, Tryz.zeroValue9, Tryz.underlying20, Tryz.runUnderlying20, Tryz.sizeOf20, Tryz.isAgg20, Tryz.zeroValue20, Tryz.underlying21, Tryz.runUnderlying21, Tryz.sizeOf21, Tryz.isAgg21, Tryz.zeroValue21, (by kernel_rfl), (by kernel_rfl)⟩
instance : Go.ConcR.Payload := ⟨51⟩
end Go.Proofs.YthgelfnflafoiabGreat
namespace Go.Proofs.YthgelfnflafoiabGreat
namespace Crw
open Go.Conc Go.ConcN Go.RowKit Go.Conc.Lib Go.ConcR.Gen Go.ConcN.Gen Sim
open Go.ConcR (KK wgBlock WgAt stA smA rd wr mk Payload DC0)
def bw : Frame := baseD 34
noncomputable def bot : Frame := { (default : Frame) with fn := Tryz.prog.funcs.size, defers := [], mode := .panicking [goexitEntry] }
noncomputable def bodyw : Code := Tryz.f34.body.getD .skip
noncomputable def opsw : Array Oper := match bodyw with
 | .seq _ (.region _ ops _) => ops
 | _ => #[]
noncomputable def callw (N nb : Nat) : Deferred := { target := .fn (.func 34) #[.pointer (some ⟨N + 5, 0, none⟩), .pointer (some ⟨N, 0, none⟩), .pointer (some ⟨N + 1, 0, none⟩), .pointer (some ⟨nb, 0, none⟩), .pointer (some ⟨N + 2, 0, none⟩), .pointer (some ⟨N + 4, 0, none⟩)], args := #[] }
theorem bornw (N nb : Nat) (w : World) : stepG Tryz.prog false (born Tryz.prog (callw N nb)) w =
   .go (G (bw.at ⟨#[.pointer (some ⟨N + 5, 0, none⟩), .pointer (some ⟨N, 0, none⟩), .pointer (some ⟨N + 1, 0, none⟩), .pointer (some ⟨nb, 0, none⟩), .pointer (some ⟨N + 2, 0, none⟩), .pointer (some ⟨N + 4, 0, none⟩), undef, undef, undef, undef, undef, undef, undef, undef], []⟩ [.code bodyw]) [bot]) w #[] := by
 simp [born, callw, stepG, unwind, callDeferred, invoke, callFunc, Tryz.func34, Tryz.f34, seen, GStep.after, G, Frame.enter, Frame.at, bw, baseD, bot, bodyw]
theorem quitw (T : Array Value) : QuitsD Tryz.prog 2 0 (G { bw.at ⟨T, []⟩ [] with mode := .returning } [bot]) := by
 refine QuitsD.ctl (g' := G bot []) rfl (fun w => ?_) ?_
 · simp [G, stepG, unwind, doReturn, results, Frame.at, bw, baseD, bot, Tryz.func34, Tryz.f34, seen, GStep.after, goexitEntry]
 refine QuitsD.ctl (g' := { G bot [] with status := .finished }) rfl (fun w => ?_) ⟨rfl, rfl⟩
 simp [G, stepG, unwind, bot, goexitEntry, Frame.catches]
 rfl
theorem loudw : (Tryz.prog.funcs[bw.fn]?).any (·.norace) = false := by kernel_rfl
section
variable {a : Act} {w : World} {ops : Array Oper} {k : Nat} {rest : List Nat} {o : Oper} {kk : List Item}
theorem loadw {ty : TypeId} {x : Operand} (ho : ops[k]? = some o) (hg : o.guard = none) (hop : o.op = .load ty x) (hty : ∀ w, (isAgg ty).run Tryz.prog w = .ok false w) {ad : Addr} {v : Value} (hx : a.eval x = .pointer (some ad)) (hc : w.cell? ad = some v) :
   stepG Tryz.prog false (G (bw.at a (.inRegion ops (k :: rest) :: kk)) [bot]) w = .go (G (bw.at (a.put o.dst v) (.inRegion ops rest :: kk)) [bot]) w #[⟨.cell ad, false, false⟩] := by
 have hr : (execOp a.eval o).run Tryz.prog w = .ok (.value v) w := by
   unfold execOp
   simp only [hop, hx]
   simp [go_sem, hty, hc]
 have he : (execOp a.eval o).events Tryz.prog w #[] = #[⟨.cell ad, false, false⟩] := by
   unfold execOp
   simp only [hop, hx]
   simp [go_sem, hty, hc]
 rw [stepG_value ho (by simp [Region.wanted, hg]) (by decide) hr]
 unfold listed
 rw [he, seen_eq loudw (by simp)]
end
structure Kw (N n i nb : Nat) (news paths : Value) (w : World) : Prop where
 cN : w.cell? ⟨N, 0, none⟩ = some news
 cP : w.cell? ⟨N + 1, 0, none⟩ = some paths
 cW : w.cell? ⟨N + 2, 0, none⟩ = some (.int .i64 n)
 cB : w.cell? ⟨N + 4, 0, none⟩ = some (.slice (some ⟨N + 3, 0, none⟩) n n)
 cI : w.cell? ⟨nb, 0, none⟩ = some (.int .i64 i)
 pay : PayAt (N + 3) n w
 live : WgLive lk.tWg (N + 5) w
def Rn (N n i nb : Nat) (w w₁ : World) : Prop := RW lk.tWg (N + 5) (N + 3) n (N + 6) i w w₁ /\ w₁.heap[nb]? = w.heap[nb]?
def Dn (SB : Nat -> Prop) (N n i nb : Nat) (w w' : World) (es : Array Event) : Prop := WEff (N + 3) n i (fun _ => False) w w' /\ w'.heap.size = w.heap.size /\ ∀ e ∈ es, EvO SB (N + 5) (N + 3) (N + 6) i w'.heap.size (fun b => b = nb) e
theorem Rn.refl (N n i nb : Nat) (w : World) : Rn N n i nb w w := ⟨RW.refl w, rfl⟩
theorem Rn.tr (N n i nb : Nat) : ∀ a b c, Rn N n i nb a b -> Rn N n i nb b c -> Rn N n i nb a c := fun _ _ _ h h' => ⟨h.1.trans h'.1, h'.2.trans h.2⟩
theorem weff_refl (C n i : Nat) (O : Nat -> Prop) (w : World) : WEff C n i O w w := ⟨⟨rfl, rfl, rfl⟩, Nat.le_refl _, fun _ _ _ _ => rfl, id, fun _ _ => rfl⟩
section
variable {SB : Nat -> Prop} {N n i nb : Nat} {news paths : Value} {w w₁ : World}
theorem Kw.rely (h : Kw N n i nb news paths w) (r : Rn N n i nb w w₁) : Kw N n i nb news paths w₁ := by
 have hl : ∀ b, b < N + 6 -> b ≠ N + 5 -> b ≠ N + 3 -> ∀ o, w₁.cell? ⟨b, o, none⟩ = w.cell? ⟨b, o, none⟩ := fun b h1 h2 h3 o => cell_of_block (r.1.low b h1 h2 h3) o
 exact ⟨(hl _ (by omega) (by omega) (by omega) _).trans h.cN, (hl _ (by omega) (by omega) (by omega) _).trans h.cP, (hl _ (by omega) (by omega) (by omega) _).trans h.cW, (hl _ (by omega) (by omega) (by omega) _).trans h.cB, (cell_of_block r.2 0).trans h.cI, r.1.pay h.pay, r.1.live h.live⟩
theorem lt_of_cell {w : World} {a : Addr} {v : Value} (h : w.cell? a = some v) : a.block < w.heap.size := by
 rcases Nat.lt_or_ge a.block w.heap.size with h' | h'
 · exact h'
 · simp [World.cell?, Array.getElem?_eq_none h'] at h
theorem dn_read (hSB : ∀ b, SB b -> b < N \/ b = N + 5) {ad : Addr} {v : Value} (hc : w.cell? ad = some v) (h : ad.block = nb \/ (N <= ad.block /\ ad.block < N + 5 /\ ad.block ≠ N + 3)) : Dn SB N n i nb w w #[⟨.cell ad, false, false⟩] := by
 refine ⟨weff_refl _ _ _ _ _, rfl, fun e he => ?_⟩
 rw [Array.mem_singleton] at he
 subst he
 refine ⟨fun x hx => ?_, by simp, by simp, by simp, fun x hx => ?_⟩ <;> simp only [Go.ConcR.ofEvent_cell, MemAct.touch?, Option.some.injEq] at hx <;> subst hx
 · rcases h with h | ⟨h1, h2, h3⟩
   · exact .inl ⟨ad.block, rfl, h⟩
   · exact .inr (.inr ⟨rfl, ad.block, rfl, by omega, h3, fun hs => by have := hSB _ hs; omega⟩)
 · exact lt_of_cell hc
theorem dn_nil : Dn SB N n i nb w w #[] := ⟨weff_refl _ _ _ _ _, rfl, by simp⟩
end
def valw (N n i : Nat) (news paths : Value) : Nat -> Value
 | 0 => .slice (some ⟨N + 3, 0, none⟩) n n
 | 1 => .int .i64 i
 | 2 => news
 | 3 => paths
 | 4 => .int .i64 i
 | 5 => .int .i64 n
 | _ => undef
def srcw (N nb : Nat) : Nat -> Nat
 | 0 => N + 4
 | 1 => nb
 | 2 => N
 | 3 => N + 1
 | 4 => nb
 | 5 => N + 2
 | _ => 0
def capw : Nat -> Nat
 | 0 => 5
 | 1 => 3
 | 2 => 1
 | 3 => 2
 | 4 => 3
 | 5 => 4
 | _ => 0
def tyw : Nat -> TypeId
 | 0 => 56
 | 1 => 3
 | 2 => 51
 | 3 => 53
 | 4 => 3
 | 5 => 3
 | _ => 0
theorem ldw (k : Nat) (hk : k < 6) : ∃ o, opsw[k]? = some o /\ o.guard = none /\ o.op = .load (tyw k) (.tmp (capw k)) /\ o.dst = some (6 + k) /\ o.after = #[] := by
 have h : k = 0 \/ k = 1 \/ k = 2 \/ k = 3 \/ k = 4 \/ k = 5 := by omega
 rcases h with rfl | rfl | rfl | rfl | rfl | rfl <;> exact ⟨_, rfl, rfl, rfl, rfl, rfl⟩
theorem aggw (k : Nat) (hk : k < 6) : ∀ w, (isAgg (tyw k)).run Tryz.prog w = .ok false w := by
 have h : k = 0 \/ k = 1 \/ k = 2 \/ k = 3 \/ k = 4 \/ k = 5 := by omega
 rcases h with rfl | rfl | rfl | rfl | rfl | rfl
 · exact Tryz.isAgg56
 · exact Tryz.isAgg3
 · exact Tryz.isAgg51
 · exact Tryz.isAgg53
 · exact Tryz.isAgg3
 · exact Tryz.isAgg3
theorem op6w : ∃ o, opsw[6]? = some o /\ o.guard = none /\ o.op = .call { callee := .value (.func 36), args := #[.tmp 8, .tmp 9, .tmp 10, .tmp 11], argTypes := #[51, 53, 3, 3] } /\ o.dst = some 12 /\
   o.after = #[⟨2, .data⟩, ⟨3, .data⟩, ⟨4, .data⟩, ⟨5, .data⟩] := ⟨_, rfl, rfl, rfl, rfl, rfl⟩
theorem op7w : ∃ o, opsw[7]? = some o /\ o.guard = none /\ o.op = .indexAddr 56 (.tmp 6) (.tmp 7) /\ o.dst = some 13 /\
   o.after = #[⟨0, .data⟩, ⟨1, .data⟩, ⟨0, .phase⟩, ⟨1, .phase⟩, ⟨2, .phase⟩, ⟨3, .phase⟩, ⟨4, .phase⟩, ⟨5, .phase⟩, ⟨6, .phase⟩] := ⟨_, rfl, rfl, rfl, rfl, rfl⟩
theorem op8w : ∃ o, opsw[8]? = some o /\ o.guard = none /\ o.op = .store 51 (.tmp 13) (.tmp 12) /\ o.dst = none /\
   o.after = #[⟨7, .data⟩, ⟨6, .data⟩, ⟨6, .chain⟩, ⟨0, .phase⟩, ⟨1, .phase⟩, ⟨2, .phase⟩, ⟨3, .phase⟩, ⟨4, .phase⟩, ⟨5, .phase⟩, ⟨6, .phase⟩] := ⟨_, rfl, rfl, rfl, rfl, rfl⟩
theorem sizew : opsw.size = 9 := rfl
def lis (l0 l1 l2 l3 l4 l5 l6 l7 l8 : Bool) : Array Bool := #[l0, l1, l2, l3, l4, l5, l6, l7, l8]
theorem readyw {k : Nat} {l0 l1 l2 l3 l4 l5 l6 l7 l8 : Bool} : k ∈ Region.ready .any opsw (lis l0 l1 l2 l3 l4 l5 l6 l7 l8) ↔
   (k = 0 /\ l0 = false) \/ (k = 1 /\ l1 = false) \/ (k = 2 /\ l2 = false) \/ (k = 3 /\ l3 = false) \/ (k = 4 /\ l4 = false) \/ (k = 5 /\ l5 = false) \/ (k = 6 /\ l6 = false /\ l2 = true /\ l3 = true /\ l4 = true /\ l5 = true) \/
   (k = 7 /\ l7 = false /\ l0 = true /\ l1 = true /\ l2 = true /\ l3 = true /\ l4 = true /\ l5 = true /\ l6 = true) \/ (k = 8 /\ l8 = false /\ l0 = true /\ l1 = true /\ l2 = true /\ l3 = true /\ l4 = true /\ l5 = true /\ l6 = true /\ l7 = true) := by
 rw [mem_ready]
 constructor
 · rintro ⟨h0, o, ho, ha⟩
   have hk : k < 9 := by have := (Array.getElem?_eq_some_iff.1 ho).1; rw [sizew] at this; exact this
   have hc : k < 6 \/ k = 6 \/ k = 7 \/ k = 8 := by omega
   rcases hc with hc | rfl | rfl | rfl
   · have h : k = 0 \/ k = 1 \/ k = 2 \/ k = 3 \/ k = 4 \/ k = 5 := by omega
     rcases h with rfl | rfl | rfl | rfl | rfl | rfl <;> simp [lis] at h0 <;> simp [h0]
   · obtain ⟨o', ho', _, _, _, hx⟩ := op6w
     rw [ho] at ho'; cases ho'
     rw [hx] at ha
     simp [lis, Region.binds] at h0 ha
     simp [h0, ha]
   · obtain ⟨o', ho', _, _, _, hx⟩ := op7w
     rw [ho] at ho'; cases ho'
     rw [hx] at ha
     simp [lis, Region.binds] at h0 ha
     simp [h0, ha]
   · obtain ⟨o', ho', _, _, _, hx⟩ := op8w
     rw [ho] at ho'; cases ho'
     rw [hx] at ha
     simp [lis, Region.binds] at h0 ha
     simp [h0, ha]
 · have ld : ∀ k, k < 6 -> (lis l0 l1 l2 l3 l4 l5 l6 l7 l8).getD k true = false -> (lis l0 l1 l2 l3 l4 l5 l6 l7 l8).getD k true = false /\ ∃ o, opsw[k]? = some o /\ ∀ e ∈ o.after, Region.binds .any e = true -> (lis l0 l1 l2 l3 l4 l5 l6 l7 l8).getD e.on false = true := fun k hk h0 =>
     let ⟨o, ho, _, _, _, hx⟩ := ldw k hk
     ⟨h0, o, ho, fun e he => by rw [hx] at he; simp at he⟩
   rintro (⟨rfl, h⟩ | ⟨rfl, h⟩ | ⟨rfl, h⟩ | ⟨rfl, h⟩ | ⟨rfl, h⟩ | ⟨rfl, h⟩ | ⟨rfl, h⟩ | ⟨rfl, h⟩ | ⟨rfl, h⟩)
   · exact ld 0 (by omega) (by simp [lis, h])
   · exact ld 1 (by omega) (by simp [lis, h])
   · exact ld 2 (by omega) (by simp [lis, h])
   · exact ld 3 (by omega) (by simp [lis, h])
   · exact ld 4 (by omega) (by simp [lis, h])
   · exact ld 5 (by omega) (by simp [lis, h])
   · obtain ⟨o', ho', _, _, _, hx⟩ := op6w
     refine ⟨by simp [lis, h], o', ho', fun e he _ => ?_⟩
     rw [hx] at he
     simp at he
     rcases he with rfl | rfl | rfl | rfl <;> simp [lis, h]
   · obtain ⟨o', ho', _, _, _, hx⟩ := op7w
     refine ⟨by simp [lis, h], o', ho', fun e he _ => ?_⟩
     rw [hx] at he
     simp at he
     rcases he with rfl | rfl | rfl | rfl | rfl | rfl | rfl | rfl | rfl <;> simp [lis, h]
   · obtain ⟨o', ho', _, _, _, hx⟩ := op8w
     refine ⟨by simp [lis, h], o', ho', fun e he _ => ?_⟩
     rw [hx] at he
     simp at he
     rcases he with rfl | rfl | rfl | rfl | rfl | rfl | rfl | rfl | rfl | rfl <;> simp [lis, h]
theorem nextw (fuel t : Nat) (ls : Array Bool) (hne : Region.ready .any opsw ls ≠ []) : ∃ k t', k ∈ Region.ready .any opsw ls /\ Region.linearise.go .any opsw (fuel + 1) t ls [] = k :: Region.linearise.go .any opsw fuel t' (ls.setIfInBounds k true) [] := by
 have hgo : Region.linearise.go .any opsw (fuel + 1) t ls [] = match (Region.ready .any opsw ls)[t % (Region.ready .any opsw ls).length]? with
     | some i => Region.linearise.go .any opsw fuel (t / (Region.ready .any opsw ls).length) (ls.setIfInBounds i true) [i]
     | none => [].reverse := rfl
 cases hi : (Region.ready .any opsw ls)[t % (Region.ready .any opsw ls).length]? with
 | none =>
   exfalso
   have hlt : t % (Region.ready .any opsw ls).length < (Region.ready .any opsw ls).length := Nat.mod_lt _ (List.length_pos_iff.2 hne)
   rw [List.getElem?_eq_getElem hlt] at hi
   cases hi
 | some k =>
   refine ⟨k, t / (Region.ready .any opsw ls).length, List.mem_of_getElem? hi, ?_⟩
   rw [hgo, hi]
   simp only
   rw [linearise_go_acc, List.reverse_singleton, List.singleton_append]
structure Slw (N n i nb : Nat) (news paths : Value) (ls : Array Bool) (T : Array Value) : Prop where
 size : T.size = 14
 t0 : T[0]? = some (.pointer (some ⟨N + 5, 0, none⟩))
 cap : ∀ k, k < 6 -> T[capw k]? = some (.pointer (some ⟨srcw N nb k, 0, none⟩))
 got : ∀ k, k < 6 -> ls.getD k false = true -> T[6 + k]? = some (valw N n i news paths k)
theorem capw_lt (k : Nat) : capw k < 6 := by
 unfold capw
 split <;> omega
theorem Slw.put {N n i nb : Nat} {news paths : Value} {ls ls' : Array Bool} {T : Array Value} (h : Slw N n i nb news paths ls T) {d : Nat} {v : Value} (hd : 6 <= d) (hl : ∀ k, k < 6 -> ls'.getD k false = true -> (6 + k = d /\ v = valw N n i news paths k) \/ (6 + k ≠ d /\ ls.getD k false = true)) (hdT : d < 14) : Slw N n i nb news paths ls' (T.setIfInBounds d v) := by
 refine ⟨by simp [h.size], by rw [Array.getElem?_setIfInBounds_ne (by omega)]; exact h.t0, fun k hk => by rw [Array.getElem?_setIfInBounds_ne (by have := capw_lt k; omega)]; exact h.cap k hk, fun k hk hkl => ?_⟩
 rcases hl k hk hkl with ⟨rfl, rfl⟩ | ⟨h1, h2⟩
 · rw [Array.getElem?_setIfInBounds_self_of_lt (by rw [h.size]; omega)]
 · rw [Array.getElem?_setIfInBounds_ne (Ne.symm h1)]
   exact h.got k hk h2
theorem eval_tmp {T : Array Value} {ds : List Deferred} {t : Nat} {v : Value} (h : T[t]? = some v) : (⟨T, ds⟩ : Act).eval (.tmp t) = v := by
 simp [Act.eval, h]
section
variable {SB : Nat -> Prop} {N n i nb : Nat} {news paths : Value} {w : World}
theorem Kw.src (h : Kw N n i nb news paths w) (k : Nat) (hk : k < 6) : w.cell? ⟨srcw N nb k, 0, none⟩ = some (valw N n i news paths k) := by
 have hc : k = 0 \/ k = 1 \/ k = 2 \/ k = 3 \/ k = 4 \/ k = 5 := by omega
 rcases hc with rfl | rfl | rfl | rfl | rfl | rfl
 · exact h.cB
 · exact h.cI
 · exact h.cN
 · exact h.cP
 · exact h.cI
 · exact h.cW
theorem srcw_or (k : Nat) (hk : k < 6) : srcw N nb k = nb \/ (N <= srcw N nb k /\ srcw N nb k < N + 5 /\ srcw N nb k ≠ N + 3) := by
 have hc : k = 0 \/ k = 1 \/ k = 2 \/ k = 3 \/ k = 4 \/ k = 5 := by omega
 rcases hc with rfl | rfl | rfl | rfl | rfl | rfl <;> simp [srcw] <;> omega
theorem stepLd (hSB : ∀ b, SB b -> b < N \/ b = N + 5) (h : Kw N n i nb news paths w) {ls : Array Bool} {T : Array Value} {ds : List Deferred} (hs : Slw N n i nb news paths ls T) {k : Nat} (hk : k < 6) (rest : List Nat) :
   stepG Tryz.prog false (G (bw.at ⟨T, ds⟩ (.inRegion opsw (k :: rest) :: [])) [bot]) w = .go (G (bw.at ⟨T.setIfInBounds (6 + k) (valw N n i news paths k), ds⟩ (.inRegion opsw rest :: [])) [bot]) w #[⟨.cell ⟨srcw N nb k, 0, none⟩, false, false⟩] /\
   Dn SB N n i nb w w #[⟨.cell ⟨srcw N nb k, 0, none⟩, false, false⟩] := by
 obtain ⟨o, ho, hg, hop, hd, _⟩ := ldw k hk
 refine ⟨?_, dn_read hSB (h.src k hk) (srcw_or k hk)⟩
 rw [loadw ho hg hop (aggw k hk) (eval_tmp (hs.cap k hk)) (h.src k hk)]
 simp [Act.put, hd]
def argsw (n i : Nat) (news paths : Value) : Array Value := #[news, paths, .int .i64 i, .int .i64 n]
noncomputable def dsw (N : Nat) : List Deferred := [dcall 35 #[.pointer (some ⟨N + 5, 0, none⟩)]]
def AtCall (N n i nb : Nat) (news paths : Value) (g : Goroutine) (w : World) : Prop :=
 Kw N n i nb news paths w /\ ∃ T l0 l1 fuel t, fuel + l0.toNat + l1.toNat = 4 /\ Slw N n i nb news paths (lis l0 l1 true true true true false false false) T /\
   g = G (bw.at ⟨T, dsw N⟩ (.inRegion opsw (6 :: Region.linearise.go .any opsw fuel t (lis l0 l1 true true true true true false false) []) :: [])) [bot]
theorem regPre (hSB : ∀ b, SB b -> b < N \/ b = N + 5) : ∀ (fuel t : Nat) (l0 l1 l2 l3 l4 l5 : Bool) (T : Array Value) (w : World), fuel + l0.toNat + l1.toNat + l2.toNat + l3.toNat + l4.toNat + l5.toNat = 9 -> Kw N n i nb news paths w ->
   Slw N n i nb news paths (lis l0 l1 l2 l3 l4 l5 false false false) T ->
   Goes Tryz.prog false (Rn N n i nb) (Dn SB N n i nb) (AtCall N n i nb news paths) fuel (G (bw.at ⟨T, dsw N⟩ (.inRegion opsw (Region.linearise.go .any opsw fuel t (lis l0 l1 l2 l3 l4 l5 false false false) []) :: [])) [bot]) w := by
 intro fuel
 induction fuel with
 | zero =>
   intro t l0 l1 l2 l3 l4 l5 T w hf
   exfalso
   cases l0 <;> cases l1 <;> cases l2 <;> cases l3 <;> cases l4 <;> cases l5 <;> simp at hf
 | succ fuel ih =>
   intro t l0 l1 l2 l3 l4 l5 T w hf hk hs
   have hne : Region.ready .any opsw (lis l0 l1 l2 l3 l4 l5 false false false) ≠ [] := by
     intro h0
     have hno : ∀ k, k ∉ Region.ready .any opsw (lis l0 l1 l2 l3 l4 l5 false false false) := by intro k; rw [h0]; simp
     have h6 := hno 6
     have e0 := hno 0; have e1 := hno 1; have e2 := hno 2; have e3 := hno 3; have e4 := hno 4; have e5 := hno 5
     rw [readyw] at h6 e0 e1 e2 e3 e4 e5
     simp at h6 e0 e1 e2 e3 e4 e5
     exact absurd (h6 e2 e3 e4) (by simp [e5])
   obtain ⟨k, t', hkr, hgo⟩ := nextw fuel t _ hne
   rw [hgo]
   have ld : ∀ (k : Nat) (ls' : Array Bool), k < 6 -> ls' = (lis l0 l1 l2 l3 l4 l5 false false false).setIfInBounds k true -> (∀ T' w', Kw N n i nb news paths w' -> Slw N n i nb news paths ls' T' ->
       Goes Tryz.prog false (Rn N n i nb) (Dn SB N n i nb) (AtCall N n i nb news paths) fuel (G (bw.at ⟨T', dsw N⟩ (.inRegion opsw (Region.linearise.go .any opsw fuel t' ls' []) :: [])) [bot]) w') ->
       Goes Tryz.prog false (Rn N n i nb) (Dn SB N n i nb) (AtCall N n i nb news paths) (fuel + 1) (G (bw.at ⟨T, dsw N⟩ (.inRegion opsw (k :: Region.linearise.go .any opsw fuel t' ls' []) :: [])) [bot]) w := by
     intro k ls' hk6 hls hnext
     refine Goes.step rfl fun w₁ r₁ => ?_
     have hk1 := hk.rely r₁
     obtain ⟨hst, hD⟩ := stepLd (ds := dsw N) hSB hk1 hs hk6 (Region.linearise.go .any opsw fuel t' ls' [])
     rw [hst, goes_go]
     refine ⟨hD, hnext _ _ hk1 (hs.put (by omega) (fun k' hk' hl => ?_) (by omega))⟩
     by_cases e : k' = k
     · subst e; exact .inl ⟨rfl, rfl⟩
     · refine .inr ⟨by omega, ?_⟩
       rw [hls, getD_set_ne _ (Ne.symm e)] at hl
       exact hl
   rw [readyw] at hkr
   rcases hkr with ⟨rfl, rfl⟩ | ⟨rfl, rfl⟩ | ⟨rfl, rfl⟩ | ⟨rfl, rfl⟩ | ⟨rfl, rfl⟩ | ⟨rfl, rfl⟩ | ⟨rfl, _, rfl, rfl, rfl, rfl⟩ | ⟨_, _, _, _, _, _, _, _, h⟩ | ⟨_, _, _, _, _, _, _, _, h, _⟩
   · exact ld 0 (lis true l1 l2 l3 l4 l5 false false false) (by omega) rfl fun T' w' h1 h2 => ih t' true l1 l2 l3 l4 l5 T' w' (by simp at hf ⊢; omega) h1 h2
   · exact ld 1 (lis l0 true l2 l3 l4 l5 false false false) (by omega) rfl fun T' w' h1 h2 => ih t' l0 true l2 l3 l4 l5 T' w' (by simp at hf ⊢; omega) h1 h2
   · exact ld 2 (lis l0 l1 true l3 l4 l5 false false false) (by omega) rfl fun T' w' h1 h2 => ih t' l0 l1 true l3 l4 l5 T' w' (by simp at hf ⊢; omega) h1 h2
   · exact ld 3 (lis l0 l1 l2 true l4 l5 false false false) (by omega) rfl fun T' w' h1 h2 => ih t' l0 l1 l2 true l4 l5 T' w' (by simp at hf ⊢; omega) h1 h2
   · exact ld 4 (lis l0 l1 l2 l3 true l5 false false false) (by omega) rfl fun T' w' h1 h2 => ih t' l0 l1 l2 l3 true l5 T' w' (by simp at hf ⊢; omega) h1 h2
   · exact ld 5 (lis l0 l1 l2 l3 l4 true false false false) (by omega) rfl fun T' w' h1 h2 => ih t' l0 l1 l2 l3 l4 true T' w' (by simp at hf ⊢; omega) h1 h2
   · refine Goes.stop fun w₁ r₁ => ⟨hk.rely r₁, T, l0, l1, fuel, t', by simp at hf; omega, hs, rfl⟩
   · cases h
   · cases h
end
end Crw
end Go.Proofs.YthgelfnflafoiabGreat
namespace Go.Proofs.YthgelfnflafoiabGreat
namespace Crw
open Go.Conc Go.ConcN Go.RowKit Go.Conc.Lib Go.ConcR.Gen Go.ConcN.Gen Sim
open Go.ConcR (KK wgBlock WgAt stA smA rd wr mk Payload DC0)
section
variable {a : Act} {w : World} {ops : Array Oper} {k : Nat} {rest : List Nat} {o : Oper} {kk : List Item}
theorem storew {x y : Operand} (ho : ops[k]? = some o) (hg : o.guard = none) (hop : o.op = .store 51 x y) {ad : Addr} {sa : Option Addr} {sl sc : Nat} {u : Value} (hx : a.eval x = .pointer (some ad)) (hy : a.eval y = .slice sa sl sc) (hc : w.cell? ad = some u) (hz : w.frozen? ad = false) :
   stepG Tryz.prog false (G (bw.at a (.inRegion ops (k :: rest) :: kk)) [bot]) w = .go (G (bw.at (a.put o.dst undef) (.inRegion ops rest :: kk)) [bot]) (w.setCell ad (.slice sa sl sc)) #[⟨.cell ad, true, false⟩] := by
 have hr : (execOp a.eval o).run Tryz.prog w = .ok .skip (w.setCell ad (.slice sa sl sc)) := by
   unfold execOp
   simp only [hop, hx, hy]
   simp [go_sem, stored, hc, hz]
 have he : (execOp a.eval o).events Tryz.prog w #[] = #[⟨.cell ad, true, false⟩] := by
   unfold execOp
   simp only [hop, hx, hy]
   have hst : ∀ es, (store ad (.slice sa sl sc)).events Tryz.prog w es = storedEv Tryz.prog w es ad (.slice sa sl sc) .plain := fun es => events_store Tryz.prog w es ad (.slice sa sl sc) .plain rfl
   simp [go_sem, hst, storedEv, hc, hz]
 rw [stepG_none ho (by simp [Region.wanted, hg]) (by decide) hr]
 unfold listed
 rw [he, seen_eq loudw (by simp)]
theorem indexw {x y : Operand} (ho : ops[k]? = some o) (hg : o.guard = none) (hop : o.op = .indexAddr 56 x y) {C n i : Nat} (hi : i < n) (hx : a.eval x = .slice (some ⟨C, 0, none⟩) n n) (hy : a.eval y = .int .i64 i) :
   stepG Tryz.prog false (G (bw.at a (.inRegion ops (k :: rest) :: kk)) [bot]) w = .go (G (bw.at (a.put o.dst (.pointer (some ⟨C, i, none⟩))) (.inRegion ops rest :: kk)) [bot]) w #[] := by
 have h0 : (0 : Int) <= (i : Int) := by omega
 have h1 : (i : Int) < (n : Int) := by omega
 have hr : (execOp a.eval o).run Tryz.prog w = .ok (.value (.pointer (some ⟨C, i, none⟩))) w := by
   unfold execOp
   simp only [hop, hx, hy]
   simp [go_sem, h0, h1]
 have he : (execOp a.eval o).events Tryz.prog w #[] = #[] := by
   unfold execOp
   simp only [hop, hx, hy]
   simp [go_sem, h0, h1]
 rw [stepG_value ho (by simp [Region.wanted, hg]) (by decide) hr]
 unfold listed
 rw [he, seen_none]
end
section
variable {SB : Nat -> Prop} {N n i nb : Nat} {news paths v : Value} {w : World}
def AtLast (N n i : Nat) (v : Value) (g : Goroutine) (w : World) : Prop :=
 g.status = .running /\ ∃ g', stepG Tryz.prog false g w = .go g' w #[] /\ ∃ m, Goes Tryz.prog false (RW lk.tWg (N + 5) (N + 3) n (N + 6) i) (DWs (N + 5) noP noP (N + 3) n (i + 1)) (AtR0 Tryz.prog lk.tWg (N + 5) (N + 3) n (N + 6) (i + 1) v) m g' w
theorem Kw.put (hnb : nb ≠ N + 3) (h : Kw N n i nb news paths w) (v : Value) : Kw N n i nb news paths (w.setCell ⟨N + 3, i, none⟩ v) /\ WEff (N + 3) n i (fun _ => False) w (w.setCell ⟨N + 3, i, none⟩ v) := by
 have hA := aside_setCell w ⟨N + 3, i, none⟩ v
 have hb : ∀ b, b ≠ N + 3 -> ∀ o, (w.setCell ⟨N + 3, i, none⟩ v).cell? ⟨b, o, none⟩ = w.cell? ⟨b, o, none⟩ := fun b h1 o => cell_of_block (hA.block b h1) o
 have hp : PayAt (N + 3) n (w.setCell ⟨N + 3, i, none⟩ v) := by
   obtain ⟨cs, h1, h2⟩ := h.pay
   refine ⟨cs.setIfInBounds i v, ?_, by simp [h2]⟩
   rw [setCell_eq_setRow w (N + 3) i cs _ (0, 0) _ h1, setRow_heap w (N + 3) _ _ _ _ h1]
 refine ⟨⟨(hb _ (by omega) _).trans h.cN, (hb _ (by omega) _).trans h.cP, (hb _ (by omega) _).trans h.cW, (hb _ (by omega) _).trans h.cB, (hb _ hnb _).trans h.cI, hp, ?_⟩, ⟨⟨hA.os, hA.output, hA.tape⟩, by rw [hA.size]; exact Nat.le_refl _, fun b _ h1 _ => hA.block b h1, fun _ => hp, fun i' hi' => ?_⟩⟩
 · obtain ⟨st, sm, hl⟩ := h.live
   exact ⟨st, sm, hl.of_block (hA.block _ (by simp))⟩
 · obtain ⟨cs, h1, h2⟩ := h.pay
   rw [setCell_eq_setRow w (N + 3) i cs _ (0, 0) _ h1]
   simp only [World.cell?]
   rw [setRow_heap w (N + 3) _ _ _ _ h1, h1]
   simp only
   rw [Array.getElem?_setIfInBounds_ne (Ne.symm hi')]
theorem has_put (hi : i < n) (h : PayAt (N + 3) n w) (v : Value) : Has (N + 3) i v (w.setCell ⟨N + 3, i, none⟩ v) := by
 obtain ⟨cs, h1, h2⟩ := h
 unfold Has
 rw [setCell_eq_setRow w (N + 3) i cs _ (0, 0) _ h1]
 simp only [World.cell?]
 rw [setRow_heap w (N + 3) _ _ _ _ h1]
 simp [h2, hi]
theorem pay_cell (hi : i < n) (h : PayAt (N + 3) n w) : ∃ u, w.cell? ⟨N + 3, i, none⟩ = some u /\ w.frozen? ⟨N + 3, i, none⟩ = false := by
 obtain ⟨cs, h1, h2⟩ := h
 exact ⟨cs[i]'(by rw [h2]; exact hi), by simp [World.cell?, h1, h2, hi], by simp [World.frozen?, h1]⟩
theorem regPost (hSB : ∀ b, SB b -> b < N \/ b = N + 5) (hnb : N + 6 <= nb) (hi : i < n) (hv : isSl v) : ∀ (fuel t : Nat) (l0 l1 l7 l8 : Bool) (T : Array Value) (w : World), fuel + l0.toNat + l1.toNat + l7.toNat + l8.toNat = 4 -> Kw N n i nb news paths w ->
   Slw N n i nb news paths (lis l0 l1 true true true true true l7 l8) T -> T[12]? = some v -> (l7 = true -> T[13]? = some (.pointer (some ⟨N + 3, i, none⟩)) /\ l0 = true /\ l1 = true) -> (l8 = true -> Has (N + 3) i v w /\ l7 = true) ->
   Goes Tryz.prog false (Rn N n i nb) (Dn SB N n i nb) (AtLast N n i v) (fuel + 2) (G (bw.at ⟨T, dsw N⟩ (.inRegion opsw (Region.linearise.go .any opsw fuel t (lis l0 l1 true true true true true l7 l8) []) :: [])) [bot]) w := by
 intro fuel
 induction fuel with
 | zero =>
   intro t l0 l1 l7 l8 T w hf hk hs h12 h7 h8
   have e8 : l8 = true := by cases l0 <;> cases l1 <;> cases l7 <;> cases l8 <;> simp at hf ⊢
   have hH := (h8 e8).1
   have e0 : Region.linearise.go .any opsw 0 t (lis l0 l1 true true true true true l7 l8) [] = [] := rfl
   rw [e0]
   refine Goes.step rfl fun w₁ r₁ => ?_
   rw [stepG_region_end, goes_go]
   refine ⟨dn_nil, Goes.step rfl fun w₂ r₂ => ?_⟩
   rw [stepG_end, goes_go]
   refine ⟨dn_nil, Goes.stop fun w₃ r₃ => ?_⟩
   have r : Rn N n i nb w w₃ := Rn.tr _ _ _ _ _ _ _ (Rn.tr _ _ _ _ _ _ _ r₁ r₂) r₃
   have hk3 := hk.rely r
   refine ⟨rfl, _, stepG_unwind_enter rfl Tryz.func35 (nm_done lk) rfl, 23, ?_⟩
   have hA := @doneN _ lk Tryz.prog lk_lib noP noP (N + 5) (N + 3) n (N + 6) (i + 1) v
   simp only [body_done, doneFn, Option.getD_some] at hA
   exact hA rfl (quitw T) w₃ ⟨hk3.live, by show w₃.cell? ⟨N + 3, i + 1 - 1, none⟩ = some v; rw [Nat.add_sub_cancel]; exact r.1.cell.trans hH⟩
 | succ fuel ih =>
   intro t l0 l1 l7 l8 T w hf hk hs h12 h7 h8
   have hl8 : l8 = false := by
     cases h : l8 with
     | false => rfl
     | true =>
       obtain ⟨_, e7⟩ := h8 h
       obtain ⟨_, e0, e1⟩ := h7 e7
       subst h e7 e0 e1
       simp at hf
   subst hl8
   have hne : Region.ready .any opsw (lis l0 l1 true true true true true l7 false) ≠ [] := by
     intro h0
     have hno : ∀ k, k ∉ Region.ready .any opsw (lis l0 l1 true true true true true l7 false) := by intro k; rw [h0]; simp
     have e0 := hno 0; have e1 := hno 1; have e7 := hno 7; have e8 := hno 8
     rw [readyw] at e0 e1 e7 e8
     simp at e0 e1 e7 e8
     subst e0 e1
     simp at e7
     subst e7
     simp at e8
   obtain ⟨k, t', hkr, hgo⟩ := nextw fuel t _ hne
   rw [hgo]
   have ld : ∀ (k : Nat) (ls' : Array Bool), k < 6 -> ls' = (lis l0 l1 true true true true true l7 false).setIfInBounds k true -> (∀ T' w', Kw N n i nb news paths w' -> Slw N n i nb news paths ls' T' -> T'[12]? = some v -> T'[13]? = T[13]? ->
       Goes Tryz.prog false (Rn N n i nb) (Dn SB N n i nb) (AtLast N n i v) (fuel + 2) (G (bw.at ⟨T', dsw N⟩ (.inRegion opsw (Region.linearise.go .any opsw fuel t' ls' []) :: [])) [bot]) w') ->
       Goes Tryz.prog false (Rn N n i nb) (Dn SB N n i nb) (AtLast N n i v) (fuel + 1 + 2) (G (bw.at ⟨T, dsw N⟩ (.inRegion opsw (k :: Region.linearise.go .any opsw fuel t' ls' []) :: [])) [bot]) w := by
     intro k ls' hk6 hls hnext
     refine Goes.step rfl fun w₁ r₁ => ?_
     have hk1 := hk.rely r₁
     obtain ⟨hst, hD⟩ := stepLd (ds := dsw N) hSB hk1 hs hk6 (Region.linearise.go .any opsw fuel t' ls' [])
     rw [hst, goes_go]
     refine ⟨hD, hnext _ _ hk1 (hs.put (by omega) (fun k' hk' hl => ?_) (by omega)) (by rw [Array.getElem?_setIfInBounds_ne (by omega)]; exact h12) (by rw [Array.getElem?_setIfInBounds_ne (by omega)])⟩
     by_cases e : k' = k
     · subst e; exact .inl ⟨rfl, rfl⟩
     · refine .inr ⟨by omega, ?_⟩
       rw [hls, getD_set_ne _ (Ne.symm e)] at hl
       exact hl
   rw [readyw] at hkr
   rcases hkr with ⟨rfl, rfl⟩ | ⟨rfl, rfl⟩ | ⟨_, h⟩ | ⟨_, h⟩ | ⟨_, h⟩ | ⟨_, h⟩ | ⟨_, h, _⟩ | ⟨rfl, rfl, rfl, rfl, _⟩ | ⟨rfl, _, rfl, rfl, _, _, _, _, _, rfl⟩
   · have e7 : l7 = false := by cases h : l7 with | false => rfl | true => have := (h7 h).2.1; cases this
     subst e7
     exact ld 0 (lis true l1 true true true true true false false) (by omega) rfl fun T' w' h1 h2 h3 _ => ih t' true l1 false false T' w' (by simp at hf ⊢; omega) h1 h2 h3 (by simp) (by simp)
   · have e7 : l7 = false := by cases h : l7 with | false => rfl | true => have := (h7 h).2.2; cases this
     subst e7
     exact ld 1 (lis l0 true true true true true true false false) (by omega) rfl fun T' w' h1 h2 h3 _ => ih t' l0 true false false T' w' (by simp at hf ⊢; omega) h1 h2 h3 (by simp) (by simp)
   · cases h
   · cases h
   · cases h
   · cases h
   · cases h
   · obtain ⟨o, ho, hg, hop, hd, _⟩ := op7w
     refine Goes.step rfl fun w₁ r₁ => ?_
     have hk1 := hk.rely r₁
     rw [indexw ho hg hop hi (eval_tmp (hs.got 0 (by omega) (by simp [lis]))) (eval_tmp (hs.got 1 (by omega) (by simp [lis]))), goes_go]
     refine ⟨dn_nil, ?_⟩
     have hT : (⟨T, dsw N⟩ : Act).put o.dst (.pointer (some ⟨N + 3, i, none⟩)) = ⟨T.setIfInBounds 13 (.pointer (some ⟨N + 3, i, none⟩)), dsw N⟩ := by simp [Act.put, hd]
     rw [hT]
     refine ih t' true true true false _ w₁ (by simp at hf ⊢; omega) hk1 (hs.put (by omega) (fun k' hk' hl => .inr ⟨by omega, ?_⟩) (by omega)) (by rw [Array.getElem?_setIfInBounds_ne (by omega)]; exact h12) (fun _ => ⟨by rw [Array.getElem?_setIfInBounds_self_of_lt (by rw [hs.size]; omega)], rfl, rfl⟩) (by simp)
     have hc : k' = 0 \/ k' = 1 \/ k' = 2 \/ k' = 3 \/ k' = 4 \/ k' = 5 := by omega
     rcases hc with rfl | rfl | rfl | rfl | rfl | rfl <;> simp [lis]
   · obtain ⟨o, ho, hg, hop, hd, _⟩ := op8w
     obtain ⟨sa, sl, sc, rfl⟩ := hv
     refine Goes.step rfl fun w₁ r₁ => ?_
     have hk1 := hk.rely r₁
     obtain ⟨u, hc, hz⟩ := pay_cell hi hk1.pay
     rw [storew ho hg hop (eval_tmp (h7 rfl).1) (eval_tmp h12) hc hz, goes_go]
     obtain ⟨hk2, hE⟩ := hk1.put (by omega) (.slice sa sl sc)
     have hsz : (w₁.setCell ⟨N + 3, i, none⟩ (.slice sa sl sc)).heap.size = w₁.heap.size := (aside_setCell w₁ ⟨N + 3, i, none⟩ _).size
     refine ⟨⟨hE, hsz, fun e he => ?_⟩, ?_⟩
     · rw [Array.mem_singleton] at he
       subst he
       refine ⟨fun x hx => ?_, by simp, by simp, by simp, fun x hx => ?_⟩ <;> simp only [Go.ConcR.ofEvent_cell, MemAct.touch?, Option.some.injEq] at hx <;> subst hx
       · exact .inr (.inl rfl)
       · show N + 3 < _
         rw [hsz]
         exact lt_of_cell hc
     · have hT : (⟨T, dsw N⟩ : Act).put o.dst undef = ⟨T, dsw N⟩ := by simp [Act.put, hd]
       rw [hT]
       refine ih t' true true true true T _ (by simp at hf ⊢; omega) hk2 ⟨hs.size, hs.t0, hs.cap, fun k' hk' _ => hs.got k' hk' ?_⟩ h12 (fun _ => ⟨(h7 rfl).1, rfl, rfl⟩) (fun _ => ⟨has_put hi hk1.pay _, rfl⟩)
       have hc : k' = 0 \/ k' = 1 \/ k' = 2 \/ k' = 3 \/ k' = 4 \/ k' = 5 := by omega
       rcases hc with rfl | rfl | rfl | rfl | rfl | rfl <;> simp [lis]
end
end Crw
end Go.Proofs.YthgelfnflafoiabGreat
