/-
  Several texts in one.
-/
import Derived.Laws.MakeOwn
import Derived.Conc.AppendWalk
import Derived.Conc.BesideWords
import Derived.Conc.Own3
import Derived.Test.YthgelfnflafoiabGreatRows
import Derived.Test.YthgelfnflafoiabGreatPk4
namespace Go.Proofs.YthgelfnflafoiabGreat
namespace Crw
open Go.Conc Go.ConcN Go.RowKit Go.Conc.Lib Go.ConcR.Gen Go.ConcN.Gen Sim
open Go.ConcR (KK wgBlock WgAt stA smA rd wr mk Payload DC0)
inductive XX where
 | pre (k : Nat) (x : Xw)
 | sim (x : Xw)
 | post (k : Nat)
def XX.lt (S : Program) : XX → XX → Prop
 | .pre k' x', .pre k x => k' < k ∧ x' = x
 | .sim x', .pre _ x => x' = x
 | .sim y, .sim x => ltw S y x
 | .post _, .sim _ => True
 | .post k', .post k => k' < k
 | _, _ => False
theorem acc_post (S : Program) : ∀ k, Acc (XX.lt S) (.post k) := by
 intro k
 induction k using Nat.strongRecOn with
 | _ k ih =>
   refine Acc.intro _ fun y hy => ?_
   cases y with
   | pre k' x => exact hy.elim
   | sim x => exact hy.elim
   | post k' => exact ih k' hy
theorem acc_sim {S : Program} {x : Xw} (h : Acc (ltw S) x) : Acc (XX.lt S) (.sim x) := by
 induction h with
 | intro x _ ih =>
   refine Acc.intro _ fun y hy => ?_
   cases y with
   | pre k' x => exact hy.elim
   | sim y => exact ih y hy
   | post k' => exact acc_post S k'
theorem acc_pre {S : Program} {x : Xw} (h : Acc (ltw S) x) : ∀ k, Acc (XX.lt S) (.pre k x) := by
 intro k
 induction k using Nat.strongRecOn with
 | _ k ih =>
   refine Acc.intro _ fun y hy => ?_
   cases y with
   | pre k' x' =>
     obtain ⟨h1, rfl⟩ := hy
     exact ih k' h1
   | sim y => cases hy; exact acc_sim h
   | post k' => exact hy.elim
structure WHyp (S : Program) (F : FuncId → Bool) (sp sp0 : FuncId) (SB : Nat → Prop) (N n : Nat) (news paths : Value) (ρ0 : Ren) (f0 : World) (argsS : Nat → Array Value) : Prop where
 H : Same S Tryz.prog F
 hF : Fine S Tryz.prog F sp
 hno : ∀ x cs s, Bar S (RetE S) (Frame.enter S sp x .normal :: cs) s → False
 hSB : ∀ b, SB b → b < N ∨ b = N + 5
 known : F 36 = true
 nsp : 36 ≠ sp
 args : ∀ i, i < n → AVRel (Fp F) ρ0 (argsS i) (argsw n i news paths)
 bar : ∀ i, i < n → Bar S (RetE S) [Frame.enter S 36 (argsS i) .normal] f0
 own : OwnOk SB (N + 5) (N + 3) (N + 6) ρ0 (fun _ => False)
 st : ∃ F', Same S S F' ∧ Fine S S F' sp0 ∧ NoSp S F' sp0 ∧ ∀ i, i < n → WF S F' sp0 [Frame.enter S 36 (argsS i) .normal] f0
section
variable (S : Program) (F : FuncId → Bool) (sp : FuncId) (SB : Nat → Prop) (N n : Nat) (news paths : Value) (ρ0 : Ren) (f0 : World) (argsS : Nat → Array Value)
def fs0w (i : Nat) : List Frame := [Frame.enter S 36 (argsS i) .normal]
def SitW (i : Nat) : XX → Goroutine → World → (Nat → Prop) → Prop
 | .pre k x, g, w, O => ∃ nb, N + 6 ≤ nb ∧ O nb ∧ i < n ∧ x = (fs0w S argsS i, f0) ∧ WRel (Fp F) ρ0 f0 w ∧ Goes Tryz.prog false (Rn N n i nb) (Dn SB N n i nb) (AtCall N n i nb news paths) k g w
 | .sim x, g, w, O => ∃ nb c OS, N + 6 ≤ nb ∧ O nb ∧ i < n ∧ (∀ b, OS b → O b ∧ b ≠ nb) ∧ Kw N n i nb news paths w ∧ SimSt S F sp SB (N + 5) (N + 3) (N + 6) ρ0 f0 (fs0w S argsS) i x g w [c, bot] OS ∧
     ∀ v w', isSl v → Kw N n i nb news paths w' → ∃ k, Goes Tryz.prog false (Rn N n i nb) (Dn SB N n i nb) (AtLast N n i v) k (G (c.finish v) [bot]) w'
 | .post k, g, w, O => ∃ nb v, N + 6 ≤ nb ∧ O nb ∧ SimFin S F SB (N + 5) (N + 3) (N + 6) ρ0 f0 (fs0w S argsS) i v w O ∧ Goes Tryz.prog false (Rn N n i nb) (Dn SB N n i nb) (AtLast N n i v) k g w
end
section
variable {S : Program} {F : FuncId → Bool} {sp sp0 : FuncId} {SB : Nat → Prop} {N n : Nat} {news paths : Value} {ρ0 : Ren} {f0 : World} {argsS : Nat → Array Value}
theorem OwnOk.mono {Wg C Low : Nat} {ρ : Ren} {O O' : Nat → Prop} (h : OwnOk SB Wg C Low ρ O) (he : ∀ b, O b → O' b) : OwnOk SB Wg C Low ρ O' := fun b e hb => ⟨fun ho => he _ ((h b e hb).1 ho), (h b e hb).2⟩
theorem SimFin.mono {Wg C Low : Nat} {fs0 : Nat → List Frame} {i : Nat} {v : Value} {w : World} {O O' : Nat → Prop} (h : SimFin S F SB Wg C Low ρ0 f0 fs0 i v w O) (he : ∀ b, O b → O' b) : SimFin S F SB Wg C Low ρ0 f0 fs0 i v w O' := by
 obtain ⟨ρ, fr, s, fn, vS, h1, h2, h3, h4, h5, h6, h7, h8, h9, h10⟩ := h
 exact ⟨ρ, fr, s, fn, vS, h1, h2, h3, h4, h5, h6, h7.mono he, h8, h9, h10⟩
theorem SimFin.sl {Wg C Low : Nat} {fs0 : Nat → List Frame} {i : Nat} {v : Value} {w : World} {O : Nat → Prop} (h : SimFin S F SB Wg C Low ρ0 f0 fs0 i v w O) : isSl v := by
 obtain ⟨ρ, fr, s, fn, vS, _, _, _, _, _, _, _, _, h9, _⟩ := h
 exact h9
theorem EvO.mono {Wg C Low i B : Nat} {O O' : Nat → Prop} {e : Event} (h : EvO SB Wg C Low i B O e) (he : ∀ b, O b → O' b) : EvO SB Wg C Low i B O' e :=
 ⟨fun x hx => (h.tch x hx).imp (fun ⟨b, h1, h2⟩ => ⟨b, h1, he b h2⟩) id, h.dis, h.en, h.rel, h.low⟩
theorem WEff.mono {C i : Nat} {O O' : Nat → Prop} {w w' : World} (h : WEff C n i O w w') (he : ∀ b, O b → O' b) : WEff C n i O' w w' :=
 ⟨h.out, h.size, fun b h1 h2 h3 => h.same b h1 h2 fun x => h3 (he b x), h.pay, h.cells⟩
theorem rn_of {i nb : Nat} {O : Nat → Prop} {w w₁ : World} (hO : O nb) (hs : Stay (N + 5) (N + 3) (N + 6) O w w₁) (hr : RW lk.tWg (N + 5) (N + 3) n (N + 6) i w w₁) : Rn N n i nb w w₁ := ⟨hr, hs.own nb hO⟩
theorem stay_dn {i : Nat} {O : Nat → Prop} {w w' : World} (hO : ∀ b, O b → N + 6 ≤ b ∧ b < w.heap.size) (hL : N + 6 ≤ w.heap.size) (h : WEff (N + 3) n i (fun _ => False) w w') : Stay (N + 5) (N + 3) (N + 6) O w w' :=
 ⟨fun b h1 _ h3 => h.same b (by omega) h3 id, fun b hb => h.same b (hO b hb).2 (by have := (hO b hb).1; omega) id, h.size⟩
theorem callw_step {T : Array Value} {rest : List Nat} {i nb : Nat} {ls : Array Bool} (hs : Slw N n i nb news paths ls T) (h2 : ls.getD 2 false = true) (h3 : ls.getD 3 false = true) (h4 : ls.getD 4 false = true) (h5 : ls.getD 5 false = true) (w : World) :
   stepG Tryz.prog false (G (bw.at ⟨T, dsw N⟩ (.inRegion opsw (6 :: rest) :: [])) [bot]) w = .go (G (Frame.enter Tryz.prog 36 (argsw n i news paths) .normal) [bw.at ⟨T, dsw N⟩ (.inRegion opsw (6 :: rest) :: []), bot]) w #[] := by
 obtain ⟨o, ho, hg, hop, hd, _⟩ := op6w
 have hx : (#[.tmp 8, .tmp 9, .tmp 10, .tmp 11] : Array Operand).map (⟨T, dsw N⟩ : Act).eval = argsw n i news paths := by
   have e8 := eval_tmp (ds := dsw N) (hs.got 2 (by omega) h2)
   have e9 := eval_tmp (ds := dsw N) (hs.got 3 (by omega) h3)
   have e10 := eval_tmp (ds := dsw N) (hs.got 4 (by omega) h4)
   have e11 := eval_tmp (ds := dsw N) (hs.got 5 (by omega) h5)
   simp only [Nat.reduceAdd] at e8 e9 e10 e11
   simp [e8, e9, e10, e11, argsw, valw]
 have hb' : Tryz.f36.body.isNone = false := by kernel_rfl
 have hnm : (Tryz.f36.name == "runtime.NumGoroutine") = false := by kernel_rfl
 rw [stepG_enter ho (by simp [Region.wanted, hg]) (by decide) (run_call_body hop Tryz.func36 hnm hb'), hx]
 have : listed Tryz.prog bw.fn ⟨T, dsw N⟩ o w = #[] := by unfold listed; rw [events_call_body hop Tryz.func36 hnm hb']; exact seen_none _ _
 rw [this]
noncomputable def wspec (W : WHyp S F sp sp0 SB N n news paths ρ0 f0 argsS) : WSpec Tryz.prog SB lk.tWg (N + 5) (N + 3) n (N + 6) where
 X := XX
 lt := XX.lt S
 Sit := SitW S F sp SB N n news paths ρ0 f0 argsS
 Fin := fun i v w O => SimFin S F SB (N + 5) (N + 3) (N + 6) ρ0 f0 (fs0w S argsS) i v w O
 acc := by
   intro i x g w O h
   cases x with
   | pre k x =>
     obtain ⟨nb, _, _, hi, rfl, _⟩ := h
     exact acc_pre (acc_bar (retE_ok S) (W.bar i hi)) k
   | sim x =>
     obtain ⟨nb, c, OS, _, _, _, _, _, hs, _⟩ := h
     exact acc_sim (acc_bar (retE_ok S) hs.bar)
   | post k => exact acc_post S k
 run := by
   intro i x g w O h
   cases x with
   | pre k x =>
     obtain ⟨nb, _, _, _, _, _, hg⟩ := h
     exact Goes.running (fun g w h => by obtain ⟨_, T, l0, l1, fuel, t, _, _, rfl⟩ := h; rfl) w (Rn.refl _ _ _ _ w) hg
   | sim x =>
     obtain ⟨nb, c, OS, _, _, _, _, _, ⟨_, _, ρ, f', cs', rfl, _⟩, _⟩ := h
     rfl
   | post k =>
     obtain ⟨nb, v, _, _, _, hg⟩ := h
     exact Goes.running (fun g w h => h.1) w (Rn.refl _ _ _ _ w) hg
 stay := by
   intro i x g w w₁ O h hs hr
   cases x with
   | pre k x =>
     obtain ⟨nb, h1, h2, h3, h4, h5, hg⟩ := h
     exact ⟨nb, h1, h2, h3, h4, wrel_stay h5 (W.own.mono (fun _ x => x.elim)) hs, Goes.rely (Rn.tr _ _ _ _) hg (rn_of h2 hs hr)⟩
   | sim x =>
     obtain ⟨nb, c, OS, h1, h2, h3, h4, h5, h6, h7⟩ := h
     exact ⟨nb, c, OS, h1, h2, h3, h4, h5.rely (rn_of h2 hs hr), h6.stay ⟨hs.low, fun b hb => hs.own b (h4 b hb).1, hs.size⟩, h7⟩
   | post k =>
     obtain ⟨nb, v, h1, h2, h3, hg⟩ := h
     exact ⟨nb, v, h1, h2, h3.stay hs, Goes.rely (Rn.tr _ _ _ _) hg (rn_of h2 hs hr)⟩
 fins := fun h hs => h.stay hs
 oext := by
   intro i x g w O O' h he
   cases x with
   | pre k x =>
     obtain ⟨nb, h1, h2, h3, h4, h5, hg⟩ := h
     exact ⟨nb, h1, (he nb).1 h2, h3, h4, h5, hg⟩
   | sim x =>
     obtain ⟨nb, c, OS, h1, h2, h3, h4, h5, h6, h7⟩ := h
     exact ⟨nb, c, OS, h1, (he nb).1 h2, h3, fun b hb => ⟨(he b).1 (h4 b hb).1, (h4 b hb).2⟩, h5, h6, h7⟩
   | post k =>
     obtain ⟨nb, v, h1, h2, h3, hg⟩ := h
     exact ⟨nb, v, h1, (he nb).1 h2, h3.oext he, hg⟩
 fext := fun h he => h.oext he
 go := by
   intro i x g w O h hlive hpay hi hL hO
   have hgr : ∀ {w' : World} (b : Nat), O b → grown O w w' b := fun b hb => .inl hb
   cases x with
   | pre k x =>
     obtain ⟨nb, h1, h2, h3, rfl, h5, hg⟩ := h
     rcases Goes.cases hg with hstop | ⟨k', rfl, hstep⟩
     · obtain ⟨hk, T, l0, l1, fuel, t, hfu, hs, rfl⟩ := hstop w (Rn.refl _ _ _ _ w)
       have hst := callw_step (rest := Region.linearise.go .any opsw fuel t (lis l0 l1 true true true true true false false) []) hs (by simp [lis]) (by simp [lis]) (by simp [lis]) (by simp [lis]) w
       refine ⟨_, w, #[], hst, weff_refl _ _ _ _ _, by simp, .inl ⟨.sim (fs0w S argsS i, f0), rfl, nb, _, fun _ => False, h1, hgr nb h2, h3, fun _ hf => hf.elim, hk, ⟨W.bar i h3, Rec.start _ _ _, ρ0, _, [], rfl, .cons (FRel.enter W.hF W.known W.nsp (W.args i h3)) .nil, h5, W.own, Ext.refl _ _⟩, fun v w' hv hk' => ?_⟩⟩
       obtain ⟨o, ho, _, _, hd, _⟩ := op6w
       refine ⟨fuel + 2, ?_⟩
       rw [Frame.finish_at, ho]
       have hT : (⟨T, dsw N⟩ : Act).put ((some o).bind (·.dst)) v = ⟨T.setIfInBounds 12 v, dsw N⟩ := by simp [Act.put, hd]
       rw [hT]
       refine regPost W.hSB h1 h3 hv fuel t l0 l1 false false _ w' (by simp; omega) hk' (hs.put (by omega) (fun k' hk6 hl => .inr ⟨by omega, ?_⟩) (by omega)) (by rw [Array.getElem?_setIfInBounds_self_of_lt (by rw [hs.size]; omega)]) (by simp) (by simp)
       have hc : k' = 0 ∨ k' = 1 ∨ k' = 2 ∨ k' = 3 ∨ k' = 4 ∨ k' = 5 := by omega
       rcases hc with rfl | rfl | rfl | rfl | rfl | rfl
       · simpa [lis] using hl
       · simpa [lis] using hl
       · simp [lis]
       · simp [lis]
       · simp [lis]
       · simp [lis]
     · obtain ⟨g', w', es, hgo, ⟨hE, hsz, hev⟩, hg'⟩ := hstep w (Rn.refl _ _ _ _ w)
       have hst := stay_dn hO hL hE
       exact ⟨g', w', es, hgo, hE.mono (fun _ x => x.elim), fun e he => (hev e he).mono fun b hb => by rw [hb]; exact hgr nb h2, .inl ⟨.pre k' (fs0w S argsS i, f0), ⟨by omega, rfl⟩, nb, h1, hgr nb h2, h3, rfl, wrel_stay h5 (W.own.mono (fun _ x => x.elim)) hst, hg'⟩⟩
   | sim x =>
     obtain ⟨nb, c, OS, h1, h2, h3, h4, h5, h6, h7⟩ := h
     obtain ⟨F', H0, hF0, hsp0, hwf0⟩ := W.st
     obtain ⟨g', w', es, hgo, hE, hev, hnext⟩ := h6.go (n := n) W.H W.hF H0 hF0 hsp0 W.hno (hwf0 i h3) (by omega) hL (fun b hb => hO b (h4 b hb).1)
     have hsub : ∀ b, grown OS w w' b → grown O w w' b ∧ b ≠ nb := fun b hb => hb.elim (fun x => ⟨.inl (h4 b x).1, (h4 b x).2⟩) (fun x => ⟨.inr x, by have := (hO nb h2).2; omega⟩)
     have hk' : Kw N n i nb news paths w' := by
       have hnO : ∀ b, b < N + 6 → ¬ OS b := fun b hb hx => by have := (hO b (h4 b hx).1).1; omega
       have hl : ∀ b, b < N + 6 → b ≠ N + 3 → ∀ o, w'.cell? ⟨b, o, none⟩ = w.cell? ⟨b, o, none⟩ := fun b hb hc o => cell_of_block (hE.same b (by omega) hc (hnO b hb)) o
       exact ⟨(hl _ (by omega) (by omega) _).trans h5.cN, (hl _ (by omega) (by omega) _).trans h5.cP, (hl _ (by omega) (by omega) _).trans h5.cW, (hl _ (by omega) (by omega) _).trans h5.cB,
         (cell_of_block (hE.same nb (hO nb h2).2 (by omega) fun hx => (h4 nb hx).2 rfl) 0).trans h5.cI, hE.pay h5.pay, let ⟨st, sm, hw⟩ := h5.live; ⟨st, sm, hw.of_block (hE.same (N + 5) (by omega) (by omega) (hnO _ (by omega)))⟩⟩
     refine ⟨g', w', es, hgo, hE.mono (fun b hb => (h4 b hb).1), fun e he => (hev e he).mono fun b hb => (hsub b hb).1, ?_⟩
     rcases hnext with ⟨x', hlt, hs'⟩ | ⟨v, rfl, hfin⟩
     · exact .inl ⟨.sim x', hlt, nb, c, grown OS w w', h1, hgr nb h2, h3, hsub, hk', hs', h7⟩
     · obtain ⟨k, hk⟩ := h7 v w' hfin.sl hk'
       exact .inl ⟨.post k, trivial, nb, v, h1, hgr nb h2, hfin.mono fun b hb => (hsub b hb).1, hk⟩
   | post k =>
     obtain ⟨nb, v, h1, h2, h3, hg⟩ := h
     rcases Goes.cases hg with hstop | ⟨k', rfl, hstep⟩
     · obtain ⟨_, g', hgo, m, hm⟩ := hstop w (Rn.refl _ _ _ _ w)
       exact ⟨g', w, #[], hgo, weff_refl _ _ _ _ _, by simp, .inr ⟨v, m, h3.mono fun b hb => hgr b hb, hm⟩⟩
     · obtain ⟨g', w', es, hgo, ⟨hE, hsz, hev⟩, hg'⟩ := hstep w (Rn.refl _ _ _ _ w)
       have hst := stay_dn hO hL hE
       exact ⟨g', w', es, hgo, hE.mono (fun _ x => x.elim), fun e he => (hev e he).mono fun b hb => by rw [hb]; exact hgr nb h2, .inl ⟨.post k', by show k' < k' + 1; omega, nb, v, h1, hgr nb h2, (h3.stay hst).mono fun b hb => hgr b hb, hg'⟩⟩
end
end Crw
end Go.Proofs.YthgelfnflafoiabGreat
namespace Go.Proofs.YthgelfnflafoiabGreat
namespace Crw
open Go.Conc Go.ConcN Go.RowKit Go.Conc.Lib Go.ConcR.Gen Go.ConcN.Gen Sim
open Go.ConcR (KK wgBlock WgAt stA smA rd wr mk Payload DC0)
def bs : Frame := base 20
theorem louds : (Tryz.prog.funcs[bs.fn]?).any (·.norace) = false := by kernel_rfl
section
variable {a : Act} {w : World} {ops : Array Oper} {k : Nat} {rest : List Nat} {o : Oper} {kk : List Item} {cs : List Frame}
theorem box1 {x : Operand} (ho : ops[k]? = some o) (hg : o.guard = none) (hop : o.op = .box 51 x) {sa : Option Addr} {sl sc : Nat} (hx : a.eval x = .slice sa sl sc) :
   stepG Tryz.prog true (G (bs.at a (.inRegion ops (k :: rest) :: kk)) cs) w = .go (G (bs.at (a.put o.dst (.pointer (some ⟨w.heap.size, 0, none⟩))) (.inRegion ops rest :: kk)) cs) (w.alloc (.cells #[.slice sa sl sc] 51)) #[] := by
 have hr : (execOp a.eval o).run Tryz.prog w = .ok (.value (.pointer (some ⟨w.heap.size, 0, none⟩))) (w.alloc (.cells #[.slice sa sl sc] 51)) := by
   unfold execOp
   simp only [hop, hx]
   simp [go_sem]
 have he : (execOp a.eval o).events Tryz.prog w #[] = #[] := by
   unfold execOp
   simp only [hop, hx]
   simp [go_sem]
 rw [stepG_value ho (by simp [Region.wanted, hg]) (by decide) hr]
 unfold listed
 rw [he, seen_none]
theorem box2 {x : Operand} (ho : ops[k]? = some o) (hg : o.guard = none) (hop : o.op = .box 53 x) {sa : Option Addr} {sl sc : Nat} (hx : a.eval x = .slice sa sl sc) :
   stepG Tryz.prog true (G (bs.at a (.inRegion ops (k :: rest) :: kk)) cs) w = .go (G (bs.at (a.put o.dst (.pointer (some ⟨w.heap.size, 0, none⟩))) (.inRegion ops rest :: kk)) cs) (w.alloc (.cells #[.slice sa sl sc] 53)) #[] := by
 have hr : (execOp a.eval o).run Tryz.prog w = .ok (.value (.pointer (some ⟨w.heap.size, 0, none⟩))) (w.alloc (.cells #[.slice sa sl sc] 53)) := by
   unfold execOp
   simp only [hop, hx]
   simp [go_sem]
 have he : (execOp a.eval o).events Tryz.prog w #[] = #[] := by
   unfold execOp
   simp only [hop, hx]
   simp [go_sem]
 rw [stepG_value ho (by simp [Region.wanted, hg]) (by decide) hr]
 unfold listed
 rw [he, seen_none]
theorem box3 {x : Operand} (ho : ops[k]? = some o) (hg : o.guard = none) (hop : o.op = .box 3 x) {m : Int} (hx : a.eval x = .int .i64 m) :
   stepG Tryz.prog true (G (bs.at a (.inRegion ops (k :: rest) :: kk)) cs) w = .go (G (bs.at (a.put o.dst (.pointer (some ⟨w.heap.size, 0, none⟩))) (.inRegion ops rest :: kk)) cs) (w.alloc (.cells #[.int .i64 m] 3)) #[] := by
 have hr : (execOp a.eval o).run Tryz.prog w = .ok (.value (.pointer (some ⟨w.heap.size, 0, none⟩))) (w.alloc (.cells #[.int .i64 m] 3)) := by
   unfold execOp
   simp only [hop, hx]
   simp [go_sem]
 have he : (execOp a.eval o).events Tryz.prog w #[] = #[] := by
   unfold execOp
   simp only [hop, hx]
   simp [go_sem]
 rw [stepG_value ho (by simp [Region.wanted, hg]) (by decide) hr]
 unfold listed
 rw [he, seen_none]
theorem alloc1 (ho : ops[k]? = some o) (hg : o.guard = none) (hop : o.op = .alloc 56) :
   stepG Tryz.prog true (G (bs.at a (.inRegion ops (k :: rest) :: kk)) cs) w = .go (G (bs.at (a.put o.dst (.pointer (some ⟨w.heap.size, 0, none⟩))) (.inRegion ops rest :: kk)) cs) (w.alloc (.cells #[.slice none 0 0] 56)) #[] := by
 have hr : (execOp a.eval o).run Tryz.prog w = .ok (.value (.pointer (some ⟨w.heap.size, 0, none⟩))) (w.alloc (.cells #[.slice none 0 0] 56)) := by
   unfold execOp
   simp only [hop]
   simp [go_sem]
 have he : (execOp a.eval o).events Tryz.prog w #[] = #[] := by
   unfold execOp
   simp only [hop]
   simp [go_sem]
 rw [stepG_value ho (by simp [Region.wanted, hg]) (by decide) hr]
 unfold listed
 rw [he, seen_none]
theorem alloc2 (ho : ops[k]? = some o) (hg : o.guard = none) (hop : o.op = .alloc 3) :
   stepG Tryz.prog true (G (bs.at a (.inRegion ops (k :: rest) :: kk)) cs) w = .go (G (bs.at (a.put o.dst (.pointer (some ⟨w.heap.size, 0, none⟩))) (.inRegion ops rest :: kk)) cs) (w.alloc (.cells #[.int .i64 0] 3)) #[] := by
 have hr : (execOp a.eval o).run Tryz.prog w = .ok (.value (.pointer (some ⟨w.heap.size, 0, none⟩))) (w.alloc (.cells #[.int .i64 0] 3)) := by
   unfold execOp
   simp only [hop]
   simp [go_sem]
 have he : (execOp a.eval o).events Tryz.prog w #[] = #[] := by
   unfold execOp
   simp only [hop]
   simp [go_sem]
 rw [stepG_value ho (by simp [Region.wanted, hg]) (by decide) hr]
 unfold listed
 rw [he, seen_none]
theorem alloc3 (ho : ops[k]? = some o) (hg : o.guard = none) (hop : o.op = .alloc 90) :
   stepG Tryz.prog true (G (bs.at a (.inRegion ops (k :: rest) :: kk)) cs) w = .go (G (bs.at (a.put o.dst (.pointer (some ⟨w.heap.size, 0, none⟩))) (.inRegion ops rest :: kk)) cs) (w.alloc (.cells #[.int .u64 0, .int .u32 0] 90)) #[] := by
 have hr : (execOp a.eval o).run Tryz.prog w = .ok (.value (.pointer (some ⟨w.heap.size, 0, none⟩))) (w.alloc (.cells #[.int .u64 0, .int .u32 0] 90)) := by
   unfold execOp
   simp only [hop]
   simp [go_sem]
 have he : (execOp a.eval o).events Tryz.prog w #[] = #[] := by
   unfold execOp
   simp only [hop]
   simp [go_sem]
 rw [stepG_value ho (by simp [Region.wanted, hg]) (by decide) hr]
 unfold listed
 rw [he, seen_none]
set_option maxRecDepth 20000 in
theorem made1 {x y : Operand} (ho : ops[k]? = some o) (hg : o.guard = none) (hop : o.op = .makeSlice 56 x y) {n : Nat} (hn : n <= 64) (hx : a.eval x = .int .i64 n) (hy : a.eval y = .int .i64 n) :
   stepG Tryz.prog true (G (bs.at a (.inRegion ops (k :: rest) :: kk)) cs) w = .go (G (bs.at (a.put o.dst (.slice (some ⟨w.heap.size, 0, none⟩) n n)) (.inRegion ops rest :: kk)) cs) (w.alloc (.cells (madeCells #[.slice none 0 0] n) 51)) #[] := by
 have eb : Tryz.t51.bytes = 24 := by kernel_rfl
 have hm := run_make (P := Tryz.prog) w 56 51 Tryz.t51 (.slice none 0 0) Tryz.underlying56 Tryz.type51 (by kernel_rfl) .i64 .i64 (n : Int) (n : Int) (by omega) (by omega) (by rw [eb]; omega) (by omega)
 have hme := events_make (P := Tryz.prog) w 56 51 Tryz.t51 (.slice none 0 0) Tryz.underlying56 Tryz.type51 (by kernel_rfl) .i64 .i64 (n : Int) (n : Int) (by omega) (by omega) (by rw [eb]; omega) (by omega) (by rw [eb]; omega) #[]
 have es : Tryz.t51.size = 1 := by kernel_rfl
 rw [es] at hm
 have hr : (execOp a.eval o).run Tryz.prog w = .ok (.value (.slice (some ⟨w.heap.size, 0, none⟩) n n)) (w.alloc (.cells (madeCells #[.slice none 0 0] n) 51)) := by
   unfold execOp
   simp only [hop, hx, hy]
   simp [go_sem, hm, Value.cells]
 have he : (execOp a.eval o).events Tryz.prog w #[] = #[] := by
   unfold execOp
   simp only [hop, hx, hy]
   simp [go_sem, hme]
 rw [stepG_value ho (by simp [Region.wanted, hg]) (by decide) hr]
 unfold listed
 rw [he, seen_none]
theorem loads {ty : TypeId} {x : Operand} (ho : ops[k]? = some o) (hg : o.guard = none) (hop : o.op = .load ty x) (hty : ∀ w, (isAgg ty).run Tryz.prog w = .ok false w) {ad : Addr} {v : Value} (hx : a.eval x = .pointer (some ad)) (hc : w.cell? ad = some v) :
   stepG Tryz.prog true (G (bs.at a (.inRegion ops (k :: rest) :: kk)) cs) w = .go (G (bs.at (a.put o.dst v) (.inRegion ops rest :: kk)) cs) w #[⟨.cell ad, false, false⟩] := by
 have hr : (execOp a.eval o).run Tryz.prog w = .ok (.value v) w := by
   unfold execOp
   simp only [hop, hx]
   simp [go_sem, hty, hc]
 have he : (execOp a.eval o).events Tryz.prog w #[] = #[⟨.cell ad, false, false⟩] := by
   unfold execOp
   simp only [hop, hx]
   simp [go_sem, hty, hc]
 rw [stepG_value ho (by simp [Region.wanted, hg]) (by decide) hr]
 unfold listed
 rw [he, seen_eq louds (by simp)]
theorem store1 {x y : Operand} (ho : ops[k]? = some o) (hg : o.guard = none) (hop : o.op = .store 56 x y) {ad : Addr} {u : Value} (hx : a.eval x = .pointer (some ad)) {sa : Option Addr} {sl sc : Nat} (hy : a.eval y = .slice sa sl sc) (hc : w.cell? ad = some u) (hz : w.frozen? ad = false) :
   stepG Tryz.prog true (G (bs.at a (.inRegion ops (k :: rest) :: kk)) cs) w = .go (G (bs.at (a.put o.dst undef) (.inRegion ops rest :: kk)) cs) (w.setCell ad (.slice sa sl sc)) #[⟨.cell ad, true, false⟩] := by
 have hr : (execOp a.eval o).run Tryz.prog w = .ok .skip (w.setCell ad (.slice sa sl sc)) := by
   unfold execOp
   simp only [hop, hx, hy]
   simp [go_sem, stored, hc, hz]
 have he : (execOp a.eval o).events Tryz.prog w #[] = #[⟨.cell ad, true, false⟩] := by
   unfold execOp
   simp only [hop, hx, hy]
   have hst : ∀ es, (store ad (.slice sa sl sc)).events Tryz.prog w es = storedEv Tryz.prog w es ad (.slice sa sl sc) .plain := fun es => events_store Tryz.prog w es ad (.slice sa sl sc) .plain rfl
   simp [go_sem, hst, storedEv, hc, hz]
 rw [stepG_none ho (by simp [Region.wanted, hg]) (by decide) hr]
 unfold listed
 rw [he, seen_eq louds (by simp)]
theorem store2 {x y : Operand} (ho : ops[k]? = some o) (hg : o.guard = none) (hop : o.op = .store 3 x y) {ad : Addr} {u : Value} (hx : a.eval x = .pointer (some ad)) {m : Int} (hy : a.eval y = .int .i64 m) (hc : w.cell? ad = some u) (hz : w.frozen? ad = false) :
   stepG Tryz.prog true (G (bs.at a (.inRegion ops (k :: rest) :: kk)) cs) w = .go (G (bs.at (a.put o.dst undef) (.inRegion ops rest :: kk)) cs) (w.setCell ad (.int .i64 m)) #[⟨.cell ad, true, false⟩] := by
 have hr : (execOp a.eval o).run Tryz.prog w = .ok .skip (w.setCell ad (.int .i64 m)) := by
   unfold execOp
   simp only [hop, hx, hy]
   simp [go_sem, stored, hc, hz]
 have he : (execOp a.eval o).events Tryz.prog w #[] = #[⟨.cell ad, true, false⟩] := by
   unfold execOp
   simp only [hop, hx, hy]
   simp [go_sem, storedEv, hc, hz]
 rw [stepG_none ho (by simp [Region.wanted, hg]) (by decide) hr]
 unfold listed
 rw [he, seen_eq louds (by simp)]
theorem vals {v : Value} (ho : ops[k]? = some o) (hg : o.guard = none) (hr : (execOp a.eval o).run Tryz.prog w = .ok (.value v) w) (he : (execOp a.eval o).events Tryz.prog w #[] = #[]) :
   stepG Tryz.prog true (G (bs.at a (.inRegion ops (k :: rest) :: kk)) cs) w = .go (G (bs.at (a.put o.dst v) (.inRegion ops rest :: kk)) cs) w #[] := by
 rw [stepG_value ho (by simp [Region.wanted, hg]) (by decide) hr]
 unfold listed
 rw [he, seen_none]
end
end Crw
end Go.Proofs.YthgelfnflafoiabGreat
namespace Go.Proofs.YthgelfnflafoiabGreat
namespace Crw
open Go.Conc Go.ConcN Go.RowKit Go.Conc.Lib Go.ConcR.Gen Go.ConcN.Gen Sim
open Go.ConcR (KK wgBlock WgAt stA smA rd wr mk Payload DC0)
theorem at2 (w : World) (d d' : Nat) : (w.at d).at d' = w.at d' := rfl
theorem size_at2 (w : World) (d : Nat) : (w.at d).heap.size = w.heap.size := rfl
theorem alloc_at2 (w : World) (d : Nat) (o : Obj) : (w.at d).alloc o = (w.alloc o).at d := rfl
theorem setCell_at2 (w : World) (d : Nat) (a : Addr) (v : Value) : (w.at d).setCell a v = (w.setCell a v).at d := rfl
theorem heap_new (w : World) (o : Obj) : (w.alloc o).heap[w.heap.size]? = some o := by
 show (w.heap.push o)[w.heap.size]? = some o
 simp
theorem heap_old (w : World) (o : Obj) {b : Nat} (h : b < w.heap.size) : (w.alloc o).heap[b]? = w.heap[b]? := by
 show (w.heap.push o)[b]? = w.heap[b]?
 rw [Array.getElem?_push_lt h, Array.getElem?_eq_getElem h]
noncomputable def bodys : Code := Tryz.f20.body.getD .skip
section
variable (w : World) (n : Nat) (na pa : Option Addr) (nl nc pl pc : Nat)
def Wa1 : World := w.alloc (.cells #[.slice na nl nc] 51)
def Wa2 : World := (Wa1 w na nl nc).alloc (.cells #[.slice pa pl pc] 53)
def Wa3 : World := (Wa2 w na pa nl nc pl pc).alloc (.cells #[.int .i64 n] 3)
def Wa4 : World := (Wa3 w n na pa nl nc pl pc).alloc (.cells (madeCells #[.slice none 0 0] n) 51)
def Wa5 : World := (Wa4 w n na pa nl nc pl pc).alloc (.cells #[.slice none 0 0] 56)
def Wa6 : World := (Wa5 w n na pa nl nc pl pc).setCell ⟨w.heap.size + 4, 0, none⟩ (.slice (some ⟨w.heap.size + 3, 0, none⟩) n n)
def Wa7 : World := (Wa6 w n na pa nl nc pl pc).alloc (.cells #[.int .u64 0, .int .u32 0] 90)
theorem sz1 : (Wa1 w na nl nc).heap.size = w.heap.size + 1 := by simp [Wa1]
theorem sz2 : (Wa2 w na pa nl nc pl pc).heap.size = w.heap.size + 2 := by simp [Wa2, sz1]
theorem sz3 : (Wa3 w n na pa nl nc pl pc).heap.size = w.heap.size + 3 := by simp [Wa3, sz2]
theorem sz4 : (Wa4 w n na pa nl nc pl pc).heap.size = w.heap.size + 4 := by simp [Wa4, sz3]
theorem sz5 : (Wa5 w n na pa nl nc pl pc).heap.size = w.heap.size + 5 := by simp [Wa5, sz4]
theorem sz6 : (Wa6 w n na pa nl nc pl pc).heap.size = w.heap.size + 5 := by rw [Wa6, (aside_setCell _ _ _).size, sz5]
theorem sz7 : (Wa7 w n na pa nl nc pl pc).heap.size = w.heap.size + 6 := by simp [Wa7, sz6]
end
noncomputable def opsA : Array Oper := match bodys with
 | .seq _ (.seq _ (.seq (.region _ ops _) _)) => ops
 | _ => #[]
noncomputable def codeA : Code := match bodys with
 | .seq _ (.seq _ (.seq _ c)) => c
 | _ => .skip
section
variable {SB : Nat -> Prop} {w : World} {n : Nat} {na pa : Option Addr} {nl nc pl pc : Nat} {cs : List Frame}
theorem df_alloc {X : World} {o : Obj} {d : Nat} : DF SB (X.at d) ((X.alloc o).at d) #[] := ⟨by show X.heap.size <= (X.alloc o).heap.size; simp, by simp⟩
theorem df_cell {X Y : World} {ad : Addr} {wr : Bool} {d : Nat} (hs : Y.heap.size = X.heap.size) (h1 : ¬ SB ad.block) (h2 : ad.block < X.heap.size) : DF SB (X.at d) (Y.at d) #[⟨.cell ad, wr, false⟩] := by
 refine ⟨by show X.heap.size <= Y.heap.size; omega, fun e he => ?_⟩
 rw [Array.mem_singleton] at he
 subst he
 refine ⟨fun x hx => ?_, by simp, by simp, fun x hx => ?_⟩ <;> simp only [Go.ConcR.ofEvent_cell, MemAct.touch?, Option.some.injEq] at hx <;> subst hx
 · rintro ⟨a1, e1, e2⟩
   cases e1
   exact h1 e2
 · show ad.block < Y.heap.size
   omega
def slA (N n : Nat) (na pa : Option Addr) (nl nc pl pc : Nat) : Array Value := #[.slice na nl nc, .slice pa pl pc, .int .i64 n, .pointer (some ⟨N, 0, none⟩), .pointer (some ⟨N + 1, 0, none⟩), .pointer (some ⟨N + 2, 0, none⟩), .slice none 0 0, .pointer (some ⟨N + 4, 0, none⟩), undef, undef, .int .i64 n, .slice (some ⟨N + 3, 0, none⟩) n n, undef, undef, undef, undef, undef, undef, undef, undef, undef]
theorem c3 (w : World) (n : Nat) (na pa : Option Addr) (nl nc pl pc : Nat) : (Wa3 w n na pa nl nc pl pc).cell? ⟨w.heap.size + 2, 0, none⟩ = some (.int .i64 n) := by
 have := sz2 w na pa nl nc pl pc
 rw [Wa3, <- this]
 simp only [World.cell?]
 rw [heap_new]
 rfl
theorem c5 (w : World) (n : Nat) (na pa : Option Addr) (nl nc pl pc : Nat) : (Wa5 w n na pa nl nc pl pc).cell? ⟨w.heap.size + 4, 0, none⟩ = some (.slice none 0 0) /\ (Wa5 w n na pa nl nc pl pc).frozen? ⟨w.heap.size + 4, 0, none⟩ = false := by
 have := sz4 w n na pa nl nc pl pc
 rw [Wa5, <- this]
 simp only [World.cell?, World.frozen?]
 rw [heap_new]
 exact ⟨rfl, rfl⟩
theorem h7 (w : World) (n : Nat) (na pa : Option Addr) (nl nc pl pc : Nat) : (Wa7 w n na pa nl nc pl pc).heap[w.heap.size]? = some (.cells #[.slice na nl nc] 51) /\ (Wa7 w n na pa nl nc pl pc).heap[w.heap.size + 1]? = some (.cells #[.slice pa pl pc] 53) /\
   (Wa7 w n na pa nl nc pl pc).heap[w.heap.size + 2]? = some (.cells #[.int .i64 n] 3) /\ (Wa7 w n na pa nl nc pl pc).heap[w.heap.size + 3]? = some (.cells (madeCells #[.slice none 0 0] n) 51) /\
   (Wa7 w n na pa nl nc pl pc).heap[w.heap.size + 4]? = some (.cells #[.slice (some ⟨w.heap.size + 3, 0, none⟩) n n] 56) /\ (Wa7 w n na pa nl nc pl pc).heap[w.heap.size + 5]? = some (.cells #[.int .u64 0, .int .u32 0] 90) /\
   ∀ b, b < w.heap.size -> (Wa7 w n na pa nl nc pl pc).heap[b]? = w.heap[b]? := by
 have s1 := sz1 w na nl nc; have s2 := sz2 w na pa nl nc pl pc; have s3 := sz3 w n na pa nl nc pl pc; have s4 := sz4 w n na pa nl nc pl pc; have s5 := sz5 w n na pa nl nc pl pc; have s6 := sz6 w n na pa nl nc pl pc
 have o6 : ∀ b, b < w.heap.size + 5 -> (Wa7 w n na pa nl nc pl pc).heap[b]? = (Wa6 w n na pa nl nc pl pc).heap[b]? := fun b hb => heap_old _ _ (by omega)
 have o5 : ∀ b, b ≠ w.heap.size + 4 -> (Wa6 w n na pa nl nc pl pc).heap[b]? = (Wa5 w n na pa nl nc pl pc).heap[b]? := fun b hb => (aside_setCell _ _ _).block b hb
 have o4 : ∀ b, b < w.heap.size + 4 -> (Wa5 w n na pa nl nc pl pc).heap[b]? = (Wa4 w n na pa nl nc pl pc).heap[b]? := fun b hb => heap_old _ _ (by omega)
 have o3 : ∀ b, b < w.heap.size + 3 -> (Wa4 w n na pa nl nc pl pc).heap[b]? = (Wa3 w n na pa nl nc pl pc).heap[b]? := fun b hb => heap_old _ _ (by omega)
 have o2 : ∀ b, b < w.heap.size + 2 -> (Wa3 w n na pa nl nc pl pc).heap[b]? = (Wa2 w na pa nl nc pl pc).heap[b]? := fun b hb => heap_old _ _ (by omega)
 have o1 : ∀ b, b < w.heap.size + 1 -> (Wa2 w na pa nl nc pl pc).heap[b]? = (Wa1 w na nl nc).heap[b]? := fun b hb => heap_old _ _ (by omega)
 have o0 : ∀ b, b < w.heap.size -> (Wa1 w na nl nc).heap[b]? = w.heap[b]? := fun b hb => heap_old _ _ hb
 refine ⟨?_, ?_, ?_, ?_, ?_, ?_, fun b hb => ?_⟩
 · rw [o6 _ (by omega), o5 _ (by omega), o4 _ (by omega), o3 _ (by omega), o2 _ (by omega), o1 _ (by omega)]; exact heap_new _ _
 · rw [o6 _ (by omega), o5 _ (by omega), o4 _ (by omega), o3 _ (by omega), o2 _ (by omega), <- s1]; exact heap_new _ _
 · rw [o6 _ (by omega), o5 _ (by omega), o4 _ (by omega), o3 _ (by omega), <- s2]; exact heap_new _ _
 · rw [o6 _ (by omega), o5 _ (by omega), o4 _ (by omega), <- s3]; exact heap_new _ _
 · rw [o6 _ (by omega)]
   have e5 : (Wa5 w n na pa nl nc pl pc).heap[w.heap.size + 4]? = some (.cells #[.slice none 0 0] 56 (0, 0)) := by rw [<- s4]; exact heap_new _ _
   rw [Wa6, setCell_eq_setRow _ (w.heap.size + 4) 0 _ _ (0, 0) _ e5, setRow_heap _ (w.heap.size + 4) _ _ _ _ e5]
   simp
 · rw [<- s6]; exact heap_new _ _
 · rw [o6 _ (by omega), o5 _ (by omega), o4 _ (by omega), o3 _ (by omega), o2 _ (by omega), o1 _ (by omega), o0 _ hb]
theorem c7 (w : World) (n : Nat) (na pa : Option Addr) (nl nc pl pc : Nat) : (Wa7 w n na pa nl nc pl pc).cell? ⟨w.heap.size + 2, 0, none⟩ = some (.int .i64 n) := by
 simp only [World.cell?, (h7 w n na pa nl nc pl pc).2.2.1]
 rfl
set_option maxRecDepth 20000 in
theorem walkA (hSB : ∀ b, SB b -> b < w.heap.size) (hn : n <= 64) (d0 : Nat) :
   Goes Tryz.prog true AtRel (DF SB) (fun g w' => ∃ d, w' = (Wa6 w n na pa nl nc pl pc).at d /\ g = G (bs.at ⟨slA w.heap.size n na pa nl nc pl pc, []⟩ [.inRegion opsA [0], .code codeA]) cs) 20
     (G (bs.at ⟨#[.slice na nl nc, .slice pa pl pc, .int .i64 n, undef, undef, undef, undef, undef, undef, undef, undef, undef, undef, undef, undef, undef, undef, undef, undef, undef, undef], []⟩ [.code bodys]) cs) (w.at d0) := by
 have hno : ∀ b, w.heap.size <= b -> ¬ SB b := fun b hb hs => by have := hSB b hs; omega
 simp only [bodys, Tryz.f20, Option.getD_some]
 (refine Goes.step rfl (fun _ hq => ?_); obtain ⟨d, rfl⟩ := hq; simp only [at2]; rw [stepG_seq]; simp only [goes_go]; refine ⟨df_nil, ?_⟩)
 (refine Goes.step rfl (fun _ hq => ?_); obtain ⟨d, rfl⟩ := hq; simp only [at2]; rw [stepG_region]; simp only [goes_go, List.size_toArray, List.length_cons, List.length_nil, Nat.zero_add]; (try simp only [Nat.reduceAdd]); simp only [List.range, List.range.loop]; refine ⟨df_nil, ?_⟩)
 (refine Goes.step rfl (fun _ hq => ?_); obtain ⟨d, rfl⟩ := hq; simp only [at2]; rw [box1 rfl rfl rfl rfl]; simp only [goes_go, size_at2, alloc_at2]; refine ⟨df_alloc, ?_⟩; walk_nrm; rw [show w.alloc (.cells #[.slice na nl nc] 51) = Wa1 w na nl nc from rfl])
 (refine Goes.step rfl (fun _ hq => ?_); obtain ⟨d, rfl⟩ := hq; simp only [at2]; rw [box2 rfl rfl rfl rfl]; simp only [goes_go, size_at2, alloc_at2]; refine ⟨df_alloc, ?_⟩; walk_nrm; rw [sz1, show (Wa1 w na nl nc).alloc (.cells #[.slice pa pl pc] 53) = Wa2 w na pa nl nc pl pc from rfl])
 (refine Goes.step rfl (fun _ hq => ?_); obtain ⟨d, rfl⟩ := hq; simp only [at2]; rw [box3 rfl rfl rfl rfl]; simp only [goes_go, size_at2, alloc_at2]; refine ⟨df_alloc, ?_⟩; walk_nrm; rw [sz2, show (Wa2 w na pa nl nc pl pc).alloc (.cells #[.int .i64 n] 3) = Wa3 w n na pa nl nc pl pc from rfl])
 (refine Goes.step rfl (fun _ hq => ?_); obtain ⟨d, rfl⟩ := hq; simp only [at2]; rw [vals rfl rfl (v := .slice none 0 0) (by unfold execOp; simp [go_sem]) (by unfold execOp; simp [go_sem])]; simp only [goes_go]; refine ⟨df_nil, ?_⟩; walk_nrm; skip)
 (refine Goes.step rfl (fun _ hq => ?_); obtain ⟨d, rfl⟩ := hq; simp only [at2]; rw [stepG_region_end]; simp only [goes_go]; refine ⟨df_nil, ?_⟩)
 (refine Goes.step rfl (fun _ hq => ?_); obtain ⟨d, rfl⟩ := hq; simp only [at2]; rw [stepG_seq]; simp only [goes_go]; refine ⟨df_nil, ?_⟩)
 (refine Goes.step rfl (fun _ hq => ?_); obtain ⟨d, rfl⟩ := hq; simp only [at2]; rw [stepG_region]; simp only [goes_go, List.size_toArray, List.length_cons, List.length_nil, Nat.zero_add]; (try simp only [Nat.reduceAdd]); simp only [List.range, List.range.loop]; refine ⟨df_nil, ?_⟩)
 (refine Goes.step rfl (fun _ hq => ?_); obtain ⟨d, rfl⟩ := hq; simp only [at2]; rw [loads (w := (Wa3 w n na pa nl nc pl pc).at d) rfl rfl rfl Tryz.isAgg3 rfl (c3 w n na pa nl nc pl pc)]; simp only [goes_go]; refine ⟨df_cell rfl (hno _ (by simp)) (by rw [sz3]; simp), ?_⟩; walk_nrm; skip)
 (refine Goes.step rfl (fun _ hq => ?_); obtain ⟨d, rfl⟩ := hq; simp only [at2]; rw [made1 rfl rfl rfl hn rfl rfl]; simp only [goes_go, size_at2, alloc_at2]; refine ⟨df_alloc, ?_⟩; walk_nrm; rw [sz3, show (Wa3 w n na pa nl nc pl pc).alloc (.cells (madeCells #[.slice none 0 0] n) 51) = Wa4 w n na pa nl nc pl pc from rfl])
 (refine Goes.step rfl (fun _ hq => ?_); obtain ⟨d, rfl⟩ := hq; simp only [at2]; rw [alloc1 rfl rfl rfl]; simp only [goes_go, size_at2, alloc_at2]; refine ⟨df_alloc, ?_⟩; walk_nrm; rw [sz4, show (Wa4 w n na pa nl nc pl pc).alloc (.cells #[.slice none 0 0] 56) = Wa5 w n na pa nl nc pl pc from rfl])
 (refine Goes.step rfl (fun _ hq => ?_); obtain ⟨d, rfl⟩ := hq; simp only [at2]; rw [store1 (w := (Wa5 w n na pa nl nc pl pc).at d) rfl rfl rfl rfl rfl (c5 w n na pa nl nc pl pc).1 (c5 w n na pa nl nc pl pc).2]; simp only [goes_go, setCell_at2]; refine ⟨df_cell (aside_setCell _ _ _).size (hno _ (by simp)) (by rw [sz5]; simp), ?_⟩; walk_nrm; rw [show (Wa5 w n na pa nl nc pl pc).setCell ⟨w.heap.size + 4, 0, none⟩ (.slice (some ⟨w.heap.size + 3, 0, none⟩) n n) = Wa6 w n na pa nl nc pl pc from rfl])
 (refine Goes.step rfl (fun _ hq => ?_); obtain ⟨d, rfl⟩ := hq; simp only [at2]; rw [stepG_region_end]; simp only [goes_go]; refine ⟨df_nil, ?_⟩)
 (refine Goes.step rfl (fun _ hq => ?_); obtain ⟨d, rfl⟩ := hq; simp only [at2]; rw [stepG_seq]; simp only [goes_go]; refine ⟨df_nil, ?_⟩)
 (refine Goes.step rfl (fun _ hq => ?_); obtain ⟨d, rfl⟩ := hq; simp only [at2]; rw [stepG_region]; simp only [goes_go, List.size_toArray, List.length_cons, List.length_nil, Nat.zero_add]; (try simp only [Nat.reduceAdd]); simp only [List.range, List.range.loop]; refine ⟨df_nil, ?_⟩)
 exact Goes.stop (fun w₁ hq => by obtain ⟨d, rfl⟩ := hq; exact ⟨d, rfl, rfl⟩)
end
end Crw
end Go.Proofs.YthgelfnflafoiabGreat
namespace Go.Proofs.YthgelfnflafoiabGreat
namespace Crw
open Go.Conc Go.ConcN Go.RowKit Go.Conc.Lib Go.ConcR.Gen Go.ConcN.Gen Sim
open Go.ConcR (KK wgBlock WgAt stA smA rd wr mk Payload DC0)
noncomputable def codeL : Code := match codeA with
 | .seq (.seq _ (.block _ (.loop c))) _ => c
 | _ => .skip
noncomputable def codeE : Code := match codeA with
 | .seq _ c => c
 | _ => .skip
def slH (N n : Nat) (j : Int) (na pa : Option Addr) (nl nc pl pc : Nat) (x9 x14 x15 x16 x17 x18 : Value) : Array Value := #[.slice na nl nc, .slice pa pl pc, .int .i64 n, .pointer (some ⟨N, 0, none⟩), .pointer (some ⟨N + 1, 0, none⟩), .pointer (some ⟨N + 2, 0, none⟩), .slice none 0 0, .pointer (some ⟨N + 4, 0, none⟩), .pointer (some ⟨N + 5, 0, none⟩), x9, .int .i64 n, .slice (some ⟨N + 3, 0, none⟩) n n, .int .i64 n, .int .i64 j, x14, x15, x16, x17, x18, undef, undef]
section
variable {SB : Nat -> Prop} {w : World} {N n : Nat} {na pa : Option Addr} {nl nc pl pc : Nat} {cs : List Frame}
noncomputable def recH (N n : Nat) (j : Int) (na pa : Option Addr) (nl nc pl pc : Nat) (cs : List Frame) (x9 x14 x15 x16 x17 x18 : Value) : Goroutine :=
 G (bs.at ⟨slH N n j na pa nl nc pl pc x9 x14 x15 x16 x17 x18, []⟩ [.code codeL, .inLoop codeL, .inBlock 0, .code codeE]) cs
set_option maxRecDepth 20000 in
theorem walkB (hSB : ∀ b, SB b -> b < w.heap.size \/ b = w.heap.size + 5) (d0 : Nat) :
   Goes Tryz.prog true AtRel (DF SB) (fun g w' => ∃ d, w' = (Wa7 w n na pa nl nc pl pc).at d /\ g = recH w.heap.size n 0 na pa nl nc pl pc cs undef undef undef undef undef undef) 20
     (G (bs.at ⟨(slA w.heap.size n na pa nl nc pl pc).setIfInBounds 8 (.pointer (some ⟨w.heap.size + 5, 0, none⟩)), []⟩ [.inRegion opsA [], .code codeA]) cs) ((Wa7 w n na pa nl nc pl pc).at d0) := by
 have hno : ¬ SB (w.heap.size + 2) := fun hs => by have := hSB _ hs; omega
 have hc : (Wa7 w n na pa nl nc pl pc).cell? ⟨w.heap.size + 2, 0, none⟩ = some (.int .i64 n) := c7 w n na pa nl nc pl pc
 simp only [slA, opsA, codeA, bodys, Tryz.f20, Option.getD_some]
 walk_nrm
 (refine Goes.step rfl (fun _ hq => ?_); obtain ⟨d, rfl⟩ := hq; simp only [at2]; rw [stepG_region_end]; simp only [goes_go]; refine ⟨df_nil, ?_⟩)
 (refine Goes.step rfl (fun _ hq => ?_); obtain ⟨d, rfl⟩ := hq; simp only [at2]; rw [stepG_seq]; simp only [goes_go]; refine ⟨df_nil, ?_⟩)
 (refine Goes.step rfl (fun _ hq => ?_); obtain ⟨d, rfl⟩ := hq; simp only [at2]; rw [stepG_seq]; simp only [goes_go]; refine ⟨df_nil, ?_⟩)
 (refine Goes.step rfl (fun _ hq => ?_); obtain ⟨d, rfl⟩ := hq; simp only [at2]; rw [stepG_region]; simp only [goes_go, List.size_toArray, List.length_cons, List.length_nil, Nat.zero_add]; (try simp only [Nat.reduceAdd]); simp only [List.range, List.range.loop]; refine ⟨df_nil, ?_⟩)
 (refine Goes.step rfl (fun _ hq => ?_); obtain ⟨d, rfl⟩ := hq; simp only [at2]; rw [loads (w := (Wa7 w n na pa nl nc pl pc).at d) rfl rfl rfl Tryz.isAgg3 rfl hc]; simp only [goes_go]; refine ⟨df_cell rfl hno (by rw [sz7]; simp), ?_⟩; walk_nrm)
 (refine Goes.step rfl (fun _ hq => ?_); obtain ⟨d, rfl⟩ := hq; simp only [at2]; rw [vals rfl rfl (v := .int .i64 0) (by unfold execOp; simp [go_sem]) (by unfold execOp; simp [go_sem])]; simp only [goes_go]; refine ⟨df_nil, ?_⟩; walk_nrm)
 (refine Goes.step rfl (fun _ hq => ?_); obtain ⟨d, rfl⟩ := hq; simp only [at2]; rw [stepG_region_end]; simp only [goes_go]; refine ⟨df_nil, ?_⟩)
 (refine Goes.step rfl (fun _ hq => ?_); obtain ⟨d, rfl⟩ := hq; simp only [at2]; rw [stepG_block]; simp only [goes_go]; refine ⟨df_nil, ?_⟩)
 (refine Goes.step rfl (fun _ hq => ?_); obtain ⟨d, rfl⟩ := hq; simp only [at2]; rw [stepG_loop]; simp only [goes_go]; refine ⟨df_nil, ?_⟩)
 exact Goes.stop (fun w₁ hq => by obtain ⟨d, rfl⟩ := hq; exact ⟨d, rfl, rfl⟩)
end
noncomputable def recW (N n : Nat) (na pa : Option Addr) (nl nc pl pc : Nat) (cs : List Frame) (x9 x14 x15 x16 x17 x18 : Value) : Goroutine :=
 match codeE with
 | .seq (.region _ ops _) c => G (bs.at ⟨(slH N n n na pa nl nc pl pc x9 x14 x15 x16 x17 x18).setIfInBounds 19 (.tuple #[]), []⟩ [.inRegion ops [], .code c]) cs
 | _ => default
noncomputable def recC (N n : Nat) (na pa : Option Addr) (nl nc pl pc : Nat) (x9 x14 x15 x16 x17 x18 : Value) : Frame :=
 match codeE with
 | .seq (.region _ ops _) c => bs.at ⟨slH N n n na pa nl nc pl pc x9 x14 x15 x16 x17 x18, []⟩ [.inRegion ops [0], .code c]
 | _ => default
section
variable {SB : Nat -> Prop} {N n : Nat} {na pa : Option Addr} {nl nc pl pc : Nat} {cs : List Frame} {x9 x14 x15 x16 x17 x18 : Value}
set_option maxRecDepth 100000 in
theorem head0 (w : World) (hF : WgLive lk.tWg (N + 5) w) : Goes Tryz.prog true (R0 lk.tWg (N + 5)) (D0 (N + 5)) (AtKd Tryz.prog lk.tWg (N + 5) (Anch0 lk (N + 5) (recC N n na pa nl nc pl pc x9 (.bool false) x15 x16 x17 x18) cs)) 13 (recH N n n na pa nl nc pl pc cs x9 x14 x15 x16 x17 x18) w := by
 simp only [recH, recC, slH, codeL, codeE, codeA, bodys, Tryz.f20, Option.getD_some]
 iterate 2 (refine Goes.step rfl (fun _ hq => ?_); replace hF := hq hF; clear hq; first | (rw [stepG_seq]; simp only [goes_go]; refine ⟨d0_nil, ?_⟩) | (rw [stepG_region]; simp only [goes_go, List.size_toArray, List.length_cons, List.length_nil, Nat.zero_add]; (try simp only [Nat.reduceAdd]); simp only [List.range, List.range.loop]; refine ⟨d0_nil, ?_⟩))
 (refine Goes.step rfl (fun _ hq => ?_); replace hF := hq hF; clear hq; rw [vals rfl rfl (v := .bool false) (by unfold execOp; simp [go_sem, Act.eval]) (by unfold execOp; simp [go_sem, Act.eval])]; simp only [goes_go]; refine ⟨d0_nil, ?_⟩; walk_nrm)
 iterate 2 (refine Goes.step rfl (fun _ hq => ?_); replace hF := hq hF; clear hq; first | (rw [stepG_seq]; simp only [goes_go]; refine ⟨d0_nil, ?_⟩) | (rw [stepG_region_end]; simp only [goes_go]; refine ⟨d0_nil, ?_⟩))
 (refine Goes.step rfl (fun _ hq => ?_); replace hF := hq hF; clear hq; rw [stepG_cond (t := false) rfl]; simp only [goes_go, Bool.false_eq_true, ↓reduceIte]; refine ⟨d0_nil, ?_⟩)
 (refine Goes.step rfl (fun _ hq => ?_); replace hF := hq hF; clear hq; refine goes_exit rfl ?_; refine ⟨d0_nil, ?_⟩)
 iterate 2 (refine Goes.step rfl (fun _ hq => ?_); replace hF := hq hF; clear hq; first | (rw [stepG_seq]; simp only [goes_go]; refine ⟨d0_nil, ?_⟩) | (rw [stepG_region]; simp only [goes_go, List.size_toArray, List.length_cons, List.length_nil, Nat.zero_add]; (try simp only [Nat.reduceAdd]); simp only [List.range, List.range.loop]; refine ⟨d0_nil, ?_⟩))
 have hW := @waitStart0 lk Tryz.prog (N + 5)
 (refine Goes.step rfl (fun _ hq => ?_); replace hF := hq hF; clear hq; refine goes_call rfl rfl (by k_ne) rfl Tryz.func37 (nm_wait lk) rfl ⟨d0_nil, ?_⟩)
 have h3 := hW (c := recC N n na pa nl nc pl pc x9 (.bool false) x15 x16 x17 x18) (cs := cs) lk_lib _ hF
 simp only [recC, slH, codeE, codeA, bodys, Tryz.f20, Option.getD_some, body_wait, waitFn] at h3
 walk_nrmf Tryz.f37
 exact h3
end
end Crw
end Go.Proofs.YthgelfnflafoiabGreat
namespace Go.Proofs.YthgelfnflafoiabGreat
namespace Crw
open Go.Conc Go.ConcN Go.RowKit Go.Conc.Lib Go.ConcR.Gen Go.ConcN.Gen Sim
open Go.ConcR (KK wgBlock WgAt stA smA rd wr mk Payload DC0)
theorem goes_imp {P : Program} {main : Bool} {R : World → World → Prop} {D : World → World → Array Event → Prop} {Stop Stop' : Goroutine → World → Prop} (h : ∀ g w, Stop g w → Stop' g w) : ∀ {n : Nat} {g : Goroutine} {w : World}, Goes P main R D Stop n g w → Goes P main R D Stop' n g w
 | 0, _, _, hg => fun w₁ r => h _ _ (hg w₁ r)
 | n + 1, g, w, hg => by
   rcases hg with hg | ⟨hs, hg⟩
   · exact .inl fun w₁ r => h _ _ (hg w₁ r)
   · refine .inr ⟨hs, fun w₁ r => ?_⟩
     have := hg w₁ r
     revert this
     cases stepG P main g w₁ <;> simp only [GStep.goes, imp_self]
     exact fun ⟨d, x⟩ => ⟨d, goes_imp h x⟩
section
variable {P : Program} {ty : TypeId} {Wg : Nat} {A A' : Goroutine → World → Prop} {O O' : Goroutine → Prop}
theorem AtAcq.imp (h : ∀ g, O g → O' g) (g : Goroutine) (w : World) (x : AtAcq P Wg O g w) : AtAcq P Wg O' g w := let ⟨a, g', b, c⟩ := x; ⟨a, g', b, h g' c⟩
theorem AtKe.imp (h : ∀ g, O g → O' g) (g : Goroutine) (w : World) (x : AtKe P ty Wg O g w) : AtKe P ty Wg O' g w := let ⟨a, g', b, m, c⟩ := x; ⟨a, g', b, m, goes_imp (AtAcq.imp h) c⟩
theorem AtW4.imp (h : ∀ g, O g → O' g) (g : Goroutine) (w : World) (x : AtW4 P ty Wg O g w) : AtW4 P ty Wg O' g w := ⟨x.1, fun hw => let ⟨g', b, m, c⟩ := x.2 hw; ⟨g', b, m, goes_imp (AtKe.imp h) c⟩⟩
theorem AtW3.imp (h : ∀ g, O g → O' g) (g : Goroutine) (w : World) (x : AtW3 P ty Wg O g w) : AtW3 P ty Wg O' g w := ⟨x.1, x.2.1, x.2.2.1, fun hw => let ⟨g', b, m, c⟩ := x.2.2.2 hw; ⟨g', b, m, goes_imp (AtW4.imp h) c⟩⟩
theorem AtW2.imp (hA : ∀ g w, A g w → A' g w) (h : ∀ g, O g → O' g) {vs : Nat} (g : Goroutine) (w : World) (x : AtW2 P ty Wg A O vs g w) : AtW2 P ty Wg A' O' vs g w :=
 ⟨x.1, fun v hv hw => ⟨fun e => let ⟨g', b, m, c⟩ := (x.2 v hv hw).1 e; ⟨g', b, m, goes_imp (AtW3.imp h) c⟩, fun e => let ⟨g', b, m, c⟩ := (x.2 v hv hw).2 e; ⟨g', b, m, goes_imp hA c⟩⟩⟩
theorem AtW1.imp (hA : ∀ g w, A g w → A' g w) (h : ∀ g, O g → O' g) (g : Goroutine) (w : World) (x : AtW1 P ty Wg A O g w) : AtW1 P ty Wg A' O' g w :=
 ⟨x.1, fun v hv hw => let ⟨g', b, c, d⟩ := x.2 v hv hw; ⟨g', b, fun e => let ⟨m, z⟩ := c e; ⟨m, goes_imp (AtKe.imp h) z⟩, fun e => let ⟨m, z⟩ := d e; ⟨m, goes_imp (AtW2.imp hA h) z⟩⟩⟩
theorem AtKd.imp (hA : ∀ g w, A g w → A' g w) (g : Goroutine) (w : World) (x : AtKd P ty Wg A g w) : AtKd P ty Wg A' g w := let ⟨a, g', b, m, c⟩ := x; ⟨a, g', b, m, goes_imp hA c⟩
end
theorem mixedw : Tryz.prog.follows .mixedOrders = true := by kernel_rfl
theorem draww {b : Frame} {a : Act} {k : List Item} {cs : List Frame} {w : World} {id : Nat} {ops : Array Oper} : ∃ t, stepG Tryz.prog false (G (b.at a (.code (.region id ops true) :: k)) cs) w = .go (G (b.at a (.inRegion ops (Region.linearise.go .any ops ops.size t (Array.replicate ops.size false) []) :: k)) cs) (w.at (w.drawn + 1)) #[] := by
 refine ⟨w.tape w.drawn (.order b.fn id), ?_⟩
 have hsch : ∀ t, Region.schedule (Tryz.prog.follows .mixedOrders) ops t = Region.linearise.go .any ops ops.size t (Array.replicate ops.size false) [] := fun t => by
   simp only [Region.schedule, mixedw, Bool.true_or, if_true]
   rfl
 simp [G, stepG, stepG.exec, Frame.at, choose, Sem.run, Question.forced, Question.cut, hsch, World.at]
theorem dn_at {SB : Nat → Prop} {N n i nb : Nat} {w : World} {d : Nat} : Dn SB N n i nb w (w.at d) #[] := ⟨⟨⟨rfl, rfl, rfl⟩, Nat.le_refl _, fun _ _ _ _ => rfl, id, fun _ _ => rfl⟩, rfl, by simp⟩
theorem bornPre {SB : Nat → Prop} {N n i nb : Nat} {news paths : Value} (hSB : ∀ b, SB b → b < N ∨ b = N + 5) (w : World) (hk : Kw N n i nb news paths w) :
   Goes Tryz.prog false (Rn N n i nb) (Dn SB N n i nb) (AtCall N n i nb news paths) 15 (born Tryz.prog (callw N nb)) w := by
 refine Goes.step rfl fun w₁ r₁ => ?_
 replace hk := hk.rely r₁
 rw [bornw, goes_go]
 refine ⟨dn_nil, ?_⟩
 have e1 : bodyw = .seq (.region 0 #[{ dst := none, op := .defer { callee := .value (.func 35), args := #[.tmp 0], argTypes := #[90] }, type := 0, pos := (match bodyw with | .seq (.region _ ops _) _ => (ops[0]?.map (·.pos)).getD "" | _ => ""), after := #[], guard := none }] false) (.region 1 opsw true) := rfl
 rw [e1]
 refine Goes.step rfl fun w₂ r₂ => ?_
 replace hk := hk.rely r₂
 rw [stepG_seq, goes_go]
 refine ⟨dn_nil, Goes.step rfl fun w₃ r₃ => ?_⟩
 replace hk := hk.rely r₃
 rw [stepG_region]
 simp only [goes_go, List.size_toArray, List.length_cons, List.length_nil, Nat.zero_add, List.range, List.range.loop]
 refine ⟨dn_nil, Goes.step rfl fun w₄ r₄ => ?_⟩
 replace hk := hk.rely r₄
 rw [stepG_defer rfl rfl (by decide) rfl]
 simp only [goes_go]
 refine ⟨dn_nil, ?_⟩
 walk_nrm
 refine Goes.step rfl fun w₅ r₅ => ?_
 replace hk := hk.rely r₅
 rw [stepG_region_end, goes_go]
 refine ⟨dn_nil, Goes.step rfl fun w₆ r₆ => ?_⟩
 replace hk := hk.rely r₆
 obtain ⟨t, ht⟩ := draww (b := bw) (a := (⟨#[.pointer (some ⟨N + 5, 0, none⟩), .pointer (some ⟨N, 0, none⟩), .pointer (some ⟨N + 1, 0, none⟩), .pointer (some ⟨nb, 0, none⟩), .pointer (some ⟨N + 2, 0, none⟩), .pointer (some ⟨N + 4, 0, none⟩), undef, undef, undef, undef, undef, undef, undef, undef], dsw N⟩ : Act)) (k := []) (cs := [bot]) (w := w₆) (id := 1) (ops := opsw)
 have hst : ∀ K : Goroutine → World → Array Event → Prop, K (G (bw.at (⟨#[.pointer (some ⟨N + 5, 0, none⟩), .pointer (some ⟨N, 0, none⟩), .pointer (some ⟨N + 1, 0, none⟩), .pointer (some ⟨nb, 0, none⟩), .pointer (some ⟨N + 2, 0, none⟩), .pointer (some ⟨N + 4, 0, none⟩), undef, undef, undef, undef, undef, undef, undef, undef], dsw N⟩ : Act) (.inRegion opsw (Region.linearise.go .any opsw opsw.size t (Array.replicate opsw.size false) []) :: [])) [bot]) (w₆.at (w₆.drawn + 1)) #[] →
     (stepG Tryz.prog false (G (bw.at (⟨#[.pointer (some ⟨N + 5, 0, none⟩), .pointer (some ⟨N, 0, none⟩), .pointer (some ⟨N + 1, 0, none⟩), .pointer (some ⟨nb, 0, none⟩), .pointer (some ⟨N + 2, 0, none⟩), .pointer (some ⟨N + 4, 0, none⟩), undef, undef, undef, undef, undef, undef, undef, undef], dsw N⟩ : Act) [.code (.region 1 opsw true)]) [bot]) w₆).goes K := fun K hK => by
   rw [ht, goes_go]; exact hK
 change (stepG Tryz.prog false (G (bw.at (⟨#[.pointer (some ⟨N + 5, 0, none⟩), .pointer (some ⟨N, 0, none⟩), .pointer (some ⟨N + 1, 0, none⟩), .pointer (some ⟨nb, 0, none⟩), .pointer (some ⟨N + 2, 0, none⟩), .pointer (some ⟨N + 4, 0, none⟩), undef, undef, undef, undef, undef, undef, undef, undef], dsw N⟩ : Act) [.code (.region 1 opsw true)]) [bot]) w₆).goes _
 apply hst
 refine ⟨dn_at, ?_⟩
 have hk7 : Kw N n i nb news paths (w₆.at (w₆.drawn + 1)) := ⟨hk.cN, hk.cP, hk.cW, hk.cB, hk.cI, hk.pay, hk.live⟩
 refine regPre hSB 9 t false false false false false false _ _ rfl hk7 ⟨rfl, rfl, fun k hk => ?_, fun k hk hl => ?_⟩
 · have hc : k = 0 ∨ k = 1 ∨ k = 2 ∨ k = 3 ∨ k = 4 ∨ k = 5 := by omega
   rcases hc with rfl | rfl | rfl | rfl | rfl | rfl <;> rfl
 · have hc : k = 0 ∨ k = 1 ∨ k = 2 ∨ k = 3 ∨ k = 4 ∨ k = 5 := by omega
   rcases hc with rfl | rfl | rfl | rfl | rfl | rfl <;> simp [lis] at hl
end Crw
end Go.Proofs.YthgelfnflafoiabGreat
namespace Go.Proofs.YthgelfnflafoiabGreat
namespace Crw
open Go.Conc Go.ConcN Go.RowKit Go.Conc.Lib Go.ConcR.Gen Go.ConcN.Gen Sim
open Go.ConcR (KK wgBlock WgAt stA smA rd wr mk Payload DC0)
theorem run_mf (P : Program) (fn : Fn) (x y : Array Value) (w : World) : (Instr.makeFunc fn x y).run P w = .ok (.func fn x y) w := rfl
theorem ev_mf (P : Program) (fn : Fn) (x y : Array Value) (w : World) (es : Array Event) : (Instr.makeFunc fn x y).events P w es = es := rfl
abbrev oz : Obj := .cells #[.int .i64 0] 3
abbrev oj (j : Nat) : Obj := .cells #[.int .i64 j] 3
abbrev vj (j : Nat) : Value := .int .i64 j
section
variable (N n : Nat) (na pa : Option Addr) (nl nc pl pc : Nat) (cs : List Frame)
def AnchS (g : Goroutine) (w : World) : Prop := ∃ x9 x15 x16 x17 x18, Anch0 lk (N + 5) (recC N n na pa nl nc pl pc x9 (.bool false) x15 x16 x17 x18) cs g w
def OutS (SB : Nat -> Prop) (g : Goroutine) : Prop := ∃ x9 x15 x16 x17 x18, OutW lk Tryz.prog SB (N + 5) (recW N n na pa nl nc pl pc cs x9 (.bool false) x15 x16 x17 x18) g
theorem anchS_run (g : Goroutine) (w : World) (h : AnchS N n na pa nl nc pl pc cs g w) : g.status = .running := by
 obtain ⟨_, _, _, _, _, T, rfl, _⟩ := h
 rfl
theorem anchS_goes {SB : Nat -> Prop} (g : Goroutine) (w : World) (h : AnchS N n na pa nl nc pl pc cs g w) : ∃ m, Goes Tryz.prog true (R0 lk.tWg (N + 5)) (D0 (N + 5)) (AtW1 Tryz.prog lk.tWg (N + 5) (AnchS N n na pa nl nc pl pc cs) (OutS N n na pa nl nc pl pc cs SB)) m g w := by
 obtain ⟨x9, x15, x16, x17, x18, h⟩ := h
 have e : recC N n na pa nl nc pl pc x9 (.bool false) x15 x16 x17 x18 = bs.at ⟨slH N n n na pa nl nc pl pc x9 (.bool false) x15 x16 x17 x18, []⟩ (.inRegion (match codeE with | .seq (.region _ ops _) _ => ops | _ => #[]) (0 :: []) :: [.code (match codeE with | .seq _ c => c | _ => .skip)]) := rfl
 rw [e] at h
 obtain ⟨m, hm⟩ := waitRound0 (SB := SB) lk_lib g w h
 refine ⟨m, goes_imp (AtW1.imp (fun g w h => ⟨x9, x15, x16, x17, x18, by rw [e]; exact h⟩) (fun g h => ⟨x9, x15, x16, x17, x18, ?_⟩)) hm⟩
 have e2 : recW N n na pa nl nc pl pc cs x9 (.bool false) x15 x16 x17 x18 = G (bs.at ((⟨slH N n n na pa nl nc pl pc x9 (.bool false) x15 x16 x17 x18, []⟩ : Act).put (((match codeE with | .seq (.region _ ops _) _ => ops | _ => #[])[0]?).bind (·.dst)) (.tuple #[])) (.inRegion (match codeE with | .seq (.region _ ops _) _ => ops | _ => #[]) [] :: [.code (match codeE with | .seq _ c => c | _ => .skip)])) cs := rfl
 rw [e2]
 exact h
end
section
variable {S : Program} {F : FuncId -> Bool} {sp sp0 : FuncId} {SB : Nat -> Prop} {N n : Nat} {na pa : Option Addr} {nl nc pl pc : Nat} {ρ0 : Ren} {f0 : World} {argsS : Nat -> Array Value} {cs : List Frame} {w0 : World}
def StopS (W : WHyp S F sp sp0 SB N n (.slice na nl nc) (.slice pa pl pc) ρ0 f0 argsS) (cs : List Frame) (w0 : World) : Nat -> Goroutine -> World -> Prop
 | 0 => AtKd Tryz.prog lk.tWg (N + 5) (AnchS N n na pa nl nc pl pc cs)
 | r + 1 => AtNew Tryz.prog lk.tWg (N + 5) n (wspec W) w0 oz oj vj (n - (r + 1)) (Spawns Tryz.prog lk.tWg (N + 5) n (AnchS N n na pa nl nc pl pc cs) (wspec W) w0 oz oj vj r)
theorem spawns_of (W : WHyp S F sp sp0 SB N n (.slice na nl nc) (.slice pa pl pc) ρ0 f0 argsS) {r : Nat} {g : Goroutine} {w : World} (h : ∃ m, Goes Tryz.prog true (R0 lk.tWg (N + 5)) (D0 (N + 5)) (StopS W cs w0 r) m g w) : Spawns Tryz.prog lk.tWg (N + 5) n (AnchS N n na pa nl nc pl pc cs) (wspec W) w0 oz oj vj r g w := by
 cases r with
 | zero => exact h
 | succ r => exact h
theorem spawn1 {a : Act} {w : World} {ops : Array Oper} {o : Oper} {kk : List Item} {cs : List Frame} {N nb : Nat} (ha : a.eval (.tmp 17) = .func (.func 34) #[] #[.pointer (some ⟨N + 5, 0, none⟩), .pointer (some ⟨N, 0, none⟩), .pointer (some ⟨N + 1, 0, none⟩), .pointer (some ⟨nb, 0, none⟩), .pointer (some ⟨N + 2, 0, none⟩), .pointer (some ⟨N + 4, 0, none⟩)])
   (ho : ops[1]? = some o) (hg : o.guard = none) (hd : o.dst = none) (hop : o.op = .go { callee := .value (.tmp 17), args := #[], argTypes := #[] }) :
   stepG Tryz.prog true (G (bs.at a (.inRegion ops (1 :: []) :: kk)) cs) w = .spawn (G (bs.at a (.inRegion ops [] :: kk)) cs) (born Tryz.prog (callw N nb)) w #[] := by
 have hr : (execOp a.eval o).run Tryz.prog w = .ok (.spawn (callw N nb)) w := by
   unfold execOp
   simp [hop, resolve, Deferred.ofValue, ha, callw]
 have he : (execOp a.eval o).events Tryz.prog w #[] = #[] := by
   unfold execOp
   simp [hop, resolve, Deferred.ofValue, ha]
 rw [stepG_spawn (d := callw N nb) (f := .func 34) (c := #[.pointer (some ⟨N + 5, 0, none⟩), .pointer (some ⟨N, 0, none⟩), .pointer (some ⟨N + 1, 0, none⟩), .pointer (some ⟨nb, 0, none⟩), .pointer (some ⟨N + 2, 0, none⟩), .pointer (some ⟨N + 4, 0, none⟩)]) ho (by simp [Region.wanted, hg]) (by decide) hr rfl]
 unfold listed
 rw [he, seen_none]
 simp [Act.put, hd]
theorem nb_cell {w : World} {nb : Nat} (h : w.heap[nb]? = some oz) : w.cell? ⟨nb, 0, none⟩ = some (.int .i64 0) /\ w.frozen? ⟨nb, 0, none⟩ = false := by
 simp only [World.cell?, World.frozen?]
 rw [h]
 exact ⟨rfl, rfl⟩
theorem nb_put {w : World} {nb j : Nat} (h : w.heap[nb]? = some oz) : (w.setCell ⟨nb, 0, none⟩ (vj j)).heap[nb]? = some (oj j) := by
 rw [setCell_eq_setRow w nb 0 _ _ (0, 0) _ h, setRow_heap w nb _ _ _ _ h]
 simp
structure Base (N n : Nat) (na pa : Option Addr) (nl nc pl pc : Nat) (w0 : World) : Prop where
 b0 : w0.heap[N]? = some (.cells #[.slice na nl nc] 51)
 b1 : w0.heap[N + 1]? = some (.cells #[.slice pa pl pc] 53)
 b2 : w0.heap[N + 2]? = some (.cells #[.int .i64 n] 3)
 b4 : w0.heap[N + 4]? = some (.cells #[.slice (some ⟨N + 3, 0, none⟩) n n] 56)
theorem kw_of (B : Base N n na pa nl nc pl pc w0) {i nb : Nat} {w : World} (h1 : w.heap[nb]? = some (oj i)) (h2 : ∀ b, b < N + 6 -> b ≠ N + 5 -> b ≠ N + 3 -> w.heap[b]? = w0.heap[b]?) (h3 : PayAt (N + 3) n w) (h4 : WgLive lk.tWg (N + 5) w) : Kw N n i nb (.slice na nl nc) (.slice pa pl pc) w := by
 have hc : ∀ b c t, w.heap[b]? = some (.cells c t) -> w.cell? ⟨b, 0, none⟩ = c[0]? := fun b c t h => by simp only [World.cell?]; rw [h]; rfl
 exact ⟨by rw [hc N _ _ ((h2 N (by omega) (by omega) (by omega)).trans B.b0)]; rfl, by rw [hc _ _ _ ((h2 (N + 1) (by omega) (by omega) (by omega)).trans B.b1)]; rfl, by rw [hc _ _ _ ((h2 (N + 2) (by omega) (by omega) (by omega)).trans B.b2)]; rfl, by rw [hc _ _ _ ((h2 (N + 4) (by omega) (by omega) (by omega)).trans B.b4)]; rfl, by rw [hc _ _ _ h1]; rfl, h3, h4⟩
theorem live_lt {w : World} (h : WgLive lk.tWg (N + 5) w) : N + 5 < w.heap.size := by
 obtain ⟨st, sm, h⟩ := h
 exact lt_of_cell h.cellSt
set_option maxRecDepth 100000 in
set_option maxHeartbeats 4000000 in
theorem headR (W : WHyp S F sp sp0 SB N n (.slice na nl nc) (.slice pa pl pc) ρ0 f0 argsS) (B : Base N n na pa nl nc pl pc w0) (hρ : ∀ w : World, (∀ b, b < N + 6 -> b ≠ N + 5 -> b ≠ N + 3 -> w.heap[b]? = w0.heap[b]?) -> WRel (Fp F) ρ0 f0 w) (hn : n <= 64) {r : Nat} (hr : r + 1 <= n)
   (IH : ∀ x9 x14 x15 x16 x17 x18, ∃ m, ∀ w, WgLive lk.tWg (N + 5) w -> Goes Tryz.prog true (R0 lk.tWg (N + 5)) (D0 (N + 5)) (StopS W cs w0 r) m (recH N n ((n - (r + 1) : Nat) + 1 : Int) na pa nl nc pl pc cs x9 x14 x15 x16 x17 x18) w) :
   ∀ x9 x14 x15 x16 x17 x18, ∃ m, ∀ w, WgLive lk.tWg (N + 5) w -> Goes Tryz.prog true (R0 lk.tWg (N + 5)) (D0 (N + 5)) (StopS W cs w0 (r + 1)) m (recH N n ((n - (r + 1) : Nat) : Int) na pa nl nc pl pc cs x9 x14 x15 x16 x17 x18) w := by
 intro x9 x14 x15 x16 x17 x18
 obtain ⟨j, hj⟩ : ∃ j, j = n - (r + 1) := ⟨_, rfl⟩
 have hjn : j < n := by omega
 have hlt : (j : Int) < (n : Int) := by omega
 have hwr : IntKind.i64.wrap ((j : Int) + 1) = (j : Int) + 1 := by rw [IntKind.wrap_i64]; omega
 simp only [StopS]
 rw [<- hj] at IH ⊢
 refine ⟨30, fun w hF => ?_⟩
 simp only [recH, slH, codeL, codeE, codeA, bodys, Tryz.f20, Option.getD_some] at IH ⊢
 iterate 2 (refine Goes.step rfl (fun _ hq => ?_); replace hF := hq hF; clear hq; first | (rw [stepG_seq]; simp only [goes_go]; refine ⟨d0_nil, ?_⟩) | (rw [stepG_region]; simp only [goes_go, List.size_toArray, List.length_cons, List.length_nil, Nat.zero_add]; (try simp only [Nat.reduceAdd]); simp only [List.range, List.range.loop]; refine ⟨d0_nil, ?_⟩))
 (refine Goes.step rfl (fun _ hq => ?_); replace hF := hq hF; clear hq; rw [vals rfl rfl (v := .bool true) (by unfold execOp; simp [go_sem, Act.eval, hlt]) (by unfold execOp; simp [go_sem, Act.eval, hlt])]; simp only [goes_go]; refine ⟨d0_nil, ?_⟩; walk_nrm)
 iterate 2 (refine Goes.step rfl (fun _ hq => ?_); replace hF := hq hF; clear hq; first | (rw [stepG_seq]; simp only [goes_go]; refine ⟨d0_nil, ?_⟩) | (rw [stepG_region_end]; simp only [goes_go]; refine ⟨d0_nil, ?_⟩))
 (refine Goes.step rfl (fun _ hq => ?_); replace hF := hq hF; clear hq; rw [stepG_cond (t := true) rfl]; simp only [goes_go, ↓reduceIte]; refine ⟨d0_nil, ?_⟩)
 iterate 2 (refine Goes.step rfl (fun _ hq => ?_); replace hF := hq hF; clear hq; first | (rw [stepG_seq]; simp only [goes_go]; refine ⟨d0_nil, ?_⟩) | (rw [stepG_skip]; simp only [goes_go]; refine ⟨d0_nil, ?_⟩))
 (refine Goes.step rfl (fun _ hq => ?_); replace hF := hq hF; clear hq; rw [stepG_block]; simp only [goes_go]; refine ⟨d0_nil, ?_⟩)
 iterate 2 (refine Goes.step rfl (fun _ hq => ?_); replace hF := hq hF; clear hq; first | (rw [stepG_seq]; simp only [goes_go]; refine ⟨d0_nil, ?_⟩) | (rw [stepG_region]; simp only [goes_go, List.size_toArray, List.length_cons, List.length_nil, Nat.zero_add]; (try simp only [Nat.reduceAdd]); simp only [List.range, List.range.loop]; refine ⟨d0_nil, ?_⟩))
 (refine Goes.step rfl (fun _ hq => ?_); replace hF := hq hF; clear hq; rw [vals rfl rfl (v := .int .i64 j) (by unfold execOp; simp [go_sem, Act.eval]) (by unfold execOp; simp [go_sem, Act.eval])]; simp only [goes_go]; refine ⟨d0_nil, ?_⟩; walk_nrm)
 refine Goes.stop (fun w₁ hq => ?_)
 replace hF := hq hF
 clear hq
 refine ⟨rfl, _, alloc2 rfl rfl rfl, 1, ?_⟩
 have hnb := live_lt hF
 obtain ⟨nb, hnbe⟩ : ∃ nb, nb = w₁.heap.size := ⟨_, rfl⟩
 rw [<- hnbe] at hnb ⊢
 replace hF : WgLive lk.tWg (N + 5) (w₁.alloc oz) := by
   obtain ⟨st, sm, h⟩ := hF
   exact ⟨st, sm, h.of_block (heap_old _ _ (by omega))⟩
 walk_nrm
 refine Goes.stop (fun w₂ h₂ => ?_)
 replace hF := h₂ hF
 clear h₂
 refine ⟨rfl, fun ho => ⟨_, store2 (m := (j : Int)) rfl rfl rfl rfl rfl (nb_cell ho).1 (nb_cell ho).2, nb_put ho, 20, ?_⟩⟩
 replace hF : WgLive lk.tWg (N + 5) (w₂.setCell ⟨nb, 0, none⟩ (vj j)) := by
   obtain ⟨st, sm, h⟩ := hF
   exact ⟨st, sm, h.of_block ((aside_setCell _ _ _).block _ (by show N + 5 ≠ nb; omega))⟩
 clear ho
 walk_nrm
 iterate 3 (refine Goes.step rfl (fun _ hq => ?_); replace hF := hq hF; clear hq; first | (rw [stepG_seq]; simp only [goes_go]; refine ⟨d0_nil, ?_⟩) | (rw [stepG_region_end]; simp only [goes_go]; refine ⟨d0_nil, ?_⟩) | (rw [stepG_region]; simp only [goes_go, List.size_toArray, List.length_cons, List.length_nil, Nat.zero_add]; (try simp only [Nat.reduceAdd]); simp only [List.range, List.range.loop]; refine ⟨d0_nil, ?_⟩))
 have hA := @addPos0 _ lk Tryz.prog SB (N + 5) (N + 3) n (N + 6) (wspec W) w0 oj j nb
 (refine Goes.step rfl (fun _ hq => ?_); replace hF := hq hF; clear hq; refine goes_call rfl rfl (by k_ne) rfl Tryz.func33 (nm_add lk) rfl ⟨d0_nil, ?_⟩)
 simp only [body_add, addFn, Option.getD_some] at hA
 walk_nrmf Tryz.f33
 refine Goes.mono (n := 12) (hA (mT := 3) lk_lib (fun w₃ hF => ?_) _ hF) (by omega)
 walk_nrm
 iterate 2 (refine Goes.step rfl (fun _ hq => ?_); replace hF := hq hF; clear hq; first | (rw [stepG_region_end]; simp only [goes_go]; refine ⟨d0_nil, ?_⟩) | (rw [stepG_region]; simp only [goes_go, List.size_toArray, List.length_cons, List.length_nil, Nat.zero_add]; (try simp only [Nat.reduceAdd]); simp only [List.range, List.range.loop]; refine ⟨d0_nil, ?_⟩))
 (refine Goes.step rfl (fun _ hq => ?_); replace hF := hq hF; clear hq; rw [vals rfl rfl (v := .func (.func 34) #[] #[.pointer (some ⟨N + 5, 0, none⟩), .pointer (some ⟨N, 0, none⟩), .pointer (some ⟨N + 1, 0, none⟩), .pointer (some ⟨nb, 0, none⟩), .pointer (some ⟨N + 2, 0, none⟩), .pointer (some ⟨N + 4, 0, none⟩)]) (by unfold execOp; simp [go_sem, Act.eval, run_mf]) (by unfold execOp; simp [go_sem, Act.eval, ev_mf])]; simp only [goes_go]; refine ⟨d0_nil, ?_⟩; walk_nrm)
 refine Goes.stop (fun w₄ h₄ => ?_)
 replace hF := h₄ hF
 clear h₄
 have hev : ∀ a : Act, a.eval (.tmp 17) = .func (.func 34) #[] #[.pointer (some ⟨N + 5, 0, none⟩), .pointer (some ⟨N, 0, none⟩), .pointer (some ⟨N + 1, 0, none⟩), .pointer (some ⟨nb, 0, none⟩), .pointer (some ⟨N + 2, 0, none⟩), .pointer (some ⟨N + 4, 0, none⟩)] ->
     ∀ (ops : Array Oper) (o : Oper), ops[1]? = some o -> o.guard = none -> o.dst = none -> o.op = .go { callee := .value (.tmp 17), args := #[], argTypes := #[] } -> ∀ kk, stepG Tryz.prog true (G (bs.at a (.inRegion ops (1 :: []) :: kk)) cs) w₄ = .spawn (G (bs.at a (.inRegion ops [] :: kk)) cs) (born Tryz.prog (callw N nb)) w₄ #[] := fun a ha ops o ho hg hd hop kk => spawn1 ha ho hg hd hop
 refine ⟨rfl, _, _, hev _ rfl _ _ rfl rfl rfl rfl _, spawns_of W ?_, fun h1 h2 h3 h4 => ?_⟩
 · obtain ⟨m, hm⟩ := IH (.pointer (some ⟨nb, 0, none⟩)) (.bool true) (.int .i64 j) (.tuple #[]) (.func (.func 34) #[] #[.pointer (some ⟨N + 5, 0, none⟩), .pointer (some ⟨N, 0, none⟩), .pointer (some ⟨N + 1, 0, none⟩), .pointer (some ⟨nb, 0, none⟩), .pointer (some ⟨N + 2, 0, none⟩), .pointer (some ⟨N + 4, 0, none⟩)]) (.int .i64 ((j : Int) + 1))
   refine ⟨m + 7, ?_⟩
   (refine Goes.step rfl (fun _ hq => ?_); replace hF := hq hF; clear hq; rw [stepG_region_end]; simp only [goes_go]; refine ⟨d0_nil, ?_⟩)
   (refine Goes.step rfl (fun _ hq => ?_); replace hF := hq hF; clear hq; rw [stepG_inBlock]; simp only [goes_go]; refine ⟨d0_nil, ?_⟩)
   (refine Goes.step rfl (fun _ hq => ?_); replace hF := hq hF; clear hq; rw [stepG_region]; simp only [goes_go, List.size_toArray, List.length_cons, List.length_nil, Nat.zero_add]; (try simp only [Nat.reduceAdd]); simp only [List.range, List.range.loop]; refine ⟨d0_nil, ?_⟩)
   (refine Goes.step rfl (fun _ hq => ?_); replace hF := hq hF; clear hq; rw [vals rfl rfl (v := .int .i64 ((j : Int) + 1)) (by unfold execOp; simp [go_sem, Act.eval, hwr]) (by unfold execOp; simp [go_sem, Act.eval, hwr])]; simp only [goes_go]; refine ⟨d0_nil, ?_⟩; walk_nrm)
   (refine Goes.step rfl (fun _ hq => ?_); replace hF := hq hF; clear hq; rw [vals rfl rfl (v := .int .i64 ((j : Int) + 1)) (by unfold execOp; simp [go_sem, Act.eval]) (by unfold execOp; simp [go_sem, Act.eval])]; simp only [goes_go]; refine ⟨d0_nil, ?_⟩; walk_nrm)
   (refine Goes.step rfl (fun _ hq => ?_); replace hF := hq hF; clear hq; rw [stepG_region_end]; simp only [goes_go]; refine ⟨d0_nil, ?_⟩)
   (refine Goes.step rfl (fun _ hq => ?_); replace hF := hq hF; clear hq; rw [stepG_inLoop]; simp only [goes_go]; refine ⟨d0_nil, ?_⟩)
   exact hm _ hF
 · have hk := kw_of B h1 h2 h3 h4
   exact ⟨.pre 15 (fs0w S argsS j, f0), nb, by omega, rfl, hjn, rfl, hρ _ h2, bornPre W.hSB _ hk⟩
theorem heads (W : WHyp S F sp sp0 SB N n (.slice na nl nc) (.slice pa pl pc) ρ0 f0 argsS) (B : Base N n na pa nl nc pl pc w0) (hρ : ∀ w : World, (∀ b, b < N + 6 -> b ≠ N + 5 -> b ≠ N + 3 -> w.heap[b]? = w0.heap[b]?) -> WRel (Fp F) ρ0 f0 w) (hn : n <= 64) : ∀ r, r <= n ->
   ∀ x9 x14 x15 x16 x17 x18, ∃ m, ∀ w, WgLive lk.tWg (N + 5) w -> Goes Tryz.prog true (R0 lk.tWg (N + 5)) (D0 (N + 5)) (StopS W cs w0 r) m (recH N n ((n - r : Nat) : Int) na pa nl nc pl pc cs x9 x14 x15 x16 x17 x18) w := by
 intro r
 induction r with
 | zero =>
   intro _ x9 x14 x15 x16 x17 x18
   exact ⟨13, fun w hF => goes_imp (AtKd.imp fun g w h => ⟨x9, x15, x16, x17, x18, h⟩) (head0 w hF)⟩
 | succ r ih =>
   intro hr
   refine headR W B hρ hn hr fun x9 x14 x15 x16 x17 x18 => ?_
   have := ih (by omega) x9 x14 x15 x16 x17 x18
   rw [show n - r = n - (r + 1) + 1 by omega] at this
   exact this
end
end Crw
end Go.Proofs.YthgelfnflafoiabGreat
namespace Go.Proofs.YthgelfnflafoiabGreat
namespace Crw
open Go.Conc Go.ConcN Go.RowKit Go.Conc.Lib Go.ConcR.Gen Go.ConcN.Gen Sim
open Go.ConcR (KK wgBlock WgAt stA smA rd wr mk Payload DC0)
theorem enters (na pa : Option Addr) (nl nc pl pc n : Nat) : Frame.enter Tryz.prog 20 #[.slice na nl nc, .slice pa pl pc, .int .i64 n] .normal =
   bs.at ⟨#[.slice na nl nc, .slice pa pl pc, .int .i64 n, undef, undef, undef, undef, undef, undef, undef, undef, undef, undef, undef, undef, undef, undef, undef, undef, undef, undef], []⟩ [.code bodys] := by
 simp [Frame.enter, Frame.at, Tryz.func20, bs, base, bodys, Tryz.f20]
section
variable {N n : Nat} {na pa : Option Addr} {nl nc pl pc : Nat} {c : Frame} {cs : List Frame} {SB : Nat -> Prop} {x9 x15 x16 x17 x18 : Value}
set_option maxRecDepth 20000 in
theorem walkE {w : World} (hno : ¬ SB (N + 4)) (hc : w.cell? ⟨N + 4, 0, none⟩ = some (.slice (some ⟨N + 3, 0, none⟩) n n)) (d0 : Nat) :
   Goes Tryz.prog true AtRel (DF SB) (fun g w' => g = G (c.finish (.slice (some ⟨N + 3, 0, none⟩) n n)) cs /\ AtRel w w') 12 (recW N n na pa nl nc pl pc (c :: cs) x9 (.bool false) x15 x16 x17 x18) (w.at d0) := by
 simp only [recW, slH, codeE, codeA, bodys, Tryz.f20, Option.getD_some]
 walk_nrm
 (refine Goes.step rfl (fun _ hq => ?_); obtain ⟨d, rfl⟩ := hq; simp only [at2]; rw [stepG_region_end]; simp only [goes_go]; refine ⟨df_nil, ?_⟩)
 (refine Goes.step rfl (fun _ hq => ?_); obtain ⟨d, rfl⟩ := hq; simp only [at2]; rw [stepG_seq]; simp only [goes_go]; refine ⟨df_nil, ?_⟩)
 (refine Goes.step rfl (fun _ hq => ?_); obtain ⟨d, rfl⟩ := hq; simp only [at2]; rw [stepG_region]; simp only [goes_go, List.size_toArray, List.length_cons, List.length_nil, Nat.zero_add]; (try simp only [Nat.reduceAdd]); simp only [List.range, List.range.loop]; refine ⟨df_nil, ?_⟩)
 (refine Goes.step rfl (fun _ hq => ?_); obtain ⟨d, rfl⟩ := hq; simp only [at2]; rw [loads (w := w.at d) rfl rfl rfl Tryz.isAgg56 rfl hc]; simp only [goes_go]; refine ⟨df_cell rfl hno (lt_of_cell hc), ?_⟩; walk_nrm)
 (refine Goes.step rfl (fun _ hq => ?_); obtain ⟨d, rfl⟩ := hq; simp only [at2]; rw [vals rfl rfl (v := .slice (some ⟨N + 3, 0, none⟩) n n) (by unfold execOp; simp [go_sem, Act.eval]) (by unfold execOp; simp [go_sem, Act.eval])]; simp only [goes_go]; refine ⟨df_nil, ?_⟩; walk_nrm)
 (refine Goes.step rfl (fun _ hq => ?_); obtain ⟨d, rfl⟩ := hq; simp only [at2]; rw [stepG_region_end]; simp only [goes_go]; refine ⟨df_nil, ?_⟩)
 (refine Goes.step rfl (fun _ hq => ?_); obtain ⟨d, rfl⟩ := hq; simp only [at2]; rw [stepG_ret']; simp only [goes_go]; refine ⟨df_nil, ?_⟩)
 (refine Goes.step rfl (fun _ hq => ?_); obtain ⟨d, rfl⟩ := hq; simp only [at2]; rw [stepG_leave rfl rfl Tryz.func20 (results_tmp (t := 6) rfl _ Tryz.prog _) (events_results_tmp (t := 6) rfl _ _)]; simp only [goes_go]; refine ⟨df_nil, ?_⟩)
 exact Goes.stop (fun w₁ hq => ⟨rfl, atRel_trans _ _ _ ⟨_, rfl⟩ hq⟩)
end
section
variable {S : Program} {F : FuncId -> Bool} {sp sp0 : FuncId} {SB : Nat -> Prop} {n : Nat} {na pa : Option Addr} {nl nc pl pc : Nat} {ρ0 : Ren} {f0 : World} {argsS : Nat -> Array Value} {c : Frame} {cs : List Frame} {w : World} {gs : Array Goroutine} {q : Nat -> Nat} {t : Trace}
theorem sendAll_ends (W : WHyp S F sp sp0 (more SB (w.heap.size + 5)) w.heap.size n (.slice na nl nc) (.slice pa pl pc) ρ0 f0 argsS) (hρ : WRel (Fp F) ρ0 f0 w) (h1 : 1 <= n) (hn : n <= 64) {Post : Value -> World -> Prop}
   (h0 : gs[0]? = some (G (Frame.enter Tryz.prog 20 #[.slice na nl nc, .slice pa pl pc, .int .i64 n] .normal) (c :: cs))) (hFr : Fr Tryz.prog SB gs q w t)
   (hK : ∀ gs' w' sl' t' q' (own : Nat -> Nat), gs'[0]? = some (G (c.finish (.slice (some ⟨w.heap.size + 3, 0, none⟩) n n)) cs) -> Fr Tryz.prog (more SB (w.heap.size + 5)) gs' q' w' t' -> (∀ b, b < w.heap.size -> w'.heap[b]? = w.heap[b]?) -> PayAt (w.heap.size + 3) n w' ->
     (∀ i, i < n -> ∃ v, Has (w.heap.size + 3) i v w' /\ SimFin S F (more SB (w.heap.size + 5)) (w.heap.size + 5) (w.heap.size + 3) (w.heap.size + 6) ρ0 f0 (fs0w S argsS) i v w' (fun b => own b = gs.size + i)) -> (∀ b, own b ≠ 0 -> w.heap.size + 6 <= b /\ b < w'.heap.size) ->
     (w'.os = w.os /\ w'.output = w.output /\ w'.tape = w.tape) -> Ends Tryz.prog Post (crowd gs' w' sl') t') (sl : Option (Nat × Nat)) : Ends Tryz.prog Post (crowd gs w sl) t := by
 obtain ⟨N, hN⟩ : ∃ N, N = w.heap.size := ⟨_, rfl⟩
 have hpos : 0 < gs.size := (Array.getElem?_eq_some_iff.1 h0).1
 have hsb : ∀ b, SB b -> b < w.heap.size := hFr.sb
 rw [enters] at h0
 refine walk_fr 20 gs _ q w sl t h0 hFr (walkA (na := na) (pa := pa) (nl := nl) (nc := nc) (pl := pl) (pc := pc) (cs := c :: cs) hsb hn w.drawn) fun gs1 a1 q1 w1 sl1 t1 g1 z1 F1 s1 => ?_
 obtain ⟨d1, rfl, rfl⟩ := s1
 have e6 : ((Wa6 w n na pa nl nc pl pc).at d1).heap.size = w.heap.size + 5 := sz6 w n na pa nl nc pl pc
 refine step_new (w := (Wa6 w n na pa nl nc pl pc)) (o := .cells #[.int .u64 0, .int .u32 0] 90) (gs := gs1) (SB := SB) rfl (fun d => ⟨G (bs.at ⟨(slA w.heap.size n na pa nl nc pl pc).setIfInBounds 8 (.pointer (some ⟨w.heap.size + 5, 0, none⟩)), []⟩ [.inRegion opsA [], .code codeA]) (c :: cs), ?_, ?_⟩) (sumTo gs1.size q1) gs1 q1 d1 sl1 t1 (Nat.le_refl _) g1 rfl F1
 · have := alloc3 (a := ⟨slA w.heap.size n na pa nl nc pl pc, []⟩) (w := (Wa6 w n na pa nl nc pl pc).at d) (ops := opsA) (k := 0) (rest := []) (kk := [.code codeA]) (cs := c :: cs) rfl rfl rfl
   rw [this]
   rw [show ((Wa6 w n na pa nl nc pl pc).at d).heap.size = w.heap.size + 5 from sz6 w n na pa nl nc pl pc]
   rfl
 intro gs2 q2 sl2 t2 g2 z2 F2
 have e5 : (Wa6 w n na pa nl nc pl pc).heap.size = w.heap.size + 5 := sz6 w n na pa nl nc pl pc
 rw [e5] at F2
 have e7 : ({ (Wa6 w n na pa nl nc pl pc).at d with heap := ((Wa6 w n na pa nl nc pl pc).at d).heap.push (.cells #[.int .u64 0, .int .u32 0] 90) } : World) = (Wa7 w n na pa nl nc pl pc).at d := rfl
 rw [e7] at F2 ⊢
 have hSB2 : ∀ b, more SB (w.heap.size + 5) b -> b < w.heap.size \/ b = w.heap.size + 5 := fun b hb => hb.imp (hsb b) id
 refine walk_fr 20 gs2 _ q2 _ sl2 t2 g2 F2 (walkB hSB2 d) fun gs3 a3 q3 w3 sl3 t3 g3 z3 F3 s3 => ?_
 obtain ⟨d3, rfl, rfl⟩ := s3
 obtain ⟨k0, k1, k2, k3, k4, k5, kO⟩ := h7 w n na pa nl nc pl pc
 have hsz7 : ((Wa7 w n na pa nl nc pl pc).at d3).heap.size = w.heap.size + 6 := sz7 w n na pa nl nc pl pc
 have hwg : WgAt lk.tWg (w.heap.size + 5) ((Wa7 w n na pa nl nc pl pc).at d3) 0 0 := k5
 have hpay : PayAt (w.heap.size + 3) n ((Wa7 w n na pa nl nc pl pc).at d3) := ⟨_, k3, by simp [madeCells]⟩
 have hB : Base w.heap.size n na pa nl nc pl pc ((Wa7 w n na pa nl nc pl pc).at d3) := ⟨k0, k1, k2, k4⟩
 have hρ' : ∀ w' : World, (∀ b, b < w.heap.size + 6 -> b ≠ w.heap.size + 5 -> b ≠ w.heap.size + 3 -> w'.heap[b]? = ((Wa7 w n na pa nl nc pl pc).at d3).heap[b]?) -> WRel (Fp F) ρ0 f0 w' := fun w' hw' =>
   ⟨fun b e hb => (hρ.blk b e hb).of_heap rfl (by
     have := brel_blk (hρ.blk b e hb)
     rw [hw' _ (by omega) (by omega) (by omega)]
     exact kO _ this), hρ.inj⟩
 have G1 : Geom (more SB (w.heap.size + 5)) (w.heap.size + 5) (w.heap.size + 3) (w.heap.size + 6) n :=
   ⟨by omega, by omega, by omega, .inr rfl, fun h => by have := hSB2 _ h; omega, fun b hb => by have := hSB2 b hb; omega, by omega⟩
 obtain ⟨m, hm⟩ := heads (cs := c :: cs) (w0 := (Wa7 w n na pa nl nc pl pc).at d3) W hB hρ' hn n (Nat.le_refl _) undef undef undef undef undef undef
 rw [Nat.sub_self] at hm
 refine group hsz7.symm G1 h1 (anchS_run _ _ _ _ _ _ _ _ _) (anchS_goes (SB := more SB (w.heap.size + 5)) _ _ _ _ _ _ _ _ _) g3 F3 hwg hpay (spawns_of W ⟨m, hm _ ⟨_, _, hwg⟩⟩) (fun gs4 a4 w4 sl4 t4 q4 own4 J => ?_) sl3
 obtain ⟨x9, x15, x16, x17, x18, m4, hm4⟩ := J.out
 have hlive : WgLive lk.tWg (w.heap.size + 5) w4 := J.live
 refine walk_fr m4 gs4 a4 q4 w4 sl4 t4 J.zero J.fr (hm4 w4 hlive) fun gs5 a5 q5 w5 sl5 t5 g5 z5 F5 s5 => ?_
 obtain ⟨rfl, d5, rfl⟩ := s5
 have hc4 : w4.cell? ⟨w.heap.size + 4, 0, none⟩ = some (.slice (some ⟨w.heap.size + 3, 0, none⟩) n n) := by
   have := J.old (w.heap.size + 4) (by omega) (by omega) (by omega)
   simp only [World.cell?]
   rw [this.trans k4]
   rfl
 refine walk_fr 12 gs5 _ q5 _ sl5 t5 g5 F5 (walkE (c := c) (cs := cs) (w := w4) (fun h => by have := hSB2 _ h; omega) hc4 d5) fun gs6 a6 q6 w6 sl6 t6 g6 z6 F6 s6 => ?_
 obtain ⟨rfl, d6, rfl⟩ := s6
 refine hK gs6 (w4.at d6) sl6 t6 q6 own4 g6 F6 (fun b hb => (J.old b (by omega) (by omega) (by omega)).trans (kO b hb)) J.pay (fun i hi => ?_) J.own ⟨J.same.1.trans ?_, J.same.2.1.trans ?_, J.same.2.2.trans ?_⟩
 · obtain ⟨v, hv, hfin⟩ := J.fin i hi
   have eb : gs3.size - 1 + 1 + i = gs.size + i := by omega
   rw [eb] at hfin
   have hf : SimFin S F (more SB (w.heap.size + 5)) (w.heap.size + 5) (w.heap.size + 3) (w.heap.size + 6) ρ0 f0 (fs0w S argsS) i v w4 (fun b => own4 b = gs.size + i) := hfin
   exact ⟨v, hv, hf.stay (Stay.at _ w4 d6)⟩
 · rfl
 · rfl
 · rfl
end
end Crw
end Go.Proofs.YthgelfnflafoiabGreat
namespace Go.Proofs.YthgelfnflafoiabGreat
namespace Sim
theorem boc_same (T : Tables) (A B : Array Func) : ∀ (d : Nat) (t : TypeId) (o : Nat), byteOfCell ⟨T, A⟩ d t o = byteOfCell ⟨T, B⟩ d t o
 | 0, _, _ => rfl
 | d + 1, t, o => by
   have hu : Program.underlying ⟨T, A⟩ t = Program.underlying ⟨T, B⟩ t := rfl
   have hc : ∀ e, Program.cellsOf ⟨T, A⟩ e = Program.cellsOf ⟨T, B⟩ e := fun _ => rfl
   have hb : ∀ e, Program.bytesOf ⟨T, A⟩ e = Program.bytesOf ⟨T, B⟩ e := fun _ => rfl
   unfold byteOfCell
   simp only [hu, hc, hb, boc_same T A B d]
theorem cob_same (T : Tables) (A B : Array Func) : ∀ (d : Nat) (t : TypeId) (o : Nat), cellOfByte ⟨T, A⟩ d t o = cellOfByte ⟨T, B⟩ d t o
 | 0, _, _ => rfl
 | d + 1, t, o => by
   have hu : Program.underlying ⟨T, A⟩ t = Program.underlying ⟨T, B⟩ t := rfl
   have hc : ∀ e, Program.cellsOf ⟨T, A⟩ e = Program.cellsOf ⟨T, B⟩ e := fun _ => rfl
   have hb : ∀ e, Program.bytesOf ⟨T, A⟩ e = Program.bytesOf ⟨T, B⟩ e := fun _ => rfl
   unfold cellOfByte
   simp only [hu, hc, hb, cob_same T A B d]
theorem cab_same (T : Tables) (A B : Array Func) (d : Nat) (e : TypeId) (n o : Nat) (k : Int) : cellAtBytes ⟨T, A⟩ d e n o k = cellAtBytes ⟨T, B⟩ d e n o k := by
 have hc : ∀ e, Program.cellsOf ⟨T, A⟩ e = Program.cellsOf ⟨T, B⟩ e := fun _ => rfl
 have hb : ∀ e, Program.bytesOf ⟨T, A⟩ e = Program.bytesOf ⟨T, B⟩ e := fun _ => rfl
 unfold cellAtBytes
 simp only [hc, hb, boc_same T A B d, cob_same T A B d]
theorem eqg_same (T : Tables) (A B : Array Func) : ∀ (d : Nat) (t : TypeId), Program.eqGuardType ⟨T, A⟩ d t = Program.eqGuardType ⟨T, B⟩ d t
 | 0, _ => rfl
 | d + 1, t => by
   have hu : ∀ t, Program.underlying ⟨T, A⟩ t = Program.underlying ⟨T, B⟩ t := fun _ => rfl
   unfold Program.eqGuardType
   simp only [hu, eqg_same T A B d]
theorem abt_same (T : Tables) (A B : Array Func) : ∀ (d : Nat) (t u : TypeId), Program.alikeButTags ⟨T, A⟩ d t u = Program.alikeButTags ⟨T, B⟩ d t u
 | 0, _, _ => rfl
 | d + 1, t, u => by
   have hi : ∀ t, Tables.info? (Program.toTables ⟨T, A⟩) t = Tables.info? (Program.toTables ⟨T, B⟩) t := fun _ => rfl
   unfold Program.alikeButTags
   simp only [hi, abt_same T A B d]
theorem held_same (T : Tables) (A B : Array Func) (t : TypeId) : Program.stoodInHeld ⟨T, A⟩ t = Program.stoodInHeld ⟨T, B⟩ t := by
 have hu : ∀ t, Program.underlying ⟨T, A⟩ t = Program.underlying ⟨T, B⟩ t := fun _ => rfl
 have hi : ∀ t, Program.underlyingId ⟨T, A⟩ t = Program.underlyingId ⟨T, B⟩ t := fun _ => rfl
 have hd : Program.depth ⟨T, A⟩ = Program.depth ⟨T, B⟩ := rfl
 unfold Program.stoodInHeld Program.stoodInAs
 simp only [hu, hi, hd, abt_same T A B]
theorem same_of (T : Tables) (A B : Array Func) {F : FuncId → Bool} (hg : T.globals.size = 0) (hno : T.info? noType = none)
   (hb : ∀ f, (F f = true ∨ spOk ⟨T, A⟩ f = true) → ∃ fn fn' : Func, A[f]? = some fn ∧ B[f]? = some fn' ∧ fn.body.isSome = true ∧ fn'.body.isSome = true ∧ fn.name ≠ "runtime.NumGoroutine" ∧ fn'.name ≠ "runtime.NumGoroutine") : Same ⟨T, A⟩ ⟨T, B⟩ F := by
 refine ⟨fun _ => rfl, hg, hno, fun e n o k => cab_same T A B _ e n o k, fun n o k => ?_, fun _ => rfl, fun _ => rfl, fun e o => boc_same T A B _ e o, fun t => eqg_same T A B _ t, held_same T A B, fun _ => rfl, hb⟩
 have hc : Program.cellsOf ⟨T, A⟩ noType = 0 := by
   show ((Tables.info? T noType).map (·.size)).getD 0 = 0
   rw [hno]; rfl
 unfold cellAtBytes
 simp only [hc]
 rfl
def fineAt (S : Program) (F : FuncId → Bool) (sp : FuncId) : List Func → Nat → Bool
 | [], _ => true
 | fn :: r, i => (!F i || ((fn.name != "runtime.NumGoroutine") && (match fn.body with | none => false | some c => (i == sp || codeOk S F c)))) && fineAt S F sp r (i + 1)
theorem fineAt_get {S : Program} {F : FuncId → Bool} {sp : FuncId} : ∀ (l : List Func) (i j : Nat) (fn : Func), fineAt S F sp l i = true → l[j]? = some fn → F (i + j) = true → fn.name ≠ "runtime.NumGoroutine" ∧ ∃ c, fn.body = some c ∧ (i + j = sp ∨ codeOk S F c = true)
 | [], _, _, _, _, h, _ => by simp at h
 | g :: r, i, 0, fn, h, hg, hF => by
   simp only [List.getElem?_cons_zero, Option.some.injEq] at hg
   subst hg
   simp only [Nat.add_zero] at hF
   simp only [fineAt, hF, Bool.not_true, Bool.false_or, Bool.and_eq_true] at h
   obtain ⟨⟨h1, h2⟩, _⟩ := h
   refine ⟨by simpa using h1, ?_⟩
   cases hb : g.body with
   | none => rw [hb] at h2; cases h2
   | some c =>
     rw [hb] at h2
     simp only [Bool.or_eq_true, beq_iff_eq] at h2
     exact ⟨c, rfl, h2⟩
 | g :: r, i, j + 1, fn, h, hg, hF => by
   simp only [fineAt, Bool.and_eq_true] at h
   have := fineAt_get r (i + 1) j fn h.2 (by simpa using hg) (by rwa [show i + 1 + j = i + (j + 1) from by omega])
   rwa [show i + 1 + j = i + (j + 1) from by omega] at this
def swap (R : Program) (i : Nat) (g : Func) : Program := ⟨R.toTables, R.funcs.setIfInBounds i g⟩
theorem swap_ne {R : Program} {i f : Nat} {g : Func} (h : f ≠ i) : (swap R i g).funcs[f]? = R.funcs[f]? := by
 show (R.funcs.setIfInBounds i g)[f]? = _
 rw [Array.getElem?_setIfInBounds_ne (Ne.symm h)]
theorem swap_self {R : Program} {i : Nat} {g : Func} (h : i < R.funcs.size) : (swap R i g).funcs[i]? = some g := by
 show (R.funcs.setIfInBounds i g)[i]? = _
 rw [Array.getElem?_setIfInBounds_self, if_pos h]
theorem swap_tb (R : Program) (i : Nat) (g : Func) : (swap R i g).toTables = R.toTables := rfl
theorem swap_pu (R : Program) (i : Nat) (g : Func) (t : TypeId) : (swap R i g).underlying t = R.underlying t := by unfold Program.underlying; rw [swap_tb]
theorem swap_ti (R : Program) (i : Nat) (g : Func) (t : TypeId) (w : World) : (typeInfo t).run (swap R i g) w = (typeInfo t).run R w := by
 have h1 : ∀ P : Program, (typeInfo t).run P w = (match P.info? t with | some i => (.ok i w : Result TypeInfo) | none => .halt (.stuck "no such type") w) := by
   intro P
   show (match P.info? t with | some i => (pure i : Sem TypeInfo) | none => stuck "no such type").run P w = _
   cases P.info? t <;> rfl
 rw [h1, h1, swap_tb]
theorem swap_un (R : Program) (i : Nat) (g : Func) (t : TypeId) (w : World) : (underlying t).run (swap R i g) w = (underlying t).run R w := by
 have h1 : ∀ P : Program, (underlying t).run P w = (match P.underlying t with | some i => (.ok i w : Result TypeDesc) | none => .halt (.stuck "no such type") w) := by
   intro P
   show (match P.underlying t with | some i => (pure i : Sem TypeDesc) | none => stuck "no such type").run P w = _
   cases P.underlying t <;> rfl
 rw [h1, h1, swap_pu]
theorem swap_so (R : Program) (i : Nat) (g : Func) (t : TypeId) (w : World) : (sizeOf t).run (swap R i g) w = (sizeOf t).run R w := by
 simp [sizeOf, swap_ti]
theorem swap_ag (R : Program) (i : Nat) (g : Func) (t : TypeId) (w : World) : (isAgg t).run (swap R i g) w = (isAgg t).run R w := by
 simp only [isAgg, Sem.run_bind, swap_un]
 congr 1
 funext d w'
 cases d <;> simp
theorem swap_zv (R : Program) (i : Nat) (g : Func) (t : TypeId) (w : World) : (zeroValue t).run (swap R i g) w = (zeroValue t).run R w := by
 simp only [zeroValue, Sem.run_bind, swap_ti]
 congr 1
 funext d w'
 cases d.zero <;> simp
def unmarked (L : List Func) : Bool := L.all fun fn => fn.litNo != some 999983
theorem swap_fine {R : Program} {i : Nat} {g : Func} {F F' : FuncId → Bool} {L : List Func} (hL : R.funcs = L.toArray) (hi : i < R.funcs.size) (hS : fineAt (swap R i g) F' i L 0 = true) (hSF : fineAt (swap R i g) F i L 0 = true) (hg : g.name ≠ "runtime.NumGoroutine") (hb : ∃ c, g.body = some c ∧ codeOk (swap R i g) F' c = true)
   (hlt : ∀ f, F' f = true → f < R.funcs.size) (hgl : R.globals.size = 0) (hno : R.info? noType = none) (hm : unmarked L = true) (hgm : g.litNo = some 999983) (hFi : F i = false) (hFi' : F' i = true) (hle : ∀ f, F f = true → F' f = true) :
   Same (swap R i g) R F ∧ Fine (swap R i g) R F i ∧ Same (swap R i g) (swap R i g) F ∧ Fine (swap R i g) (swap R i g) F i ∧ Same (swap R i g) (swap R i g) F' ∧ Fine (swap R i g) (swap R i g) F' R.funcs.size ∧ NoSp (swap R i g) F' R.funcs.size ∧ spOk (swap R i g) i = true := by
 have at' : ∀ f, f < R.funcs.size → L[f]? = R.funcs[f]? := fun f hl => by rw [hL]; simp
 have get : ∀ f, F' f = true → ∃ fn c, R.funcs[f]? = some fn ∧ fn.body = some c ∧ fn.name ≠ "runtime.NumGoroutine" ∧ (f = i ∨ codeOk (swap R i g) F' c = true) := by
   intro f hf
   have hl := hlt f hf
   have e : R.funcs[f]? = some R.funcs[f] := Array.getElem?_eq_getElem hl
   obtain ⟨h1, c, h2, h3⟩ := fineAt_get L 0 f _ hS ((at' f hl).trans e) (by rw [Nat.zero_add]; exact hf)
   rw [Nat.zero_add] at h3
   exact ⟨_, c, e, h2, h1, h3⟩
 have getF : ∀ f, F f = true → f ≠ i → ∃ fn c, R.funcs[f]? = some fn ∧ fn.body = some c ∧ codeOk (swap R i g) F c = true := by
   intro f hf hne
   have hl := hlt f (hle f hf)
   have e : R.funcs[f]? = some R.funcs[f] := Array.getElem?_eq_getElem hl
   obtain ⟨h1, c, h2, h3⟩ := fineAt_get L 0 f _ hSF ((at' f hl).trans e) (by rw [Nat.zero_add]; exact hf)
   rw [Nat.zero_add] at h3
   exact ⟨_, c, e, h2, h3.resolve_left hne⟩
 have sp1 : ∀ f, spOk (swap R i g) f = true → f = i := by
   intro f hf
   by_cases h : f = i
   · exact h
   · exfalso
     unfold spOk at hf
     rw [swap_ne h] at hf
     cases e : R.funcs[f]? with
     | none => rw [e] at hf; cases hf
     | some fn =>
       rw [e] at hf
       have hl : f < R.funcs.size := (Array.getElem?_eq_some_iff.1 e).1
       have hmem : fn ∈ L := List.mem_of_getElem? ((at' f hl).trans e)
       have := List.all_eq_true.1 hm fn hmem
       simp only [beq_iff_eq] at hf
       simp [hf] at this
 have sp2 : spOk (swap R i g) i = true := by
   unfold spOk
   rw [swap_self hi]
   simp [hgm]
 obtain ⟨cb, hcb, hcb2⟩ := hb
 have bS : ∀ f, F' f = true → ∃ fn c, (swap R i g).funcs[f]? = some fn ∧ fn.body = some c ∧ fn.name ≠ "runtime.NumGoroutine" ∧ codeOk (swap R i g) F' c = true := by
   intro f hf
   by_cases h : f = i
   · subst h; exact ⟨g, cb, swap_self hi, hcb, hg, hcb2⟩
   · obtain ⟨fn, c, h1, h2, h3, h4⟩ := get f hf
     exact ⟨fn, c, by rw [swap_ne h]; exact h1, h2, h3, h4.resolve_left h⟩
 have ft : ∀ {G : FuncId → Bool}, (∀ f, G f = true → F' f = true) → ∀ f, (G f = true ∨ spOk (swap R i g) f = true) → F' f = true := by
   intro G hG f hf
   rcases hf with hf | hf
   · exact hG f hf
   · rw [sp1 f hf]; exact hFi'
 have sR : ∀ {G : FuncId → Bool}, (∀ f, G f = true → F' f = true) → Same (swap R i g) R G := fun hG => same_of R.toTables _ _ hgl hno fun f hf => by
   obtain ⟨fn, c, h1, h2, h3, _⟩ := bS f (ft hG f hf)
   obtain ⟨fn', c', h1', h2', h3', _⟩ := get f (ft hG f hf)
   exact ⟨fn, fn', h1, h1', by rw [h2]; rfl, by rw [h2']; rfl, h3, h3'⟩
 have sS : ∀ {G : FuncId → Bool}, (∀ f, G f = true → F' f = true) → Same (swap R i g) (swap R i g) G := fun hG => same_of R.toTables _ _ hgl hno fun f hf => by
   obtain ⟨fn, c, h1, h2, h3, _⟩ := bS f (ft hG f hf)
   exact ⟨fn, fn, h1, h1, by rw [h2]; rfl, by rw [h2]; rfl, h3, h3⟩
 refine ⟨sR hle, ⟨fun f hf h => ?_, fun f hf _ => sp1 f hf⟩, sS hle, ⟨fun f hf h => ?_, fun f hf _ => sp1 f hf⟩, sS (fun _ h => h), ⟨fun f hf _ => ?_, fun f hf h => ?_⟩, ⟨?_, ?_⟩, sp2⟩
 · obtain ⟨fn, c, h1, h2, h4⟩ := getF f hf h
   exact ⟨fn, c, by rw [swap_ne h]; exact h1, h1, h2, h4⟩
 · obtain ⟨fn, c, h1, h2, h4⟩ := getF f hf h
   exact ⟨fn, c, by rw [swap_ne h]; exact h1, by rw [swap_ne h]; exact h1, h2, h4⟩
 · obtain ⟨fn, c, h1, h2, h3, h4⟩ := bS f hf
   exact ⟨fn, c, h1, h1, h2, h4⟩
 · rw [sp1 f hf, hFi'] at h; cases h
 · cases h : F' R.funcs.size with
   | false => rfl
   | true => exact absurd (hlt _ h) (Nat.lt_irrefl _)
 · cases h : spOk (swap R i g) R.funcs.size with
   | false => rfl
   | true => exact absurd (sp1 _ h) (Nat.ne_of_gt hi)
end Sim
end Go.Proofs.YthgelfnflafoiabGreat
namespace Go.Proofs.YthgelfnflafoiabGreat
namespace Sim
def op1 (d : Option Nat) (o : Op) (t : TypeId) (a : Array Edge) : Oper := { dst := d, op := o, type := t, pos := "", after := a, guard := none }
def bodyS : Code :=
 .seq (.region 0 #[op1 (some 4) (.alloc 3) 3 #[]] false)
 (.seq (.region 1 #[op1 (some 5) (.load 3 (.tmp 4)) 3 #[], op1 none (.store 3 (.tmp 4) (.const (.int .i64 1))) 3 #[]] true)
 (.seq (.region 2 #[op1 (some 6) (.binOp .eql 3 (.tmp 5) (.const (.int .i64 1)) 3) 4 #[]] false)
 (.cond (.tmp 6)
   (.region 3 #[op1 (some 7) (.makeFunc (.func 36) #[.tmp 0, .tmp 1, .tmp 2] #[]) 3 #[], op1 (some 8) (.box 3 (.tmp 7)) 3 #[], op1 none (.nilCheck (.const (.pointer none))) 3 #[]] false)
   (.seq (.region 4 #[op1 (some 3) (.makeSlice 56 (.tmp 2) (.tmp 2)) 56 #[], op1 (some 10) (.move (.const (.int .i64 0))) 3 #[]] false)
   (.seq (.block 1 (.loop (.seq (.region 5 #[op1 (some 11) (.binOp .lss 3 (.tmp 10) (.tmp 2) 3) 4 #[]] false)
     (.cond (.tmp 11)
       (.region 6 #[op1 (some 12) (.call { callee := .value (.func 36), args := #[.tmp 0, .tmp 1, .tmp 10, .tmp 2], argTypes := #[51, 53, 3, 3] }) 51 #[],
         op1 (some 13) (.indexAddr 56 (.tmp 3) (.tmp 10)) 3 #[], op1 none (.store 51 (.tmp 13) (.tmp 12)) 3 #[],
         op1 (some 14) (.binOp .add 3 (.tmp 10) (.const (.int .i64 1)) 3) 3 #[], op1 (some 10) (.move (.tmp 14)) 3 #[]] false)
       (.exit 1)))))
   .ret)))))
noncomputable def fS : Func := { Tryz.f20 with ntmps := 15, results := #[.tmp 3], body := some bodyS, litNo := some 999983 }
noncomputable def Seq.prog : Program := swap Tryz.prog 20 fS
end Sim
end Go.Proofs.YthgelfnflafoiabGreat
namespace Go.Proofs.YthgelfnflafoiabGreat
namespace Sim
def Fq (f : FuncId) : Bool := ([3, 4, 5, 6, 7, 8, 9, 10, 11, 12, 13, 14, 15, 16, 17, 18, 19, 20, 21, 22, 23, 24, 25, 26, 27, 28, 29, 30, 31, 32, 36, 38, 39, 40, 41, 42, 43, 44, 45, 59, 65, 66, 67, 68, 69, 70, 71, 72, 73, 74, 75, 76, 77, 78, 83, 85, 86, 87, 88, 89, 90, 91, 92, 93, 94, 95, 96, 97, 98, 99, 100, 101, 102, 103, 104, 105, 106, 107, 108, 109, 110, 111, 112, 113, 114, 115, 116, 117, 118, 119, 120, 121] : List Nat).contains f
def Fv (f : FuncId) : Bool := Fq f && f != 20
theorem fq_fine : fineAt Seq.prog Fq 20 Tryz.prog.funcs.toList 0 = true := by kernel_rfl
theorem fv_fine : fineAt Seq.prog Fv 20 Tryz.prog.funcs.toList 0 = true := by kernel_rfl
theorem fq_mark : unmarked Tryz.prog.funcs.toList = true := by kernel_rfl
theorem fq_in : Fq 20 = true := by kernel_rfl
theorem fv_out : Fv 20 = false := by kernel_rfl
theorem fq_body : codeOk Seq.prog Fq bodyS = true := by kernel_rfl
theorem fq_name : (fS.name != "runtime.NumGoroutine") = true := by kernel_rfl
theorem fq_lt : (([3, 4, 5, 6, 7, 8, 9, 10, 11, 12, 13, 14, 15, 16, 17, 18, 19, 20, 21, 22, 23, 24, 25, 26, 27, 28, 29, 30, 31, 32, 36, 38, 39, 40, 41, 42, 43, 44, 45, 59, 65, 66, 67, 68, 69, 70, 71, 72, 73, 74, 75, 76, 77, 78, 83, 85, 86, 87, 88, 89, 90, 91, 92, 93, 94, 95, 96, 97, 98, 99, 100, 101, 102, 103, 104, 105, 106, 107, 108, 109, 110, 111, 112, 113, 114, 115, 116, 117, 118, 119, 120, 121] : List Nat).all fun f => f < Tryz.prog.funcs.size) = true := by kernel_rfl
theorem fq_no : Tryz.prog.info? noType = none := by kernel_rfl
theorem fq_gl : Tryz.prog.globals.size = 0 := by kernel_rfl
theorem fq_sp : 20 < Tryz.prog.funcs.size := by
 have : (decide (20 < Tryz.prog.funcs.size)) = true := by kernel_rfl
 exact of_decide_eq_true this
theorem fq : Same Seq.prog Tryz.prog Fv ∧ Fine Seq.prog Tryz.prog Fv 20 ∧ Same Seq.prog Seq.prog Fv ∧ Fine Seq.prog Seq.prog Fv 20 ∧ Same Seq.prog Seq.prog Fq ∧ Fine Seq.prog Seq.prog Fq Tryz.prog.funcs.size ∧ NoSp Seq.prog Fq Tryz.prog.funcs.size ∧ spOk Seq.prog 20 = true := by
 refine swap_fine (L := Tryz.prog.funcs.toList) rfl fq_sp fq_fine fv_fine (by simpa using fq_name) ⟨bodyS, rfl, fq_body⟩ (fun f hf => ?_) fq_gl fq_no fq_mark rfl fv_out fq_in (fun f hf => ?_)
 · have h := List.all_eq_true.1 fq_lt f (List.contains_iff_mem.1 hf)
   exact of_decide_eq_true h
 · unfold Fv at hf
   rw [Bool.and_eq_true] at hf
   exact hf.1
end Sim
end Go.Proofs.YthgelfnflafoiabGreat
namespace Go.Proofs.YthgelfnflafoiabGreat
open Sim (Seq.prog fS Fq)
@[simp] theorem Seq.so (t : TypeId) (w : World) : (sizeOf t).run Seq.prog w = (sizeOf t).run Tryz.prog w := Sim.swap_so _ _ _ t w
@[simp] theorem Seq.un (t : TypeId) (w : World) : (underlying t).run Seq.prog w = (underlying t).run Tryz.prog w := Sim.swap_un _ _ _ t w
@[simp] theorem Seq.ag (t : TypeId) (w : World) : (isAgg t).run Seq.prog w = (isAgg t).run Tryz.prog w := Sim.swap_ag _ _ _ t w
@[simp] theorem Seq.zv (t : TypeId) (w : World) : (zeroValue t).run Seq.prog w = (zeroValue t).run Tryz.prog w := Sim.swap_zv _ _ _ t w
@[simp] theorem Seq.pu (t : TypeId) : Seq.prog.underlying t = Tryz.prog.underlying t := Sim.swap_pu _ _ _ t
@[simp] theorem Seq.tb : Seq.prog.toTables = Tryz.prog.toTables := Sim.swap_tb _ _ _
theorem Seq.call {f : FuncId} (h : Fq f = true) (args : Array Value) (w : World) : (callFunc f args).run Seq.prog w = .ok (.enter f args) w := by
 obtain ⟨fn, _, e1, _, e2, _, e3, _⟩ := Sim.fq.2.2.2.2.1.body f (.inl h)
 obtain ⟨c, hc⟩ := Option.isSome_iff_exists.1 e2
 simp [callFunc, e1, e3, hc]
theorem Seq.at {f : FuncId} {fn : Func} (h : Tryz.prog.funcs[f]? = some fn) (hf : f ≠ 20) : Seq.prog.funcs[f]? = some fn := by
 rw [<- h]; exact Sim.swap_ne hf
theorem Seq.sp : Seq.prog.funcs[20]? = some fS := Sim.swap_self Sim.fq_sp
@[simp] theorem Seq.call20 (args : Array Value) (w : World) : (callFunc 20 args).run Seq.prog w = .ok (.enter 20 args) w := Seq.call (by rfl) args w
theorem Seq.func3 : Seq.prog.funcs[3]? = some Tryz.f3 := Seq.at Tryz.func3 (by decide)
theorem Seq.func4 : Seq.prog.funcs[4]? = some Tryz.f4 := Seq.at Tryz.func4 (by decide)
theorem Seq.func5 : Seq.prog.funcs[5]? = some Tryz.f5 := Seq.at Tryz.func5 (by decide)
theorem Seq.func6 : Seq.prog.funcs[6]? = some Tryz.f6 := Seq.at Tryz.func6 (by decide)
theorem Seq.func7 : Seq.prog.funcs[7]? = some Tryz.f7 := Seq.at Tryz.func7 (by decide)
theorem Seq.func8 : Seq.prog.funcs[8]? = some Tryz.f8 := Seq.at Tryz.func8 (by decide)
theorem Seq.func9 : Seq.prog.funcs[9]? = some Tryz.f9 := Seq.at Tryz.func9 (by decide)
theorem Seq.func10 : Seq.prog.funcs[10]? = some Tryz.f10 := Seq.at Tryz.func10 (by decide)
theorem Seq.func11 : Seq.prog.funcs[11]? = some Tryz.f11 := Seq.at Tryz.func11 (by decide)
theorem Seq.func12 : Seq.prog.funcs[12]? = some Tryz.f12 := Seq.at Tryz.func12 (by decide)
theorem Seq.func13 : Seq.prog.funcs[13]? = some Tryz.f13 := Seq.at Tryz.func13 (by decide)
theorem Seq.func14 : Seq.prog.funcs[14]? = some Tryz.f14 := Seq.at Tryz.func14 (by decide)
theorem Seq.func15 : Seq.prog.funcs[15]? = some Tryz.f15 := Seq.at Tryz.func15 (by decide)
theorem Seq.func16 : Seq.prog.funcs[16]? = some Tryz.f16 := Seq.at Tryz.func16 (by decide)
theorem Seq.func17 : Seq.prog.funcs[17]? = some Tryz.f17 := Seq.at Tryz.func17 (by decide)
theorem Seq.func18 : Seq.prog.funcs[18]? = some Tryz.f18 := Seq.at Tryz.func18 (by decide)
theorem Seq.func19 : Seq.prog.funcs[19]? = some Tryz.f19 := Seq.at Tryz.func19 (by decide)
theorem Seq.func21 : Seq.prog.funcs[21]? = some Tryz.f21 := Seq.at Tryz.func21 (by decide)
theorem Seq.func22 : Seq.prog.funcs[22]? = some Tryz.f22 := Seq.at Tryz.func22 (by decide)
theorem Seq.func23 : Seq.prog.funcs[23]? = some Tryz.f23 := Seq.at Tryz.func23 (by decide)
theorem Seq.func24 : Seq.prog.funcs[24]? = some Tryz.f24 := Seq.at Tryz.func24 (by decide)
theorem Seq.func25 : Seq.prog.funcs[25]? = some Tryz.f25 := Seq.at Tryz.func25 (by decide)
theorem Seq.func26 : Seq.prog.funcs[26]? = some Tryz.f26 := Seq.at Tryz.func26 (by decide)
theorem Seq.func27 : Seq.prog.funcs[27]? = some Tryz.f27 := Seq.at Tryz.func27 (by decide)
theorem Seq.func28 : Seq.prog.funcs[28]? = some Tryz.f28 := Seq.at Tryz.func28 (by decide)
theorem Seq.func29 : Seq.prog.funcs[29]? = some Tryz.f29 := Seq.at Tryz.func29 (by decide)
theorem Seq.func30 : Seq.prog.funcs[30]? = some Tryz.f30 := Seq.at Tryz.func30 (by decide)
theorem Seq.func31 : Seq.prog.funcs[31]? = some Tryz.f31 := Seq.at Tryz.func31 (by decide)
theorem Seq.func32 : Seq.prog.funcs[32]? = some Tryz.f32 := Seq.at Tryz.func32 (by decide)
theorem Seq.func36 : Seq.prog.funcs[36]? = some Tryz.f36 := Seq.at Tryz.func36 (by decide)
theorem Seq.func38 : Seq.prog.funcs[38]? = some Tryz.f38 := Seq.at Tryz.func38 (by decide)
theorem Seq.func39 : Seq.prog.funcs[39]? = some Tryz.f39 := Seq.at Tryz.func39 (by decide)
theorem Seq.func40 : Seq.prog.funcs[40]? = some Tryz.f40 := Seq.at Tryz.func40 (by decide)
theorem Seq.func41 : Seq.prog.funcs[41]? = some Tryz.f41 := Seq.at Tryz.func41 (by decide)
theorem Seq.func42 : Seq.prog.funcs[42]? = some Tryz.f42 := Seq.at Tryz.func42 (by decide)
theorem Seq.func43 : Seq.prog.funcs[43]? = some Tryz.f43 := Seq.at Tryz.func43 (by decide)
theorem Seq.func44 : Seq.prog.funcs[44]? = some Tryz.f44 := Seq.at Tryz.func44 (by decide)
theorem Seq.func45 : Seq.prog.funcs[45]? = some Tryz.f45 := Seq.at Tryz.func45 (by decide)
theorem Seq.func59 : Seq.prog.funcs[59]? = some Tryz.f59 := Seq.at Tryz.func59 (by decide)
theorem Seq.func65 : Seq.prog.funcs[65]? = some Tryz.f65 := Seq.at Tryz.func65 (by decide)
theorem Seq.func66 : Seq.prog.funcs[66]? = some Tryz.f66 := Seq.at Tryz.func66 (by decide)
theorem Seq.func67 : Seq.prog.funcs[67]? = some Tryz.f67 := Seq.at Tryz.func67 (by decide)
theorem Seq.func68 : Seq.prog.funcs[68]? = some Tryz.f68 := Seq.at Tryz.func68 (by decide)
theorem Seq.func69 : Seq.prog.funcs[69]? = some Tryz.f69 := Seq.at Tryz.func69 (by decide)
theorem Seq.func70 : Seq.prog.funcs[70]? = some Tryz.f70 := Seq.at Tryz.func70 (by decide)
theorem Seq.func71 : Seq.prog.funcs[71]? = some Tryz.f71 := Seq.at Tryz.func71 (by decide)
theorem Seq.func72 : Seq.prog.funcs[72]? = some Tryz.f72 := Seq.at Tryz.func72 (by decide)
theorem Seq.func73 : Seq.prog.funcs[73]? = some Tryz.f73 := Seq.at Tryz.func73 (by decide)
theorem Seq.func74 : Seq.prog.funcs[74]? = some Tryz.f74 := Seq.at Tryz.func74 (by decide)
theorem Seq.func75 : Seq.prog.funcs[75]? = some Tryz.f75 := Seq.at Tryz.func75 (by decide)
theorem Seq.func76 : Seq.prog.funcs[76]? = some Tryz.f76 := Seq.at Tryz.func76 (by decide)
theorem Seq.func77 : Seq.prog.funcs[77]? = some Tryz.f77 := Seq.at Tryz.func77 (by decide)
theorem Seq.func78 : Seq.prog.funcs[78]? = some Tryz.f78 := Seq.at Tryz.func78 (by decide)
theorem Seq.func83 : Seq.prog.funcs[83]? = some Tryz.f83 := Seq.at Tryz.func83 (by decide)
theorem Seq.func85 : Seq.prog.funcs[85]? = some Tryz.f85 := Seq.at Tryz.func85 (by decide)
theorem Seq.func86 : Seq.prog.funcs[86]? = some Tryz.f86 := Seq.at Tryz.func86 (by decide)
theorem Seq.func87 : Seq.prog.funcs[87]? = some Tryz.f87 := Seq.at Tryz.func87 (by decide)
theorem Seq.func88 : Seq.prog.funcs[88]? = some Tryz.f88 := Seq.at Tryz.func88 (by decide)
theorem Seq.func89 : Seq.prog.funcs[89]? = some Tryz.f89 := Seq.at Tryz.func89 (by decide)
theorem Seq.func90 : Seq.prog.funcs[90]? = some Tryz.f90 := Seq.at Tryz.func90 (by decide)
theorem Seq.func91 : Seq.prog.funcs[91]? = some Tryz.f91 := Seq.at Tryz.func91 (by decide)
theorem Seq.func92 : Seq.prog.funcs[92]? = some Tryz.f92 := Seq.at Tryz.func92 (by decide)
theorem Seq.func93 : Seq.prog.funcs[93]? = some Tryz.f93 := Seq.at Tryz.func93 (by decide)
theorem Seq.func94 : Seq.prog.funcs[94]? = some Tryz.f94 := Seq.at Tryz.func94 (by decide)
theorem Seq.func95 : Seq.prog.funcs[95]? = some Tryz.f95 := Seq.at Tryz.func95 (by decide)
theorem Seq.func96 : Seq.prog.funcs[96]? = some Tryz.f96 := Seq.at Tryz.func96 (by decide)
theorem Seq.func97 : Seq.prog.funcs[97]? = some Tryz.f97 := Seq.at Tryz.func97 (by decide)
theorem Seq.func98 : Seq.prog.funcs[98]? = some Tryz.f98 := Seq.at Tryz.func98 (by decide)
theorem Seq.func99 : Seq.prog.funcs[99]? = some Tryz.f99 := Seq.at Tryz.func99 (by decide)
theorem Seq.func100 : Seq.prog.funcs[100]? = some Tryz.f100 := Seq.at Tryz.func100 (by decide)
theorem Seq.func101 : Seq.prog.funcs[101]? = some Tryz.f101 := Seq.at Tryz.func101 (by decide)
theorem Seq.func102 : Seq.prog.funcs[102]? = some Tryz.f102 := Seq.at Tryz.func102 (by decide)
theorem Seq.func103 : Seq.prog.funcs[103]? = some Tryz.f103 := Seq.at Tryz.func103 (by decide)
theorem Seq.func104 : Seq.prog.funcs[104]? = some Tryz.f104 := Seq.at Tryz.func104 (by decide)
theorem Seq.func105 : Seq.prog.funcs[105]? = some Tryz.f105 := Seq.at Tryz.func105 (by decide)
theorem Seq.func106 : Seq.prog.funcs[106]? = some Tryz.f106 := Seq.at Tryz.func106 (by decide)
theorem Seq.func107 : Seq.prog.funcs[107]? = some Tryz.f107 := Seq.at Tryz.func107 (by decide)
theorem Seq.func108 : Seq.prog.funcs[108]? = some Tryz.f108 := Seq.at Tryz.func108 (by decide)
theorem Seq.func109 : Seq.prog.funcs[109]? = some Tryz.f109 := Seq.at Tryz.func109 (by decide)
theorem Seq.func110 : Seq.prog.funcs[110]? = some Tryz.f110 := Seq.at Tryz.func110 (by decide)
theorem Seq.func111 : Seq.prog.funcs[111]? = some Tryz.f111 := Seq.at Tryz.func111 (by decide)
theorem Seq.func112 : Seq.prog.funcs[112]? = some Tryz.f112 := Seq.at Tryz.func112 (by decide)
theorem Seq.func113 : Seq.prog.funcs[113]? = some Tryz.f113 := Seq.at Tryz.func113 (by decide)
theorem Seq.func114 : Seq.prog.funcs[114]? = some Tryz.f114 := Seq.at Tryz.func114 (by decide)
theorem Seq.func115 : Seq.prog.funcs[115]? = some Tryz.f115 := Seq.at Tryz.func115 (by decide)
theorem Seq.func116 : Seq.prog.funcs[116]? = some Tryz.f116 := Seq.at Tryz.func116 (by decide)
theorem Seq.func117 : Seq.prog.funcs[117]? = some Tryz.f117 := Seq.at Tryz.func117 (by decide)
theorem Seq.func118 : Seq.prog.funcs[118]? = some Tryz.f118 := Seq.at Tryz.func118 (by decide)
theorem Seq.func119 : Seq.prog.funcs[119]? = some Tryz.f119 := Seq.at Tryz.func119 (by decide)
theorem Seq.func120 : Seq.prog.funcs[120]? = some Tryz.f120 := Seq.at Tryz.func120 (by decide)
theorem Seq.func121 : Seq.prog.funcs[121]? = some Tryz.f121 := Seq.at Tryz.func121 (by decide)
@[simp] theorem Seq.call4 (args : Array Value) (w : World) : (callFunc 4 args).run Seq.prog w = .ok (.enter 4 args) w := Seq.call (by rfl) args w
@[simp] theorem Seq.call5 (args : Array Value) (w : World) : (callFunc 5 args).run Seq.prog w = .ok (.enter 5 args) w := Seq.call (by rfl) args w
@[simp] theorem Seq.call6 (args : Array Value) (w : World) : (callFunc 6 args).run Seq.prog w = .ok (.enter 6 args) w := Seq.call (by rfl) args w
@[simp] theorem Seq.call7 (args : Array Value) (w : World) : (callFunc 7 args).run Seq.prog w = .ok (.enter 7 args) w := Seq.call (by rfl) args w
@[simp] theorem Seq.call8 (args : Array Value) (w : World) : (callFunc 8 args).run Seq.prog w = .ok (.enter 8 args) w := Seq.call (by rfl) args w
@[simp] theorem Seq.call9 (args : Array Value) (w : World) : (callFunc 9 args).run Seq.prog w = .ok (.enter 9 args) w := Seq.call (by rfl) args w
@[simp] theorem Seq.call10 (args : Array Value) (w : World) : (callFunc 10 args).run Seq.prog w = .ok (.enter 10 args) w := Seq.call (by rfl) args w
@[simp] theorem Seq.call11 (args : Array Value) (w : World) : (callFunc 11 args).run Seq.prog w = .ok (.enter 11 args) w := Seq.call (by rfl) args w
@[simp] theorem Seq.call12 (args : Array Value) (w : World) : (callFunc 12 args).run Seq.prog w = .ok (.enter 12 args) w := Seq.call (by rfl) args w
@[simp] theorem Seq.call13 (args : Array Value) (w : World) : (callFunc 13 args).run Seq.prog w = .ok (.enter 13 args) w := Seq.call (by rfl) args w
@[simp] theorem Seq.call14 (args : Array Value) (w : World) : (callFunc 14 args).run Seq.prog w = .ok (.enter 14 args) w := Seq.call (by rfl) args w
@[simp] theorem Seq.call15 (args : Array Value) (w : World) : (callFunc 15 args).run Seq.prog w = .ok (.enter 15 args) w := Seq.call (by rfl) args w
@[simp] theorem Seq.call16 (args : Array Value) (w : World) : (callFunc 16 args).run Seq.prog w = .ok (.enter 16 args) w := Seq.call (by rfl) args w
@[simp] theorem Seq.call17 (args : Array Value) (w : World) : (callFunc 17 args).run Seq.prog w = .ok (.enter 17 args) w := Seq.call (by rfl) args w
@[simp] theorem Seq.call18 (args : Array Value) (w : World) : (callFunc 18 args).run Seq.prog w = .ok (.enter 18 args) w := Seq.call (by rfl) args w
@[simp] theorem Seq.call19 (args : Array Value) (w : World) : (callFunc 19 args).run Seq.prog w = .ok (.enter 19 args) w := Seq.call (by rfl) args w
@[simp] theorem Seq.call21 (args : Array Value) (w : World) : (callFunc 21 args).run Seq.prog w = .ok (.enter 21 args) w := Seq.call (by rfl) args w
@[simp] theorem Seq.call22 (args : Array Value) (w : World) : (callFunc 22 args).run Seq.prog w = .ok (.enter 22 args) w := Seq.call (by rfl) args w
@[simp] theorem Seq.call23 (args : Array Value) (w : World) : (callFunc 23 args).run Seq.prog w = .ok (.enter 23 args) w := Seq.call (by rfl) args w
@[simp] theorem Seq.call24 (args : Array Value) (w : World) : (callFunc 24 args).run Seq.prog w = .ok (.enter 24 args) w := Seq.call (by rfl) args w
@[simp] theorem Seq.call25 (args : Array Value) (w : World) : (callFunc 25 args).run Seq.prog w = .ok (.enter 25 args) w := Seq.call (by rfl) args w
@[simp] theorem Seq.call26 (args : Array Value) (w : World) : (callFunc 26 args).run Seq.prog w = .ok (.enter 26 args) w := Seq.call (by rfl) args w
@[simp] theorem Seq.call28 (args : Array Value) (w : World) : (callFunc 28 args).run Seq.prog w = .ok (.enter 28 args) w := Seq.call (by rfl) args w
@[simp] theorem Seq.call29 (args : Array Value) (w : World) : (callFunc 29 args).run Seq.prog w = .ok (.enter 29 args) w := Seq.call (by rfl) args w
@[simp] theorem Seq.call30 (args : Array Value) (w : World) : (callFunc 30 args).run Seq.prog w = .ok (.enter 30 args) w := Seq.call (by rfl) args w
@[simp] theorem Seq.call31 (args : Array Value) (w : World) : (callFunc 31 args).run Seq.prog w = .ok (.enter 31 args) w := Seq.call (by rfl) args w
@[simp] theorem Seq.call32 (args : Array Value) (w : World) : (callFunc 32 args).run Seq.prog w = .ok (.enter 32 args) w := Seq.call (by rfl) args w
@[simp] theorem Seq.call36 (args : Array Value) (w : World) : (callFunc 36 args).run Seq.prog w = .ok (.enter 36 args) w := Seq.call (by rfl) args w
@[simp] theorem Seq.call38 (args : Array Value) (w : World) : (callFunc 38 args).run Seq.prog w = .ok (.enter 38 args) w := Seq.call (by rfl) args w
@[simp] theorem Seq.call39 (args : Array Value) (w : World) : (callFunc 39 args).run Seq.prog w = .ok (.enter 39 args) w := Seq.call (by rfl) args w
@[simp] theorem Seq.call40 (args : Array Value) (w : World) : (callFunc 40 args).run Seq.prog w = .ok (.enter 40 args) w := Seq.call (by rfl) args w
@[simp] theorem Seq.call41 (args : Array Value) (w : World) : (callFunc 41 args).run Seq.prog w = .ok (.enter 41 args) w := Seq.call (by rfl) args w
@[simp] theorem Seq.call42 (args : Array Value) (w : World) : (callFunc 42 args).run Seq.prog w = .ok (.enter 42 args) w := Seq.call (by rfl) args w
@[simp] theorem Seq.call43 (args : Array Value) (w : World) : (callFunc 43 args).run Seq.prog w = .ok (.enter 43 args) w := Seq.call (by rfl) args w
@[simp] theorem Seq.call44 (args : Array Value) (w : World) : (callFunc 44 args).run Seq.prog w = .ok (.enter 44 args) w := Seq.call (by rfl) args w
@[simp] theorem Seq.call45 (args : Array Value) (w : World) : (callFunc 45 args).run Seq.prog w = .ok (.enter 45 args) w := Seq.call (by rfl) args w
@[simp] theorem Seq.call59 (args : Array Value) (w : World) : (callFunc 59 args).run Seq.prog w = .ok (.enter 59 args) w := Seq.call (by rfl) args w
@[simp] theorem Seq.call65 (args : Array Value) (w : World) : (callFunc 65 args).run Seq.prog w = .ok (.enter 65 args) w := Seq.call (by rfl) args w
@[simp] theorem Seq.call66 (args : Array Value) (w : World) : (callFunc 66 args).run Seq.prog w = .ok (.enter 66 args) w := Seq.call (by rfl) args w
@[simp] theorem Seq.call67 (args : Array Value) (w : World) : (callFunc 67 args).run Seq.prog w = .ok (.enter 67 args) w := Seq.call (by rfl) args w
@[simp] theorem Seq.call68 (args : Array Value) (w : World) : (callFunc 68 args).run Seq.prog w = .ok (.enter 68 args) w := Seq.call (by rfl) args w
@[simp] theorem Seq.call69 (args : Array Value) (w : World) : (callFunc 69 args).run Seq.prog w = .ok (.enter 69 args) w := Seq.call (by rfl) args w
@[simp] theorem Seq.call70 (args : Array Value) (w : World) : (callFunc 70 args).run Seq.prog w = .ok (.enter 70 args) w := Seq.call (by rfl) args w
@[simp] theorem Seq.call71 (args : Array Value) (w : World) : (callFunc 71 args).run Seq.prog w = .ok (.enter 71 args) w := Seq.call (by rfl) args w
@[simp] theorem Seq.call73 (args : Array Value) (w : World) : (callFunc 73 args).run Seq.prog w = .ok (.enter 73 args) w := Seq.call (by rfl) args w
@[simp] theorem Seq.call74 (args : Array Value) (w : World) : (callFunc 74 args).run Seq.prog w = .ok (.enter 74 args) w := Seq.call (by rfl) args w
@[simp] theorem Seq.call75 (args : Array Value) (w : World) : (callFunc 75 args).run Seq.prog w = .ok (.enter 75 args) w := Seq.call (by rfl) args w
@[simp] theorem Seq.call77 (args : Array Value) (w : World) : (callFunc 77 args).run Seq.prog w = .ok (.enter 77 args) w := Seq.call (by rfl) args w
@[simp] theorem Seq.call78 (args : Array Value) (w : World) : (callFunc 78 args).run Seq.prog w = .ok (.enter 78 args) w := Seq.call (by rfl) args w
@[simp] theorem Seq.call83 (args : Array Value) (w : World) : (callFunc 83 args).run Seq.prog w = .ok (.enter 83 args) w := Seq.call (by rfl) args w
@[simp] theorem Seq.call85 (args : Array Value) (w : World) : (callFunc 85 args).run Seq.prog w = .ok (.enter 85 args) w := Seq.call (by rfl) args w
@[simp] theorem Seq.call86 (args : Array Value) (w : World) : (callFunc 86 args).run Seq.prog w = .ok (.enter 86 args) w := Seq.call (by rfl) args w
@[simp] theorem Seq.call87 (args : Array Value) (w : World) : (callFunc 87 args).run Seq.prog w = .ok (.enter 87 args) w := Seq.call (by rfl) args w
@[simp] theorem Seq.call88 (args : Array Value) (w : World) : (callFunc 88 args).run Seq.prog w = .ok (.enter 88 args) w := Seq.call (by rfl) args w
@[simp] theorem Seq.call89 (args : Array Value) (w : World) : (callFunc 89 args).run Seq.prog w = .ok (.enter 89 args) w := Seq.call (by rfl) args w
@[simp] theorem Seq.call90 (args : Array Value) (w : World) : (callFunc 90 args).run Seq.prog w = .ok (.enter 90 args) w := Seq.call (by rfl) args w
@[simp] theorem Seq.call91 (args : Array Value) (w : World) : (callFunc 91 args).run Seq.prog w = .ok (.enter 91 args) w := Seq.call (by rfl) args w
@[simp] theorem Seq.call92 (args : Array Value) (w : World) : (callFunc 92 args).run Seq.prog w = .ok (.enter 92 args) w := Seq.call (by rfl) args w
@[simp] theorem Seq.call93 (args : Array Value) (w : World) : (callFunc 93 args).run Seq.prog w = .ok (.enter 93 args) w := Seq.call (by rfl) args w
@[simp] theorem Seq.call95 (args : Array Value) (w : World) : (callFunc 95 args).run Seq.prog w = .ok (.enter 95 args) w := Seq.call (by rfl) args w
@[simp] theorem Seq.call96 (args : Array Value) (w : World) : (callFunc 96 args).run Seq.prog w = .ok (.enter 96 args) w := Seq.call (by rfl) args w
@[simp] theorem Seq.call97 (args : Array Value) (w : World) : (callFunc 97 args).run Seq.prog w = .ok (.enter 97 args) w := Seq.call (by rfl) args w
@[simp] theorem Seq.call98 (args : Array Value) (w : World) : (callFunc 98 args).run Seq.prog w = .ok (.enter 98 args) w := Seq.call (by rfl) args w
@[simp] theorem Seq.call100 (args : Array Value) (w : World) : (callFunc 100 args).run Seq.prog w = .ok (.enter 100 args) w := Seq.call (by rfl) args w
@[simp] theorem Seq.call103 (args : Array Value) (w : World) : (callFunc 103 args).run Seq.prog w = .ok (.enter 103 args) w := Seq.call (by rfl) args w
end Go.Proofs.YthgelfnflafoiabGreat
namespace Go.Proofs.YthgelfnflafoiabGreat
namespace Sim
open Go.Conc (base)
section
variable {P : Program} {b : Frame} {a : Act} {k : List Item} {cs : List Frame} {s : World}
theorem g_seq (x y : Code) : (gsem P (b.at a (.code (.seq x y) :: k) :: cs)).run P s = .ok (b.at a (.code x :: .code y :: k) :: cs) s := rfl
theorem g_region (id : Nat) (ops : Array Oper) : (gsem P (b.at a (.code (.region id ops false) :: k) :: cs)).run P s = .ok (b.at a (.inRegion ops (List.range ops.size) :: k) :: cs) s := rfl
theorem g_draw (id : Nat) (ops : Array Oper) : (gsem P (b.at a (.code (.region id ops true) :: k) :: cs)).run P s = .ok (b.at a (.inRegion ops (Region.schedule (P.follows .mixedOrders) ops (s.tape s.drawn (.order b.fn id))) :: k) :: cs) { s with drawn := s.drawn + 1 } := rfl
theorem g_pop (ops : Array Oper) : (gsem P (b.at a (.inRegion ops [] :: k) :: cs)).run P s = .ok (b.at a k :: cs) s := rfl
theorem g_block (id : Nat) (x : Code) : (gsem P (b.at a (.code (.block id x) :: k) :: cs)).run P s = .ok (b.at a (.code x :: .inBlock id :: k) :: cs) s := rfl
theorem g_loop (x : Code) : (gsem P (b.at a (.code (.loop x) :: k) :: cs)).run P s = .ok (b.at a (.code x :: .inLoop x :: k) :: cs) s := rfl
theorem g_again (x : Code) : (gsem P (b.at a (.inLoop x :: k) :: cs)).run P s = .ok (b.at a (.code x :: .inLoop x :: k) :: cs) s := rfl
theorem g_exit (id : Nat) {k' : List Item} (h : exitTo id k = some k') : (gsem P (b.at a (.code (.exit id) :: k) :: cs)).run P s = .ok (b.at a k' :: cs) s := by
 unfold gsem
 simp only [Frame.at, h]
 rfl
theorem g_cond (c : Operand) (x y : Code) {v : Bool} (h : a.eval c = .bool v) : (gsem P (b.at a (.code (.cond c x y) :: k) :: cs)).run P s = .ok (b.at a (.code (if v then x else y) :: k) :: cs) s := by
 have h' : (b.at a (.code (.cond c x y) :: k)).eval c = .bool v := by rw [Frame.eval_at]; exact h
 unfold gsem
 simp only [show (b.at a (.code (.cond c x y) :: k)).mode = .run from rfl, show (b.at a (.code (.cond c x y) :: k)).todo = .code (.cond c x y) :: k from rfl, h']
 rfl
theorem g_ret : (gsem P (b.at a (.code .ret :: k) :: cs)).run P s = .ok ({ b.at a (.code .ret :: k) with mode := .returning } :: cs) s := rfl
theorem g_value {ops : Array Oper} {i : Nat} {rest : List Nat} {o : Oper} {v : Value} {s' : World} (ho : ops[i]? = some o) (hg : o.guard = none) (hr : (execOp a.eval o).run P s = .ok (.value v) s') :
   (gsem P (b.at a (.inRegion ops (i :: rest) :: k) :: cs)).run P s = .ok (b.at (a.put o.dst v) (.inRegion ops rest :: k) :: cs) s' := by
 have hfin : (b.at a (.inRegion ops (i :: rest) :: k)).finish v = b.at (a.put o.dst v) (.inRegion ops rest :: k) := by rw [Frame.finish_at, ho]; rfl
 have hw : Region.wanted o (yielded ops (b.at a (.inRegion ops (i :: rest) :: k)).tmps) = true := by simp [Region.wanted, hg]
 have hr' : (execOp (b.at a (.inRegion ops (i :: rest) :: k)).eval o).run P s = .ok (.value v) s' := by rw [Frame.eval_at']; exact hr
 have e : gsem P (b.at a (.inRegion ops (i :: rest) :: k) :: cs) = ((execOp (b.at a (.inRegion ops (i :: rest) :: k)).eval o).bind fun n => afterOp P (b.at a (.inRegion ops (i :: rest) :: k)) cs n) := by
   conv => lhs; unfold gsem
   simp only [show (b.at a (.inRegion ops (i :: rest) :: k)).mode = .run from rfl, show (b.at a (.inRegion ops (i :: rest) :: k)).todo = .inRegion ops (i :: rest) :: k from rfl, ho, hw, if_true]
   rfl
 rw [e, Sem.run_bind', hr', <- hfin]
 rfl
theorem g_none {ops : Array Oper} {i : Nat} {rest : List Nat} {o : Oper} {s' : World} (ho : ops[i]? = some o) (hg : o.guard = none) (hr : (execOp a.eval o).run P s = .ok .skip s') :
   (gsem P (b.at a (.inRegion ops (i :: rest) :: k) :: cs)).run P s = .ok (b.at (a.put o.dst undef) (.inRegion ops rest :: k) :: cs) s' := by
 have hfin : (b.at a (.inRegion ops (i :: rest) :: k)).finish undef = b.at (a.put o.dst undef) (.inRegion ops rest :: k) := by rw [Frame.finish_at, ho]; rfl
 have hw : Region.wanted o (yielded ops (b.at a (.inRegion ops (i :: rest) :: k)).tmps) = true := by simp [Region.wanted, hg]
 have hr' : (execOp (b.at a (.inRegion ops (i :: rest) :: k)).eval o).run P s = .ok .skip s' := by rw [Frame.eval_at']; exact hr
 have e : gsem P (b.at a (.inRegion ops (i :: rest) :: k) :: cs) = ((execOp (b.at a (.inRegion ops (i :: rest) :: k)).eval o).bind fun n => afterOp P (b.at a (.inRegion ops (i :: rest) :: k)) cs n) := by
   conv => lhs; unfold gsem
   simp only [show (b.at a (.inRegion ops (i :: rest) :: k)).mode = .run from rfl, show (b.at a (.inRegion ops (i :: rest) :: k)).todo = .inRegion ops (i :: rest) :: k from rfl, ho, hw, if_true]
   rfl
 rw [e, Sem.run_bind', hr', <- hfin]
 rfl
theorem g_enter {ops : Array Oper} {i : Nat} {rest : List Nat} {o : Oper} {f : FuncId} {x : Array Value} {s' : World} (ho : ops[i]? = some o) (hg : o.guard = none) (hr : (execOp a.eval o).run P s = .ok (.enter f x) s') :
   (gsem P (b.at a (.inRegion ops (i :: rest) :: k) :: cs)).run P s = .ok (Frame.enter P f x .normal :: b.at a (.inRegion ops (i :: rest) :: k) :: cs) s' := by
 have hw : Region.wanted o (yielded ops (b.at a (.inRegion ops (i :: rest) :: k)).tmps) = true := by simp [Region.wanted, hg]
 have hr' : (execOp (b.at a (.inRegion ops (i :: rest) :: k)).eval o).run P s = .ok (.enter f x) s' := by rw [Frame.eval_at']; exact hr
 have e : gsem P (b.at a (.inRegion ops (i :: rest) :: k) :: cs) = ((execOp (b.at a (.inRegion ops (i :: rest) :: k)).eval o).bind fun n => afterOp P (b.at a (.inRegion ops (i :: rest) :: k)) cs n) := by
   conv => lhs; unfold gsem
   simp only [show (b.at a (.inRegion ops (i :: rest) :: k)).mode = .run from rfl, show (b.at a (.inRegion ops (i :: rest) :: k)).todo = .inRegion ops (i :: rest) :: k from rfl, ho, hw, if_true]
   rfl
 rw [e, Sem.run_bind', hr']
 rfl
theorem s_panic {ops : Array Oper} {i : Nat} {rest : List Nat} {o : Oper} {v : Value} {s' : World} (ho : ops[i]? = some o) (hg : o.guard = none) (hr : (execOp a.eval o).run P s = .halt (.panic v) s') :
   step P (lone (b.at a (.inRegion ops (i :: rest) :: k)) cs s) = .next (lone ((b.at a (.inRegion ops (i :: rest) :: k)).raise [{ v, recovered := false }]) cs s') := by
 have hw : Region.wanted o (yielded ops a.tmps) = true := by simp [Region.wanted, hg]
 refine step_lone_go ?_
 have := Go.Conc.stepG_oper (P := P) (main := true) (b := b) (cs := cs) (w := s) (k := k) (rest := rest) ho hw
 simp only [Go.Conc.G] at this
 rw [this]
 simp [stepG.apply, Sem.runT_eq, hr, GStep.after]
end
end Sim
end Go.Proofs.YthgelfnflafoiabGreat
namespace Go.Proofs.YthgelfnflafoiabGreat
namespace Sim
open Go.Conc (base)
noncomputable def bq : Frame := base 20
theorem enterq (x y z : Value) : Frame.enter Seq.prog 20 #[x, y, z] .normal = bq.at ⟨#[x, y, z, undef, undef, undef, undef, undef, undef, undef, undef, undef, undef, undef, undef], []⟩ [.code bodyS] := by
 rw [Go.Conc.enter_at (fn := fS) (c := bodyS) _ Seq.sp rfl]
 rfl
def wq1 (s : World) : World := s.alloc (.cells #[.int .i64 0] 3)
theorem q_alloc (a : Act) (s : World) : (execOp a.eval (op1 (some 4) (.alloc 3) 3 #[])).run Seq.prog s = .ok (.value (.pointer (some ⟨s.heap.size, 0, none⟩))) (wq1 s) := by
 unfold execOp
 simp only [op1]
 simp [go_sem, wq1]
theorem q_load {a : Act} {s : World} {r : Nat} {n : Int} (hp : a.eval (.tmp 4) = .pointer (some ⟨r, 0, none⟩)) (hc : s.cell? ⟨r, 0, none⟩ = some (.int .i64 n)) :
   (execOp a.eval (op1 (some 5) (.load 3 (.tmp 4)) 3 #[])).run Seq.prog s = .ok (.value (.int .i64 n)) s := by
 unfold execOp
 simp only [op1, hp]
 simp [go_sem, hc]
theorem q_store {a : Act} {s : World} {r : Nat} {n : Int} (hp : a.eval (.tmp 4) = .pointer (some ⟨r, 0, none⟩)) (hc : s.cell? ⟨r, 0, none⟩ = some (.int .i64 n)) (hf : s.frozen? ⟨r, 0, none⟩ = false) :
   (execOp a.eval (op1 none (.store 3 (.tmp 4) (.const (.int .i64 1))) 3 #[])).run Seq.prog s = .ok .skip (s.setCell ⟨r, 0, none⟩ (.int .i64 1)) := by
 unfold execOp
 simp only [op1, hp]
 simp [go_sem, hc, hf, Act.eval]
theorem q_eq {a : Act} {s : World} {n : Int} (hp : a.eval (.tmp 5) = .int .i64 n) :
   (execOp a.eval (op1 (some 6) (.binOp .eql 3 (.tmp 5) (.const (.int .i64 1)) 3) 4 #[])).run Seq.prog s = .ok (.value (.bool (n == 1))) s := by
 unfold execOp
 simp only [op1, hp]
 simp [go_sem, Act.eval]
def clo (x y z : Value) : Value := .func (.func 36) #[x, y, z] #[]
theorem q_clo {a : Act} {s : World} : (execOp a.eval (op1 (some 7) (.makeFunc (.func 36) #[.tmp 0, .tmp 1, .tmp 2] #[]) 3 #[])).run Seq.prog s = .ok (.value (clo (a.eval (.tmp 0)) (a.eval (.tmp 1)) (a.eval (.tmp 2)))) s := by
 unfold execOp
 simp only [op1]
 simp [go_sem, clo, Instr.makeFunc]
theorem q_box {a : Act} {s : World} {x y z : Value} (hp : a.eval (.tmp 7) = clo x y z) :
   (execOp a.eval (op1 (some 8) (.box 3 (.tmp 7)) 3 #[])).run Seq.prog s = .ok (.value (.pointer (some ⟨s.heap.size, 0, none⟩))) (s.alloc (.cells #[clo x y z] 3)) := by
 unfold execOp
 simp only [op1, hp]
 simp [go_sem, clo]
theorem q_die {a : Act} {s : World} : ∃ v, (execOp a.eval (op1 none (.nilCheck (.const (.pointer none))) 3 #[])).run Seq.prog s = .halt (.panic v) s := by
 refine ⟨?_, ?_⟩
 rotate_left
 · unfold execOp
   simp only [op1]
   simp [go_sem, Act.eval]
   rfl
def opsq : Array Oper := #[op1 (some 5) (.load 3 (.tmp 4)) 3 #[], op1 none (.store 3 (.tmp 4) (.const (.int .i64 1))) 3 #[]]
theorem sched0 : Region.schedule (Seq.prog.follows .mixedOrders) opsq 0 = [0, 1] := by kernel_rfl
theorem sched1 : Region.schedule (Seq.prog.follows .mixedOrders) opsq 1 = [1, 0] := by kernel_rfl
def ops3 : Array Oper := #[op1 (some 7) (.makeFunc (.func 36) #[.tmp 0, .tmp 1, .tmp 2] #[]) 3 #[], op1 (some 8) (.box 3 (.tmp 7)) 3 #[], op1 none (.nilCheck (.const (.pointer none))) 3 #[]]
section
variable {x y z : Value} {cs : List Frame}
def wq2 (s : World) : World := { wq1 s with drawn := s.drawn + 1 }
def wq3 (s : World) : World := (wq2 s).setCell ⟨s.heap.size, 0, none⟩ (.int .i64 1)
def wqD (s : World) (x y z : Value) : World := (wq3 s).alloc (.cells #[clo x y z] 3)
theorem wq2_cell (s : World) : (wq2 s).cell? ⟨s.heap.size, 0, none⟩ = some (.int .i64 0) := by simp [wq2, wq1, World.cell?, World.alloc, -World.alloc_eq]
theorem wq2_frozen (s : World) : (wq2 s).frozen? ⟨s.heap.size, 0, none⟩ = false := by simp [wq2, wq1, World.frozen?, World.alloc, -World.alloc_eq]
theorem wq3_cell (s : World) : (wq3 s).cell? ⟨s.heap.size, 0, none⟩ = some (.int .i64 1) := World.cell?_setCell_same _ _ _ (wq2_cell s)
theorem q_death (s : World) (hs : s.tape s.drawn (.order 20 1) = 1) :
   ∃ fr v, GRun Seq.prog (Frame.enter Seq.prog 20 #[x, y, z] .normal :: cs) s (fr :: cs) (wqD s x y z) /\
     (∀ cs', step Seq.prog (lone fr cs' (wqD s x y z)) = .next (lone (fr.raise [{ v, recovered := false }]) cs' (wqD s x y z))) /\ fr.fn = 20 /\ fr.defers = [] := by
 obtain ⟨v, hv⟩ := q_die (a := ⟨#[x, y, z, undef, .pointer (some ⟨s.heap.size, 0, none⟩), .int .i64 1, .bool true, clo x y z, .pointer (some ⟨(wq3 s).heap.size, 0, none⟩), undef, undef, undef, undef, undef, undef], []⟩) (s := wqD s x y z)
 refine ⟨bq.at ⟨#[x, y, z, undef, .pointer (some ⟨s.heap.size, 0, none⟩), .int .i64 1, .bool true, clo x y z, .pointer (some ⟨(wq3 s).heap.size, 0, none⟩), undef, undef, undef, undef, undef, undef], []⟩ [.inRegion ops3 [2]], v, ?_, fun cs' => s_panic (o := op1 none (.nilCheck (.const (.pointer none))) 3 #[]) rfl rfl hv, rfl, rfl⟩
 rw [enterq]
 refine .head (g_seq _ _) ?_
 refine .head (g_region _ _) ?_
 refine .head (g_value rfl rfl (q_alloc _ _)) ?_
 refine .head (g_pop _) ?_
 refine .head (g_seq _ _) ?_
 refine .head (g_draw _ _) ?_
 rw [show (wq1 s).tape (wq1 s).drawn (.order bq.fn 1) = 1 from hs]
 rw [show (#[op1 (some 5) (.load 3 (.tmp 4)) 3 #[], op1 none (.store 3 (.tmp 4) (.const (.int .i64 1))) 3 #[]] : Array Oper) = opsq from rfl, sched1]
 refine .head (g_none (s' := wq3 s) rfl rfl (q_store (r := s.heap.size) rfl (wq2_cell s) (wq2_frozen s))) ?_
 refine .head (g_value rfl rfl (q_load (r := s.heap.size) (n := 1) rfl (wq3_cell s))) ?_
 refine .head (g_pop _) ?_
 refine .head (g_seq _ _) ?_
 refine .head (g_region _ _) ?_
 refine .head (g_value rfl rfl (q_eq (n := 1) rfl)) ?_
 refine .head (g_pop _) ?_
 refine .head (g_cond _ _ _ (v := true) rfl) ?_
 refine .head (g_region _ _) ?_
 refine .head (g_value rfl rfl q_clo) ?_
 refine .head (g_value rfl rfl (q_box (x := x) (y := y) (z := z) rfl)) ?_
 exact .refl _ _ _
end
end Sim
end Go.Proofs.YthgelfnflafoiabGreat
namespace Go.Proofs.YthgelfnflafoiabGreat
namespace Sim
theorem pre_of {fl : FuncId} {x0 : Array Value} {s0 s : World} {R : Ending -> World -> Prop} (hC : ∀ τ, Calls Seq.prog fl x0 (tp s0 τ 0) R) (ho : ∀ w', ¬ R .outgrown w')
   (hwf : WF Seq.prog Fq Tryz.prog.funcs.size [Frame.enter Seq.prog fl x0 .normal] s0) {x y z : Value} {cs : List Frame}
   (hrec : Rec Seq.prog [Frame.enter Seq.prog fl x0 .normal] s0 (Frame.enter Seq.prog 20 #[x, y, z] .normal :: cs) s) :
   ∃ ch τ d, R (.panicked ch) (wqD (tp s τ d) x y z) := by
 obtain ⟨_, _, _, _, H0, hF0, hsp, _⟩ := fq
 obtain ⟨m, τ, k, hag⟩ := hrec.again H0 hF0 hsp hwf
 have e1 := hag (fun i q => if i < k then τ i q else 1) 0 (fun i q hi => by simp only [Nat.zero_add]; rw [if_pos hi])
 obtain ⟨fr, v, ⟨j, e2⟩, e3, e4, e5⟩ := q_death (x := x) (y := y) (z := z) (cs := cs) (tp s (fun i q => if i < k then τ i q else 1) (0 + k)) (by
   show (if 0 + k < k then _ else 1) = 1
   rw [if_neg (by omega)])
 have e6 := giter_add m j e1 e2
 obtain ⟨fr', cs', hcons, hrun, hwf'⟩ := giter_runN H0 hF0 hsp (m + j) (hwf.tp _ _) e6
 obtain ⟨rfl, rfl⟩ := List.cons.inj hcons
 obtain ⟨r1, r2, r3⟩ := raise_keeps fr [{ v, recovered := false }]
 have hrun1 : runN Seq.prog (m + j + 1) (lone (Frame.enter Seq.prog fl x0 .normal) [catcher Seq.prog] (tp s0 (fun i q => if i < k then τ i q else 1) 0)) = .next (lone (fr.raise [{ v, recovered := false }]) (cs ++ [catcher Seq.prog]) (wqD (tp s (fun i q => if i < k then τ i q else 1) (0 + k)) x y z)) := by
   rw [List.nil_append] at hrun
   rw [runN_from (b := 1) hrun]
   simp only [runN, e3]
 obtain ⟨ch, hR⟩ := dies (hC _) ho hrun1 ⟨r2.trans e5, by rw [r1, e4]; exact ⟨fS, Seq.sp⟩, r3⟩ (fun c hc => hwf'.frames hF0 c (List.mem_cons_of_mem _ hc))
 exact ⟨ch, _, _, hR⟩
end Sim
end Go.Proofs.YthgelfnflafoiabGreat
namespace Go.Proofs.YthgelfnflafoiabGreat
namespace Sim
open Go.Conc (base)
theorem eval_put_same {a : Act} {d : Nat} {v : Value} (h : d < a.tmps.size) : (a.put (some d) v).eval (.tmp d) = v := by
 simp [Act.put, Act.eval, h]
theorem size_put (a : Act) (d : Option Nat) (v : Value) : (a.put d v).tmps.size = a.tmps.size := by
 cases d <;> simp [Act.put]
theorem q_boxv {a : Act} {s : World} {d : Nat} {t t' : TypeId} {x : Operand} :
   (execOp a.eval (op1 (some d) (.box t x) t' #[])).run Seq.prog s = .ok (.value (.pointer (some ⟨s.heap.size, 0, none⟩))) (s.alloc (.cells (a.eval x).cells t)) := by
 unfold execOp
 simp only [op1]
 simp [go_sem]
theorem g_halt {P : Program} {b : Frame} {a : Act} {k : List Item} {cs : List Frame} {s s' : World} {ops : Array Oper} {i : Nat} {rest : List Nat} {o : Oper} {h : Halt} (ho : ops[i]? = some o) (hg : o.guard = none) (hr : (execOp a.eval o).run P s = .halt h s') :
   (gsem P (b.at a (.inRegion ops (i :: rest) :: k) :: cs)).run P s = .halt h s' := by
 have hw : Region.wanted o (yielded ops (b.at a (.inRegion ops (i :: rest) :: k)).tmps) = true := by simp [Region.wanted, hg]
 have hr' : (execOp (b.at a (.inRegion ops (i :: rest) :: k)).eval o).run P s = .halt h s' := by rw [Frame.eval_at']; exact hr
 have e : gsem P (b.at a (.inRegion ops (i :: rest) :: k) :: cs) = ((execOp (b.at a (.inRegion ops (i :: rest) :: k)).eval o).bind fun n => afterOp P (b.at a (.inRegion ops (i :: rest) :: k)) cs n) := by
   conv => lhs; unfold gsem
   simp only [show (b.at a (.inRegion ops (i :: rest) :: k)).mode = .run from rfl, show (b.at a (.inRegion ops (i :: rest) :: k)).todo = .inRegion ops (i :: rest) :: k from rfl, ho, hw, if_true]
   rfl
 rw [e, Sem.run_bind', hr']
 rfl
theorem q_halts (x : Array Value) (cs : List Frame) (s : World) (hs : s.tape s.drawn (.order 20 1) = 1) :
   ∃ a sD, GRun Seq.prog (Frame.enter Seq.prog 20 x .normal :: cs) s (bq.at a [.inRegion ops3 [2]] :: cs) sD := by
 rw [Go.Conc.enter_at (fn := fS) (c := bodyS) _ Seq.sp rfl, show base 20 = bq from rfl, show fS.ntmps = 15 from rfl]
 have hsz : 15 <= (x ++ Array.replicate (15 - x.size) undef).size := by rw [Array.size_append, Array.size_replicate]; omega
 generalize ha : ({ tmps := x ++ Array.replicate (15 - x.size) undef, defers := [] } : Act) = a
 have hsz : 15 <= a.tmps.size := by rw [<- ha]; exact hsz
 have p4 : (a.put (some 4) (.pointer (some ⟨s.heap.size, 0, none⟩))).eval (.tmp 4) = .pointer (some ⟨s.heap.size, 0, none⟩) := eval_put_same (by omega)
 generalize ha1 : a.put (some 4) (.pointer (some ⟨s.heap.size, 0, none⟩)) = a1 at p4
 have hs1 : 15 <= a1.tmps.size := by rw [<- ha1, size_put]; exact hsz
 have p5 : (a1.put (some 5) (.int .i64 1)).eval (.tmp 5) = .int .i64 1 := eval_put_same (by omega)
 generalize ha2 : a1.put (some 5) (.int .i64 1) = a2 at p5
 have hs2 : 15 <= a2.tmps.size := by rw [<- ha2, size_put]; exact hs1
 have p6 : (a2.put (some 6) (.bool true)).eval (.tmp 6) = .bool true := eval_put_same (by omega)
 generalize ha3 : a2.put (some 6) (.bool true) = a3 at p6
 refine ⟨?_, ?_, ?_⟩
 rotate_left 2
 refine .head (g_seq _ _) ?_
 refine .head (g_region _ _) ?_
 refine .head (g_value (o := op1 (some 4) (.alloc 3) 3 #[]) rfl rfl (q_alloc _ _)) ?_
 rw [show a.put (op1 (some 4) (.alloc 3) 3 #[]).dst (.pointer (some ⟨s.heap.size, 0, none⟩)) = a1 from ha1]
 refine .head (g_pop _) ?_
 refine .head (g_seq _ _) ?_
 refine .head (g_draw _ _) ?_
 rw [show (wq1 s).tape (wq1 s).drawn (.order bq.fn 1) = 1 from hs]
 rw [show (#[op1 (some 5) (.load 3 (.tmp 4)) 3 #[], op1 none (.store 3 (.tmp 4) (.const (.int .i64 1))) 3 #[]] : Array Oper) = opsq from rfl, sched1]
 refine .head (g_none (o := op1 none (.store 3 (.tmp 4) (.const (.int .i64 1))) 3 #[]) (s' := wq3 s) rfl rfl (q_store (r := s.heap.size) p4 (wq2_cell s) (wq2_frozen s))) ?_
 refine .head (g_value (o := op1 (some 5) (.load 3 (.tmp 4)) 3 #[]) rfl rfl (q_load (r := s.heap.size) (n := 1) p4 (wq3_cell s))) ?_
 rw [show Act.put (Act.put a1 (op1 none (.store 3 (.tmp 4) (.const (.int .i64 1))) 3 #[]).dst undef) (op1 (some 5) (.load 3 (.tmp 4)) 3 #[]).dst (.int .i64 1) = a2 from ha2]
 refine .head (g_pop _) ?_
 refine .head (g_seq _ _) ?_
 refine .head (g_region _ _) ?_
 refine .head (g_value (o := op1 (some 6) (.binOp .eql 3 (.tmp 5) (.const (.int .i64 1)) 3) 4 #[]) rfl rfl (q_eq (n := 1) p5)) ?_
 rw [show a2.put (op1 (some 6) (.binOp .eql 3 (.tmp 5) (.const (.int .i64 1)) 3) 4 #[]).dst (.bool ((1 : Int) == 1)) = a3 from ha3]
 refine .head (g_pop _) ?_
 refine .head (g_cond _ _ _ (v := true) p6) ?_
 refine .head (g_region _ _) ?_
 refine .head (g_value rfl rfl q_clo) ?_
 refine .head (g_value rfl rfl q_boxv) ?_
 exact .refl _ _ _
theorem hno_sp (x : Array Value) (cs : List Frame) (s : World) : Bar Seq.prog (RetE Seq.prog) (Frame.enter Seq.prog 20 x .normal :: cs) s -> False := by
 intro hB
 obtain ⟨a, sD, n, hg⟩ := q_halts x cs (tp s (fun _ _ => 1) 0) rfl
 have hB' := hB.along (retE_ok _) n _ _ hg
 cases hB' with
 | stop h =>
   obtain ⟨fr, h1, h2, _⟩ := h
   have := (List.cons.inj h1).1
   rw [<- this] at h2
   cases h2
 | step h1 _ =>
   obtain ⟨fs1, s1, h⟩ := h1 sD.tape sD.drawn
   obtain ⟨v, hv⟩ := q_die (a := a) (s := tp sD sD.tape sD.drawn)
   rw [g_halt rfl rfl hv] at h
   cases h
end Sim
end Go.Proofs.YthgelfnflafoiabGreat
