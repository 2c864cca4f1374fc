/-
  Several texts in one.
-/
import Derived.Conc.Listed
import Derived.Test.YthgelfnflafoiabGreatPk2
namespace Go.Proofs.YthgelfnflafoiabGreat
namespace Sim
section
variable {S R : Program} {F : FuncId → Bool} {ρ : Ren}
def opdOk (F : FuncId → Bool) : Operand → Bool
 | .tmp _ => true
 | .const v => plainB v
 | .global _ => false
 | .func f => F f
def builtinOk (S : Program) (b : Builtin) (ts : Array TypeId) : Bool := match b with
 | .append => appendOk S ts
 | .clear => clearOk S ts
 | .len | .cap | .copy | .min | .max => true
 | _ => false
def isSp (S : Program) : Operand → Nat → Bool
 | .func g, n => spOk S g && n == 3
 | _, _ => false
def opOk (S : Program) (F : FuncId → Bool) : Op → Bool
 | .move x | .assign x | .box _ x | .load _ x | .nilCheck x | .unOp _ _ x | .extract x _ | .field _ x _ => opdOk F x
 | .pick c a b => opdOk F c && opdOk F a && opdOk F b
 | .alloc t => zeroOk S t
 | .build t ps => zeroOk S t && ps.all fun p => opdOk F p.2
 | .buildSlice t _ ps => elemZero S t && ps.all fun p => opdOk F p.2
 | .store _ a v | .indexAddr _ a v | .index _ a v => opdOk F a && opdOk F v
 | .binOp op t x y _ => binOk S op t && opdOk F x && opdOk F y
 | .convert s d x => intT S s && intT S d && opdOk F x
 | .makeFunc (.func f) a b => F f && a.all (opdOk F) && b.all (opdOk F)
 | .makeSlice t l c => elemZero S t && opdOk F l && opdOk F c
 | .slice _ x l h m => opdOk F x && l.all (opdOk F) && h.all (opdOk F) && m.all (opdOk F)
 | .fieldAddr t x i => fieldOk S t i && opdOk F x
 | .call { callee := .value f, args, .. } => (opdOk F f || isSp S f args.size) && args.all (opdOk F)
 | .call { callee := .builtin b, args, argTypes } => builtinOk S b argTypes && args.all (opdOk F)
 | _ => false
inductive NRel (S : Program) (F : FuncId → Bool) (ρ : Ren) : Next → Next → Prop
 | value {v v' : Value} : VRel (Fp F) ρ v v' → NRel S F ρ (.value v) (.value v')
 | skip : NRel S F ρ .skip .skip
 | enter {f : FuncId} {x x' : Array Value} : (F f = true ∨ (spOk S f = true ∧ x.size = 3)) → AVRel (Fp F) ρ x x' → NRel S F ρ (.enter f x) (.enter f x')
theorem val_rel {x x' : Sem Value} (h : SRel S R (Fp F) (QV F) ρ x x') : SRel S R (Fp F) (NRel S F) ρ (do pure (.value (← x))) (do pure (.value (← x'))) :=
 h.bind fun _ _ _ _ hv => .pure' (.value hv)
theorem unit_rel {x x' : Sem Unit} (h : SRel S R (Fp F) (fun _ _ _ => True) ρ x x') : SRel S R (Fp F) (NRel S F) ρ (do x; pure .skip) (do x'; pure .skip) :=
 h.bind fun _ _ _ _ _ => .pure' .skip
theorem map_rel {ev ev' : Operand → Value} (he : ∀ x, opdOk F x = true → VRel (Fp F) ρ (ev x) (ev' x)) {xs : Array Operand} (h : xs.all (opdOk F) = true) : AVRel (Fp F) ρ (xs.map ev) (xs.map ev') := by
 refine ⟨by simp, fun i v v' hv hv' => ?_⟩
 rw [Array.getElem?_map] at hv hv'
 cases hx : xs[i]? with
 | none => rw [hx] at hv; simp at hv
 | some x =>
   rw [hx] at hv hv'
   simp only [Option.map_some, Option.some.injEq] at hv hv'
   subst hv hv'
   exact he x (Array.all_eq_true_iff_forall_mem.1 h x (Array.mem_of_getElem? hx))
theorem parts_rel {ev ev' : Operand → Value} (he : ∀ x, opdOk F x = true → VRel (Fp F) ρ (ev x) (ev' x)) {ps : Array (Nat × Operand)} (h : (ps.all fun p => opdOk F p.2) = true) :
   PRel (Fp F) ρ (ps.map fun (i, x) => (i, ev x)).toList (ps.map fun (i, x) => (i, ev' x)).toList := by
 refine ⟨by simp, fun i v v' hv hv' => ?_⟩
 rw [Array.toList_map, List.getElem?_map] at hv hv'
 cases hx : ps.toList[i]? with
 | none => rw [hx] at hv; simp at hv
 | some x =>
   rw [hx] at hv hv'
   simp only [Option.map_some, Option.some.injEq] at hv hv'
   subst hv hv'
   exact ⟨rfl, he _ (Array.all_eq_true_iff_forall_mem.1 h x (by
     have := List.mem_of_getElem? hx
     simpa using this))⟩
theorem opt_rel {ev ev' : Operand → Value} (he : ∀ x, opdOk F x = true → VRel (Fp F) ρ (ev x) (ev' x)) {x : Option Operand} (h : x.all (opdOk F) = true) : ORel (Fp F) ρ (x.map ev) (x.map ev') := by
 cases x with
 | none => exact .inl ⟨rfl, rfl⟩
 | some x => exact .inr ⟨_, _, rfl, rfl, he x (by simpa using h)⟩
theorem callFunc_rel (H : Same S R F) {f : FuncId} {x x' : Array Value} (hf : F f = true ∨ (spOk S f = true ∧ x.size = 3)) (h : AVRel (Fp F) ρ x x') : SRel S R (Fp F) (NRel S F) ρ (callFunc f x) (callFunc f x') := by
 obtain ⟨fn, fn', h1, h2, h3, h4, h5, h6⟩ := H.body f (hf.imp id (·.1))
 unfold callFunc
 refine (program_rel (Q := fun _ a b => a = S ∧ b = R) ⟨rfl, rfl⟩).bind ?_
 rintro σ hσ _ _ ⟨rfl, rfl⟩
 rw [h1, h2]
 have e1 : (fn.name == "runtime.NumGoroutine") = false := by simpa using h5
 have e2 : (fn'.name == "runtime.NumGoroutine") = false := by simpa using h6
 have e3 : fn.body.isNone = false := by cases hb : fn.body <;> simp [hb] at h3 ⊢
 have e4 : fn'.body.isNone = false := by cases hb : fn'.body <;> simp [hb] at h4 ⊢
 simp only [e1, e2, e3, e4, Bool.false_eq_true, if_false]
 exact .pure' (.enter hf (h.mono hσ))
theorem builtin_rel (H : Same S R F) {b : Builtin} {ts : Array TypeId} (hb : builtinOk S b ts = true) (t : TypeId) (cs : Array Bool) {x x' : Array Value} (h : AVRel (Fp F) ρ x x') :
   SRel S R (Fp F) (NRel S F) ρ (builtin b ts t cs x) (builtin b ts t cs x') := by
 cases b <;> first
   | exact val_rel (append_rel H hb t h)
   | exact val_rel (clear_rel H hb t h)
   | exact val_rel (len_rel H ts t h)
   | exact val_rel (cap_rel H ts t h)
   | exact val_rel (copy_rel H ts t h)
   | exact val_rel (min_rel ts t h)
   | exact val_rel (max_rel ts t h)
   | simp [builtinOk] at hb
theorem execOp_rel (H : Same S R F) {o : Oper} (ho : opOk S F o.op = true) {ev ev' : Operand → Value} (he : ∀ x, opdOk F x = true → VRel (Fp F) ρ (ev x) (ev' x)) (hfun : ∀ g, ev (.func g) = .func (.func g) #[] #[]) (hfun' : ∀ g, ev' (.func g) = .func (.func g) #[] #[]) :
   SRel S R (Fp F) (NRel S F) ρ (execOp ev o) (execOp ev' o) := by
 obtain ⟨dst, op, type, pos, after, guard⟩ := o
 unfold execOp
 cases op <;> simp only [opOk, Bool.and_eq_true, Bool.false_eq_true] at ho
 case move x => exact .pure' (.value (he x ho))
 case assign x => exact .pure' (.value (he x ho))
 case pick c a b =>
   refine (asBool_rel (he c ho.1.1)).bind ?_
   rintro σ hσ r _ rfl
   cases r
   · exact .pure' (.value ((he b ho.2).mono hσ))
   · exact .pure' (.value ((he a ho.1.2).mono hσ))
 case alloc t => exact val_rel (alloc_rel H ho)
 case box t x => exact val_rel (box_rel t (he x ho))
 case build t ps => exact val_rel (build_rel H ho.1 (parts_rel he ho.2))
 case buildSlice t n ps => exact val_rel (buildSlice_rel H ho.1 n (parts_rel he ho.2))
 case load t x => exact val_rel (loadAt_rel H t (he x ho))
 case store t a v => exact unit_rel (storeAt_rel H t (he a ho.1) (he v ho.2))
 case nilCheck x =>
   have hx := he x ho
   simp only
   generalize ev x = v at hx
   generalize ev' x = v' at hx
   have hx0 := hx
   cases hx with
   | nilPtr => exact runtimePanic_doom (e := .nilDeref) trivial
   | nilIface => exact runtimePanic_doom (e := .nilDeref) trivial
   | nilFunc => exact runtimePanic_doom (e := .nilDeref) trivial
   | _ => exact .pure' (.value hx0)
 case binOp op t x y yt =>
   refine val_rel ?_
   refine (eqGuard_rel H ho.1.1 x y (he x ho.1.2) (he y ho.2)).bind fun σ hσ _ _ _ => ?_
   exact binOp_rel H ho.1.1 ((he x ho.1.2).mono hσ) ((he y ho.2).mono hσ)
 case unOp op t x => exact val_rel (unary_rel op (he x ho))
 case convert s d x => exact val_rel (convert_rel H ho.1.1 ho.1.2 (he x ho.2))
 case makeFunc fn a b =>
   cases fn with
   | func f =>
     simp only [Bool.and_eq_true] at ho
     have h1 := map_rel he ho.1.2
     have h2 := map_rel he ho.2
     exact val_rel (.pure' (.func ho.1.1 h1.1 h1.2 h2.1 h2.2))
   | _ => simp at ho
 case makeSlice t l c => exact val_rel (makeSlice_rel H ho.1.1 (he l ho.1.2) (he c ho.2))
 case slice t x l h m => exact val_rel (sliceAt_rel H t (he x ho.1.1.1) (opt_rel he ho.1.1.2) (opt_rel he ho.1.2) (opt_rel he ho.2))
 case fieldAddr t x i => exact val_rel (fieldAt_rel H ho.1 (he x ho.2))
 case field t x i => exact val_rel (field_rel H t (he x ho) i)
 case indexAddr t x i => exact val_rel (indexAt_rel H t (he x ho.1) (he i ho.2))
 case index t x i => exact val_rel (index_rel H t (he x ho.1) (he i ho.2))
 case extract x i => exact val_rel (extract_rel (he x ho) i)
 case call c =>
   obtain ⟨callee, args, ts⟩ := c
   cases callee with
   | value f =>
     simp only [Bool.and_eq_true, Bool.or_eq_true] at ho
     have ha := map_rel he ho.2
     rcases ho.1 with ho1 | ho1
     case inr =>
       cases f with
       | func g =>
         simp only [isSp, Bool.and_eq_true, beq_iff_eq] at ho1
         simp only [resolve]
         rw [hfun g, hfun' g]
         show SRel S R (Fp F) (NRel S F) ρ (callFunc _ _) (callFunc _ _)
         refine callFunc_rel H (.inr ⟨ho1.1, ?_⟩) ((AVRel.append ⟨rfl, fun i v v' hv => by simp at hv⟩ ha).append ⟨rfl, fun i v v' hv => by simp at hv⟩)
         simp [ho1.2]
       | _ => cases ho1
     have hf := he f ho1
     simp only [resolve]
     generalize ev f = v at hf
     generalize ev' f = v' at hf
     cases hf with
     | nilFunc => exact runtimePanic_doom (e := .nilDeref) trivial
     | func hF h1 i1 h2 i2 =>
       show SRel S R (Fp F) (NRel S F) ρ (callFunc _ _) (callFunc _ _)
       exact callFunc_rel H (.inl hF) ((AVRel.append ⟨h1, i1⟩ ha).append ⟨h2, i2⟩)
     | _ => exact SRel.bind (Q := fun _ _ _ => False) (.stuck) fun _ _ _ _ hq => hq.elim
   | builtin b =>
     simp only [Bool.and_eq_true] at ho
     exact builtin_rel H ho.1 type _ (map_rel he ho.2)
   | invoke r m => simp at ho
 all_goals simp at ho
end
end Sim
end Go.Proofs.YthgelfnflafoiabGreat
namespace Go.Proofs.YthgelfnflafoiabGreat
namespace Sim
def afterOp (P : Program) (fr : Frame) (cs : List Frame) : Next → Sem (List Frame)
 | .value v => pure (fr.finish v :: cs)
 | .skip => pure (fr.finish undef :: cs)
 | .enter f args => pure (Frame.enter P f args .normal :: fr :: cs)
 | _ => stuck "not here"
def gsem (P : Program) : List Frame → Sem (List Frame)
 | [] => stuck "no frame"
 | fr :: cs =>
   match fr.mode with
   | .panicking _ => stuck "a panic"
   | .returning =>
     match P.funcs[fr.fn]?, cs with
     | some fn, c :: cs => do
       let v ← results fn fr.tmps
       pure (c.finish v :: cs)
     | _, _ => stuck "the end"
   | .run =>
     match fr.todo with
     | [] | .code .ret :: _ => pure ({ fr with mode := .returning } :: cs)
     | .code .skip :: k | .code (.label _) :: k | .inBlock _ :: k | .inScope _ :: k => pure ({ fr with todo := k } :: cs)
     | .code (.seq a b) :: k => pure ({ fr with todo := .code a :: .code b :: k } :: cs)
     | .code (.cond c a b) :: k =>
       match fr.eval c with
       | .bool x => pure ({ fr with todo := .code (if x then a else b) :: k } :: cs)
       | _ => stuck "cond: bool expected"
     | .code (.block id b) :: k => pure ({ fr with todo := .code b :: .inBlock id :: k } :: cs)
     | .code (.loop b) :: k | .inLoop b :: k => pure ({ fr with todo := .code b :: .inLoop b :: k } :: cs)
     | .code (.scope b) :: k => pure ({ fr with todo := .code b :: .inScope b :: k } :: cs)
     | .code (.exit id) :: k => match exitTo id k with
       | some k' => pure ({ fr with todo := k' } :: cs)
       | none => stuck "exit"
     | .code (.region id ops draw) :: k =>
       if !draw then pure ({ fr with todo := .inRegion ops (List.range ops.size) :: k } :: cs)
       else do
         let t ← choose (.order fr.fn id)
         pure ({ fr with todo := .inRegion ops (Region.schedule (P.follows .mixedOrders) ops t) :: k } :: cs)
     | .inRegion _ [] :: k => pure ({ fr with todo := k } :: cs)
     | .inRegion ops (i :: _) :: _ =>
       match ops[i]? with
       | some o => if Region.wanted o (yielded ops fr.tmps) then do afterOp P fr cs (← execOp fr.eval o) else pure (fr.finish undef :: cs)
       | none => pure (fr.finish undef :: cs)
     | _ => stuck "not here"
structure Plain (fr : Frame) : Prop where
 defers : fr.defers = []
 kind : fr.kind = .normal
 round : fr.roundOf = none
theorem step_of_gsem {P : Program} {fr : Frame} {cs fs : List Frame} (hp : Plain fr) {w w' : World} {es : Array Event}
   (h : (gsem P (fr :: cs)).runT P w #[] = (.ok fs w', es)) (main : Bool) (base : List Frame) (hf : ∃ fn, P.funcs[fr.fn]? = some fn) :
   ∃ fr' cs', fs = fr' :: cs' ∧ stepG P main (Conc.G fr (cs ++ base)) w = .go (Conc.G fr' (cs' ++ base)) w' (seen P fr.fn es) := by
 obtain ⟨fnid, tmps, todo, defers, mode, kind, roundOf⟩ := fr
 obtain ⟨hd, hk, hr⟩ := hp
 simp only at hd hk hr
 subst hd hk hr
 have seen0 : seen P fnid #[] = #[] := rfl
 cases mode with
 | panicking ch => simp [gsem, Go.stuck, Sem.runT, -Sem.runT_eq] at h
 | returning =>
   obtain ⟨fn, hfn⟩ := hf
   simp only at hfn
   cases cs with
   | nil => simp [gsem, hfn, Go.stuck, Sem.runT, -Sem.runT_eq] at h
   | cons c cs =>
     simp only [gsem, hfn] at h
     have h' : ((results fn tmps).bind fun v => Sem.pure (c.finish v :: cs)).runT P w #[] = (.ok fs w', es) := h
     rw [Sem.runT_bind'] at h'
     cases hr : (results fn tmps).runT P w #[] with
     | mk r es1 =>
       rw [hr] at h'
       cases r with
       | halt x w1 => simp at h'
       | ok v w1 =>
         simp only [Sem.runT, Prod.mk.injEq, Result.ok.injEq] at h'
         obtain ⟨⟨rfl, rfl⟩, rfl⟩ := h'
         refine ⟨_, _, rfl, ?_⟩
         simp only [Conc.G, stepG, unwind, hfn, hr, doReturn, GStep.after, List.cons_append]
         simp
 | run =>
   have ctl : ∀ {fr2 : Frame}, (Pure.pure (fr2 :: cs) : Sem (List Frame)).runT P w #[] = (.ok fs w', es) → fs = fr2 :: cs ∧ w' = w ∧ es = #[] := by
     intro fr2 hc
     have hc' : ((.ok (fr2 :: cs) w, #[]) : Result (List Frame) × Array Event) = (.ok fs w', es) := hc
     simp only [Prod.mk.injEq, Result.ok.injEq] at hc'
     exact ⟨hc'.1.1.symm, hc'.1.2.symm, hc'.2.symm⟩
   have bad : ∀ {why : String}, (Go.stuck why : Sem (List Frame)).runT P w #[] = (.ok fs w', es) → False := by
     intro why hc
     simp [Go.stuck, Sem.runT, -Sem.runT_eq] at hc
   cases todo with
   | nil =>
     obtain ⟨rfl, rfl, rfl⟩ := ctl h
     exact ⟨_, _, rfl, by simp [Conc.G, stepG, stepG.exec, seen0]⟩
   | cons it k =>
     cases it with
     | inBlock id =>
       obtain ⟨rfl, rfl, rfl⟩ := ctl h
       exact ⟨_, _, rfl, by simp [Conc.G, stepG, stepG.exec, seen0]⟩
     | inScope b =>
       obtain ⟨rfl, rfl, rfl⟩ := ctl h
       exact ⟨_, _, rfl, by simp [Conc.G, stepG, stepG.exec, seen0]⟩
     | inLoop b =>
       obtain ⟨rfl, rfl, rfl⟩ := ctl h
       exact ⟨_, _, rfl, by simp [Conc.G, stepG, stepG.exec, seen0]⟩
     | inRegion ops l =>
       cases l with
       | nil =>
         obtain ⟨rfl, rfl, rfl⟩ := ctl h
         exact ⟨_, _, rfl, by simp [Conc.G, stepG, stepG.exec, seen0]⟩
       | cons i l =>
         cases ho : ops[i]? with
         | none =>
           simp only [gsem, ho] at h
           obtain ⟨rfl, rfl, rfl⟩ := ctl h
           exact ⟨_, _, rfl, by simp [Conc.G, stepG, stepG.exec, seen0, ho]⟩
         | some o =>
           simp only [gsem, ho] at h
           by_cases hw : Region.wanted o (yielded ops tmps) = true
           · rw [if_pos hw] at h
             generalize hfr : ({ fn := fnid, tmps := tmps, todo := .inRegion ops (i :: l) :: k, defers := [], mode := .run, kind := .normal, roundOf := none } : Frame) = fr at h ⊢
             have h' : ((execOp fr.eval o).bind fun x => afterOp P fr cs x).runT P w #[] = (.ok fs w', es) := h
             rw [Sem.runT_bind'] at h'
             have hst : stepG P main (Conc.G fr (cs ++ base)) w = stepG.apply P true fr (cs ++ base) none (execOp fr.eval o) w := by
               subst hfr
               simp [Conc.G, stepG, stepG.exec, stepG.oper, Frame.oper?, ho, hw]
             have hfn : fr.fn = fnid := by subst hfr; rfl
             have hki : fr.kind = .normal := by subst hfr; rfl
             have htd : ∃ ops l k, fr.todo = .inRegion ops l :: k := ⟨ops, i :: l, k, by subst hfr; rfl⟩
             rw [hst]
             clear hst hfr h
             cases hr : (execOp fr.eval o).runT P w #[] with
             | mk r es1 =>
               rw [hr] at h'
               cases r with
               | halt x w1 => simp at h'
               | ok x w1 =>
                 simp only at h'
                 unfold stepG.apply
                 simp only [hr, if_true, hki, hfn]
                 have hke : (CallKind.normal == CallKind.early) = false := rfl
                 simp only [hke, Bool.false_eq_true, if_false]
                 obtain ⟨ops', l', k', htd⟩ := htd
                 cases x with
                 | value v =>
                   simp only [afterOp] at h'
                   have h'' : ((.ok (fr.finish v :: cs) w1, es1) : Result (List Frame) × Array Event) = (.ok fs w', es) := h'
                   simp only [Prod.mk.injEq, Result.ok.injEq] at h''
                   obtain ⟨⟨rfl, rfl⟩, rfl⟩ := h''
                   exact ⟨_, _, rfl, by simp [GStep.after, Conc.G]⟩
                 | skip =>
                   simp only [afterOp] at h'
                   have h'' : ((.ok (fr.finish undef :: cs) w1, es1) : Result (List Frame) × Array Event) = (.ok fs w', es) := h'
                   simp only [Prod.mk.injEq, Result.ok.injEq] at h''
                   obtain ⟨⟨rfl, rfl⟩, rfl⟩ := h''
                   exact ⟨_, _, rfl, by simp [GStep.after, Conc.G]⟩
                 | enter f args =>
                   simp only [afterOp] at h'
                   have h'' : ((.ok (Frame.enter P f args .normal :: fr :: cs) w1, es1) : Result (List Frame) × Array Event) = (.ok fs w', es) := h'
                   simp only [Prod.mk.injEq, Result.ok.injEq] at h''
                   obtain ⟨⟨rfl, rfl⟩, rfl⟩ := h''
                   exact ⟨_, _, rfl, by simp [GStep.after, Conc.G, htd]⟩
                 | _ => simp [afterOp, Go.stuck, Sem.runT, -Sem.runT_eq] at h'
           · rw [if_neg hw] at h
             obtain ⟨rfl, rfl, rfl⟩ := ctl h
             have hw' : Region.wanted o (yielded ops tmps) = false := by simpa using hw
             exact ⟨_, _, rfl, by simp [Conc.G, stepG, stepG.exec, seen0, ho, hw']⟩
     | code c =>
       cases c with
       | ret =>
         obtain ⟨rfl, rfl, rfl⟩ := ctl h
         exact ⟨_, _, rfl, by simp [Conc.G, stepG, stepG.exec, seen0]⟩
       | skip =>
         obtain ⟨rfl, rfl, rfl⟩ := ctl h
         exact ⟨_, _, rfl, by simp [Conc.G, stepG, stepG.exec, seen0]⟩
       | label l =>
         obtain ⟨rfl, rfl, rfl⟩ := ctl h
         exact ⟨_, _, rfl, by simp [Conc.G, stepG, stepG.exec, seen0]⟩
       | seq a b =>
         obtain ⟨rfl, rfl, rfl⟩ := ctl h
         exact ⟨_, _, rfl, by simp [Conc.G, stepG, stepG.exec, seen0]⟩
       | cond c a b =>
         simp only [gsem] at h
         split at h
         · rename_i x hx
           obtain ⟨rfl, rfl, rfl⟩ := ctl h
           exact ⟨_, _, rfl, by simp only [Conc.G, stepG, stepG.exec, hx, seen0]⟩
         · exact (bad h).elim
       | block id b =>
         obtain ⟨rfl, rfl, rfl⟩ := ctl h
         exact ⟨_, _, rfl, by simp [Conc.G, stepG, stepG.exec, seen0]⟩
       | loop b =>
         obtain ⟨rfl, rfl, rfl⟩ := ctl h
         exact ⟨_, _, rfl, by simp [Conc.G, stepG, stepG.exec, seen0]⟩
       | scope b =>
         obtain ⟨rfl, rfl, rfl⟩ := ctl h
         exact ⟨_, _, rfl, by simp [Conc.G, stepG, stepG.exec, seen0]⟩
       | exit id =>
         simp only [gsem] at h
         split at h
         · rename_i k' hx
           obtain ⟨rfl, rfl, rfl⟩ := ctl h
           exact ⟨_, _, rfl, by simp [Conc.G, stepG, stepG.exec, hx, seen0]⟩
         · exact (bad h).elim
       | region id ops draw =>
         simp only [gsem] at h
         cases draw with
         | false =>
           obtain ⟨rfl, rfl, rfl⟩ := ctl h
           exact ⟨_, _, rfl, by simp [Conc.G, stepG, stepG.exec, seen0]⟩
         | true =>
           simp only [Bool.not_true, Bool.false_eq_true, if_false] at h
           have h' : (Sem.choose (.order fnid id) fun t => Sem.pure ({ fn := fnid, tmps := tmps, todo := .inRegion ops (Region.schedule (P.follows .mixedOrders) ops t) :: k, defers := [], mode := .run, kind := .normal, roundOf := none } :: cs)).runT P w #[] = (.ok fs w', es) := h
           simp only [Sem.runT, Question.forced, Question.cut, Bool.false_eq_true, if_false, Prod.mk.injEq, Result.ok.injEq] at h'
           obtain ⟨⟨rfl, rfl⟩, rfl⟩ := h'
           exact ⟨_, _, rfl, by simp [Conc.G, stepG, stepG.exec, seen0, choose, Sem.run, Question.forced, Question.cut]⟩
       | _ => exact (bad h).elim
     | _ => exact (bad h).elim
end Sim
end Go.Proofs.YthgelfnflafoiabGreat
namespace Go.Proofs.YthgelfnflafoiabGreat
namespace Sim
def codeOk (S : Program) (F : FuncId -> Bool) : Code -> Bool
 | .skip | .ret | .label _ | .exit _ => true
 | .region _ ops _ => ops.all fun o => opOk S F o.op
 | .seq a b => codeOk S F a && codeOk S F b
 | .cond c a b => opdOk F c && codeOk S F a && codeOk S F b
 | .block _ b | .loop b | .scope b => codeOk S F b
 | _ => false
theorem goIn_of {S : Program} {F : FuncId -> Bool} : ∀ (c : Code), codeOk S F c = true -> goIn c = false
 | .region _ ops _, h => by
   simp only [codeOk, Array.all_eq_true_iff_forall_mem] at h
   simp only [goIn]
   rw [Array.any_eq_false']
   intro o ho
   have := h o ho
   cases ho' : o.op <;> simp_all [opOk]
 | .seq a b, h => by
   simp only [codeOk, Bool.and_eq_true] at h
   simp [goIn, goIn_of a h.1, goIn_of b h.2]
 | .cond _ a b, h => by
   simp only [codeOk, Bool.and_eq_true] at h
   simp [goIn, goIn_of a h.1.2, goIn_of b h.2]
 | .block _ b, h => by simp only [codeOk] at h; simp [goIn, goIn_of b h]
 | .loop b, h => by simp only [codeOk] at h; simp [goIn, goIn_of b h]
 | .scope b, h => by simp only [codeOk] at h; simp [goIn, goIn_of b h]
 | .skip, _ | .ret, _ | .label _, _ | .exit _, _ | .goto _, _ | .refuse _, _ | .rangeFunc .., _ => rfl
theorem hasGo_of {S : Program} {F : FuncId -> Bool} {fn : Func} {c : Code} (h : fn.body = some c) (hc : codeOk S F c = true) : hasGo fn = false := by
 unfold hasGo
 rw [h]
 exact goIn_of c hc
def itemOk (S : Program) (F : FuncId -> Bool) : Item -> Bool
 | .code c => codeOk S F c
 | .inBlock _ => true
 | .inLoop b | .inScope b => codeOk S F b
 | .inRegion ops _ => ops.all fun o => opOk S F o.op
 | _ => false
structure Fine (S R : Program) (F : FuncId -> Bool) (sp : FuncId) : Prop where
 fn : ∀ f, F f = true -> f ≠ sp -> ∃ fn c, S.funcs[f]? = some fn /\ R.funcs[f]? = some fn /\ fn.body = some c /\ codeOk S F c = true
 spu : ∀ f, spOk S f = true -> F f = false -> f = sp
def NoSp (S : Program) (F : FuncId -> Bool) (sp : FuncId) : Prop := F sp = false /\ spOk S sp = false
structure FRel (S : Program) (F : FuncId -> Bool) (sp : FuncId) (ρ : Ren) (f f' : Frame) : Prop where
 fn : f.fn = f'.fn
 known : F f.fn = true
 nsp : f.fn ≠ sp
 todo : f.todo = f'.todo
 tmps : AVRel (Fp F) ρ f.tmps f'.tmps
 mode : f.mode = f'.mode
 calm : f.mode = .run \/ f.mode = .returning
 pS : Plain f
 pR : Plain f'
 ok : f.todo.all (itemOk S F) = true
inductive FsRel (S : Program) (F : FuncId -> Bool) (sp : FuncId) (ρ : Ren) : List Frame -> List Frame -> Prop
 | nil : FsRel S F sp ρ [] []
 | cons {f f' : Frame} {l l' : List Frame} : FRel S F sp ρ f f' -> FsRel S F sp ρ l l' -> FsRel S F sp ρ (f :: l) (f' :: l')
section
variable {S R : Program} {F : FuncId -> Bool} {sp : FuncId} {ρ σ : Ren}
theorem undef_rel : VRel (Fp F) ρ undef undef := .tuple rfl fun i v v' h => by simp at h
theorem FRel.mono (h : ρ.le σ) {f f' : Frame} (x : FRel S F sp ρ f f') : FRel S F sp σ f f' := ⟨x.fn, x.known, x.nsp, x.todo, x.tmps.mono h, x.mode, x.calm, x.pS, x.pR, x.ok⟩
theorem FsRel.mono (h : ρ.le σ) {l l' : List Frame} (x : FsRel S F sp ρ l l') : FsRel S F sp σ l l' := by
 induction x with
 | nil => exact .nil
 | cons a _ ih => exact .cons (a.mono h) ih
theorem FRel.eval {f f' : Frame} (h : FRel S F sp ρ f f') (x : Operand) (hx : opdOk F x = true) : VRel (Fp F) ρ (f.eval x) (f'.eval x) := by
 cases x with
 | tmp t => exact h.tmps.getD t undef_rel
 | const v => exact plain_rel hx
 | global g => cases hx
 | func f => exact .func hx rfl (fun i v v' hv => by simp at hv) rfl (fun i v v' hv => by simp at hv)
theorem yielded_eq {ops : Array Oper} {x x' : Array Value} (h : AVRel (Fp F) ρ x x') : yielded ops x = yielded ops x' := by
 funext j
 unfold yielded
 cases ((ops[j]?).bind (·.dst)) with
 | none => rfl
 | some d =>
   simp only [Option.bind_some]
   rcases h.get? d with ⟨h1, h2⟩ | ⟨v, v', h1, h2, hv⟩
   · rw [h1, h2]
   · rw [h1, h2]
     cases hv <;> rfl
theorem FRel.at {f f' : Frame} (h : FRel S F sp ρ f f') {k : List Item} (hk : k.all (itemOk S F) = true) : FRel S F sp ρ { f with todo := k } { f' with todo := k } :=
 ⟨h.fn, h.known, h.nsp, rfl, h.tmps, h.mode, h.calm, ⟨h.pS.1, h.pS.2, h.pS.3⟩, ⟨h.pR.1, h.pR.2, h.pR.3⟩, hk⟩
theorem FRel.finish {f f' : Frame} (h : FRel S F sp ρ f f') {v v' : Value} (hv : VRel (Fp F) ρ v v') : FRel S F sp ρ (f.finish v) (f'.finish v') := by
 obtain ⟨fnid, tmps, todo, defers, mode, kind, roundOf⟩ := f
 obtain ⟨fnid', tmps', todo', defers', mode', kind', roundOf'⟩ := f'
 obtain ⟨h1, h2, h3, h4, h5, h6, h7, h8, h9, h10⟩ := h
 simp only at h1 h4 h5 h6
 subst h1 h4 h6
 cases todo with
 | nil => exact ⟨rfl, h2, h3, rfl, h5, rfl, h7, h8, h9, h10⟩
 | cons it k =>
   have h10' := h10
   simp only [List.all_cons, Bool.and_eq_true] at h10'
   cases it with
   | inRegion ops l =>
     cases l with
     | nil => exact ⟨rfl, h2, h3, rfl, h5, rfl, h7, h8, h9, h10⟩
     | cons i l =>
       refine ⟨rfl, h2, h3, rfl, ?_, rfl, h7, ⟨h8.1, h8.2, h8.3⟩, ⟨h9.1, h9.2, h9.3⟩, h10⟩
       simp only [Frame.finish]
       cases ((ops[i]?).bind (·.dst)) with
       | none => exact h5
       | some d => exact h5.set d hv
   | inRangeFunc l => exact absurd h10'.1 (by simp [itemOk])
   | beginRound => exact absurd h10'.1 (by simp [itemOk])
   | call d wr re sa => exact absurd h10'.1 (by simp [itemOk])
   | extern r a => exact absurd h10'.1 (by simp [itemOk])
   | _ => exact ⟨rfl, h2, h3, rfl, h5, rfl, h7, h8, h9, h10⟩
theorem FRel.enter (hF : Fine S R F sp) {f : FuncId} (hf : F f = true) (hn : f ≠ sp) {x x' : Array Value} (h : AVRel (Fp F) ρ x x') : FRel S F sp ρ (Frame.enter S f x .normal) (Frame.enter R f x' .normal) := by
 obtain ⟨fn, c, h1, h2, h3, h4⟩ := hF.fn f hf hn
 refine ⟨rfl, hf, hn, ?_, ?_, rfl, .inl rfl, ⟨rfl, rfl, rfl⟩, ⟨rfl, rfl, rfl⟩, ?_⟩
 · simp [Frame.enter, h1, h2]
 · simp only [Frame.enter, h1, h2, Option.map_some, Option.getD_some]
   rw [<- h.1]
   refine h.append ⟨rfl, fun i v v' hv hv' => ?_⟩
   rw [hv] at hv'; cases hv'
   obtain ⟨_, rfl⟩ := Array.mem_replicate.1 (Array.mem_of_getElem? hv)
   exact undef_rel
 · simp [Frame.enter, h1, h3, itemOk, h4]
theorem exitTo_all {id : Nat} {S : Program} {F : FuncId -> Bool} : ∀ {k k' : List Item}, exitTo id k = some k' -> k.all (itemOk S F) = true -> k'.all (itemOk S F) = true
 | [], k', h, _ => by cases h
 | it :: k, k', h, ha => by
   simp only [List.all_cons, Bool.and_eq_true] at ha
   cases it with
   | inBlock i =>
     simp only [exitTo] at h
     split at h
     · cases h; exact ha.2
     · exact exitTo_all h ha.2
   | _ => exact exitTo_all (k := k) (by simpa only [exitTo] using h) ha.2
theorem mapM_vals {γ : Type} (xs : List γ) (f f' : γ -> Sem Value) (hf : ∀ x ∈ xs, ∀ σ, ρ.le σ -> SRel S R (Fp F) (QV F) σ (f x) (f' x)) : ∀ σ, ρ.le σ -> SRel S R (Fp F) (fun σ a b => LRel (Fp F) σ a b) σ (xs.mapM f) (xs.mapM f') := by
 induction xs with
 | nil => intro σ _; simp only [List.mapM_nil]; exact .pure' .empty
 | cons x xs ih =>
   intro σ hσ
   simp only [List.mapM_cons]
   refine (hf x (by simp) σ hσ).bind fun τ hτ v v' hv => ?_
   refine (ih (fun y hy => hf y (by simp [hy])) τ (Ren.le_trans hσ hτ)).bind fun υ hυ l l' hl => ?_
   refine .pure' ⟨by have := hl.1; simpa using this, fun i a a' ha ha' => ?_⟩
   cases i with
   | zero => simp at ha ha'; subst ha ha'; exact hv.mono hυ
   | succ i => exact hl.2 i a a' (by simpa using ha) (by simpa using ha')
theorem results_rel (H : Same S R F) (fn : Func) {x x' : Array Value} (h : AVRel (Fp F) ρ x x') : SRel S R (Fp F) (QV F) ρ (results fn x) (results fn x') := by
 unfold results
 rw [Array.mapM_eq_mapM_toList, Array.mapM_eq_mapM_toList, map_eq_pure_bind, map_eq_pure_bind, bind_assoc, bind_assoc]
 refine (mapM_vals (ρ := ρ) fn.results.toList _ _ (fun r _ σ hσ => ?_) ρ (Ren.le_refl _)).bind fun σ hσ l l' hl => ?_
 · cases r with
   | tmp t => exact .pure' ((h.mono hσ).getD t undef_rel)
   | cell a t => exact (asAddr_rel ((h.mono hσ).getD a undef_rel)).bind fun _ _ _ _ ha => loadVar_rel H t ha
 · simp only [pure_bind]
   have hs : l.toArray.size = l'.toArray.size := hl.1
   by_cases h1 : l.toArray.size = 1
   · have h1' : l'.toArray.size = 1 := hs ▸ h1
     rw [dif_pos h1, dif_pos h1']
     exact .pure' (hl.2 0 _ _ (by rw [Array.getElem?_eq_getElem (by omega)]) (by rw [Array.getElem?_eq_getElem (by omega)]))
   · have h1' : ¬ l'.toArray.size = 1 := hs ▸ h1
     rw [dif_neg h1, dif_neg h1']
     exact .pure' (.tuple hl.1 hl.2)
def AtSp (S R : Program) (F : FuncId -> Bool) (sp : FuncId) (ρ : Ren) (l l' : List Frame) : Prop :=
 (F sp = true \/ spOk S sp = true) /\ ∃ x x' cs cs', (F sp = true \/ x.size = 3) /\ l = Frame.enter S sp x .normal :: cs /\ l' = Frame.enter R sp x' .normal :: cs' /\ AVRel (Fp F) ρ x x' /\ FsRel S F sp ρ cs cs' /\ cs ≠ []
theorem gsem_rel (H : Same S R F) (hF : Fine S R F sp) {l l' : List Frame} (h : FsRel S F sp ρ l l') :
   SRel S R (Fp F) (fun σ a b => FsRel S F sp σ a b \/ AtSp S R F sp σ a b) ρ (gsem S l) (gsem R l') := by
 cases h with
 | nil => exact .stuck
 | @cons f f' cs cs' hf hc =>
 obtain ⟨fn, c, e1, e2, e3, e4⟩ := hF.fn f.fn hf.known hf.nsp
 have hfin : ∀ {σ : Ren} {v v' : Value}, ρ.le σ -> VRel (Fp F) σ v v' -> FRel S F sp σ (f.finish v) (f'.finish v') := fun hσ hv => (hf.mono hσ).finish hv
 have heval := hf.eval
 have hat : ∀ {σ : Ren} {k : List Item}, ρ.le σ -> k.all (itemOk S F) = true -> FRel S F sp σ { f with todo := k } { f' with todo := k } := fun hσ hk => (hf.mono hσ).at hk
 have hret : FRel S F sp ρ { f with mode := .returning } { f' with mode := .returning } :=
   ⟨hf.fn, hf.known, hf.nsp, hf.todo, hf.tmps, rfl, .inr rfl, ⟨hf.pS.1, hf.pS.2, hf.pS.3⟩, ⟨hf.pR.1, hf.pR.2, hf.pR.3⟩, hf.ok⟩
 have hself : ∀ {σ : Ren}, ρ.le σ -> FRel S F sp σ f f' := fun hσ => hf.mono hσ
 obtain ⟨fnid, tmps, todo, defers, mode, kind, roundOf⟩ := f
 obtain ⟨fnid', tmps', todo', defers', mode', kind', roundOf'⟩ := f'
 obtain ⟨h1, h2, h3, h4, h5, h6, h7, h8, h9, h10⟩ := hf
 simp only at h1 h4 h5 h6 h7 h10
 subst h1 h4 h6
 rcases h7 with rfl | rfl
 · have one : ∀ {k : List Item}, k.all (itemOk S F) = true -> SRel S R (Fp F) (fun σ a b => FsRel S F sp σ a b \/ AtSp S R F sp σ a b) ρ
       (pure (({ fn := fnid, tmps := tmps, todo := k, defers := defers, mode := .run, kind := kind, roundOf := roundOf } : Frame) :: cs)) (pure (({ fn := fnid, tmps := tmps', todo := k, defers := defers', mode := .run, kind := kind', roundOf := roundOf' } : Frame) :: cs')) :=
     fun hk => .pure' (.inl (.cons (hat (Ren.le_refl _) hk) hc))
   have ret : SRel S R (Fp F) (fun σ a b => FsRel S F sp σ a b \/ AtSp S R F sp σ a b) ρ
       (pure (({ fn := fnid, tmps := tmps, todo := todo, defers := defers, mode := .returning, kind := kind, roundOf := roundOf } : Frame) :: cs)) (pure (({ fn := fnid, tmps := tmps', todo := todo, defers := defers', mode := .returning, kind := kind', roundOf := roundOf' } : Frame) :: cs')) :=
     .pure' (.inl (.cons hret hc))
   cases todo with
   | nil => exact ret
   | cons it k =>
     simp only [List.all_cons, Bool.and_eq_true] at h10
     obtain ⟨hi, hk⟩ := h10
     cases it with
     | inBlock id => exact one hk
     | inScope b => exact one hk
     | inLoop b => exact one (by simp only [List.all_cons, Bool.and_eq_true]; exact ⟨hi, hi, hk⟩)
     | inRegion ops l =>
       cases l with
       | nil => exact one hk
       | cons i l =>
         unfold gsem
         simp only
         cases ho : ops[i]? with
         | none => exact .pure' (.inl (.cons (hfin (Ren.le_refl _) undef_rel) hc))
         | some o =>
           simp only
           rw [<- yielded_eq h5]
           split
           · have hoo : opOk S F o.op = true := Array.all_eq_true_iff_forall_mem.1 hi o (Array.mem_of_getElem? ho)
             refine (execOp_rel H hoo heval (fun _ => rfl) (fun _ => rfl)).bind fun σ hσ x x' hx => ?_
             cases hx with
             | value hv => exact .pure' (.inl (.cons (hfin hσ hv) (hc.mono hσ)))
             | skip => exact .pure' (.inl (.cons (hfin hσ undef_rel) (hc.mono hσ)))
             | @enter g y y' hg hy =>
               by_cases hgs : g = sp
               · subst hgs
                 exact .pure' (.inr ⟨hg.imp id (·.1), y, y', _, _, hg.imp id (·.2), rfl, rfl, hy, .cons (hself hσ) (hc.mono hσ), List.cons_ne_nil _ _⟩)
               · have hgF : F g = true := by
                   rcases hg with hg | hg
                   · exact hg
                   · cases hq : F g with
                     | true => rfl
                     | false => exact absurd (hF.spu g hg.1 hq) hgs
                 exact .pure' (.inl (.cons (.enter hF hgF hgs hy) (.cons (hself hσ) (hc.mono hσ))))
           · exact .pure' (.inl (.cons (hfin (Ren.le_refl _) undef_rel) hc))
     | code c =>
       cases c with
       | ret => exact ret
       | skip => exact one hk
       | label l => exact one hk
       | seq a b =>
         simp only [itemOk, codeOk, Bool.and_eq_true] at hi
         exact one (by simp only [List.all_cons, Bool.and_eq_true]; exact ⟨hi.1, hi.2, hk⟩)
       | cond c a b =>
         simp only [itemOk, codeOk, Bool.and_eq_true] at hi
         have hv := heval c hi.1.1
         unfold gsem
         simp only
         generalize Frame.eval _ c = v at hv ⊢
         generalize Frame.eval _ c = v' at hv ⊢
         cases hv with
         | bool x =>
           cases x
           · exact one (by simp only [List.all_cons, Bool.and_eq_true]; exact ⟨hi.2, hk⟩)
           · exact one (by simp only [List.all_cons, Bool.and_eq_true]; exact ⟨hi.1.2, hk⟩)
         | _ => exact .stuck
       | block id b => exact one (by simp only [List.all_cons, Bool.and_eq_true]; exact ⟨hi, rfl, hk⟩)
       | loop b => exact one (by simp only [List.all_cons, Bool.and_eq_true]; exact ⟨hi, hi, hk⟩)
       | scope b => exact one (by simp only [List.all_cons, Bool.and_eq_true]; exact ⟨hi, hi, hk⟩)
       | exit id =>
         unfold gsem
         simp only
         cases he : exitTo id k with
         | none => exact .stuck
         | some k' => exact one (exitTo_all he hk)
       | region id ops draw =>
         unfold gsem
         simp only
         cases draw with
         | false => exact one (by simp only [List.all_cons, Bool.and_eq_true]; exact ⟨hi, hk⟩)
         | true =>
           simp only [Bool.not_true, Bool.false_eq_true, if_false]
           rw [<- H.follows]
           refine SRel.bind (Q := fun _ a b => a = b) (.choose _ (fun f id h => by cases h; exact ⟨fn, e2, hasGo_of e3 e4⟩) fun n => .pure rfl) ?_
           rintro σ hσ t _ rfl
           exact .pure' (.inl (.cons (hat hσ (by simp only [List.all_cons, Bool.and_eq_true]; exact ⟨hi, hk⟩)) (hc.mono hσ)))
       | rangeFunc => simp [itemOk, codeOk] at hi
       | goto => simp [itemOk, codeOk] at hi
       | refuse => simp [itemOk, codeOk] at hi
     | inRangeFunc => simp [itemOk] at hi
     | endRangeFunc => simp [itemOk] at hi
     | beginRound => simp [itemOk] at hi
     | call => simp [itemOk] at hi
     | extern => simp [itemOk] at hi
 · unfold gsem
   simp only at e1 e2 ⊢
   rw [e1, e2]
   cases hc with
   | nil => exact .stuck
   | @cons g g' cs cs' hg hc =>
     simp only
     refine (results_rel H fn h5).bind fun σ hσ v v' hv => ?_
     exact .pure' (.inl (.cons ((hg.mono hσ).finish hv) (hc.mono hσ)))
end
end Sim
end Go.Proofs.YthgelfnflafoiabGreat
namespace Go.Proofs.YthgelfnflafoiabGreat
namespace Sim
def catcher (P : Program) : Frame := { fn := P.funcs.size, tmps := #[], todo := [.call { target := .nil, args := #[] } false "fmt's door" #[]], defers := [], mode := .run, kind := .normal, roundOf := none }
theorem catcher_raise (P : Program) (ch : List PanicEntry) : ((catcher P).raise ch).mode = .panicking ch ∧ ((catcher P).raise ch).catches P = true ∧ ((catcher P).raise ch).defers = [] := by
 refine ⟨rfl, ?_, rfl⟩
 have : P.funcs[P.funcs.size]? = none := by simp
 simp only [Frame.catches, Frame.raise, catcher, this]
 decide +kernel
theorem ext_none : Extern.next "fmt's door" = none := by decide
theorem lone_ne {fr fr' : Frame} {cs cs' : List Frame} {w w' : World} (h : lone fr cs w = lone fr' cs' w') : fr = fr' ∧ cs = cs' ∧ w = w' := by
 have h1 := congrArg Machine.world h
 have h2 := congrArg (fun m => (m.gs[0]?).map (fun g => (g.frame, g.callers))) h
 simp [lone] at h1 h2
 exact ⟨h2.1, h2.2, h1⟩
theorem dead_run {P : Program} {fr' : Frame} {w' : World} (hm' : fr'.mode = .returning) : ∀ (n : Nat) (cs : List Frame) (fr : Frame) (w : World), fr.defers = [] → (∀ f ∈ cs, f.defers = []) → (∃ ch, fr.mode = .panicking ch) →
   runN P n (lone fr (cs ++ [catcher P]) w) ≠ .next (lone fr' [catcher P] w')
 | 0, cs, fr, w, _, _, ⟨ch, hch⟩ => by
   intro h
   simp only [runN, Stepped.next.injEq] at h
   obtain ⟨rfl, _⟩ := lone_ne h
   rw [hm'] at hch; cases hch
 | n + 1, cs, fr, w, hd, hds, ⟨ch, hch⟩ => by
   intro h
   simp only [runN] at h
   by_cases hc : fr.catches P = true
   · have : step P (lone fr (cs ++ [catcher P]) w) = .ended (.unsupported (.noEntry "a panic or Goexit out of a method that fmt calls behind a cut's door") (fr.pos P)) w :=
       step_lone_ended (by simp [stepG, unwind, hd, hch, hc])
     rw [this] at h
     cases h
   · have hc' : fr.catches P = false := by simpa using hc
     cases cs with
     | nil =>
       have : step P (lone fr ([] ++ [catcher P]) w) = .next (lone ((catcher P).raise ch) [] w) := step_lone_go (by simp [stepG, unwind, hd, hch, hc'])
       rw [this] at h
       obtain ⟨r1, r2, r3⟩ := catcher_raise P ch
       cases n with
       | zero =>
         simp only [runN, Stepped.next.injEq] at h
         have := (lone_ne h).2.1
         cases this
       | succ n =>
         simp only [runN] at h
         have : step P (lone ((catcher P).raise ch) [] w) = .ended (.unsupported (.noEntry "a panic or Goexit out of a method that fmt calls behind a cut's door") (((catcher P).raise ch).pos P)) w :=
           step_lone_ended (by simp [stepG, unwind, r1, r2, r3])
         rw [this] at h
         cases h
     | cons c cs =>
       have : step P (lone fr ((c :: cs) ++ [catcher P]) w) = .next (lone (c.raise ch) (cs ++ [catcher P]) w) := step_lone_go (by simp [stepG, unwind, hd, hch, hc'])
       rw [this] at h
       have hcd : c.defers = [] := hds c (by simp)
       refine dead_run hm' n cs (c.raise ch) w ?_ (fun f hf => hds f (by simp [hf])) ?_ h
       · unfold Frame.raise; split <;> exact hcd
       · unfold Frame.raise; split <;> exact ⟨_, rfl⟩
theorem past_end {P : Program} {fr fr' : Frame} {w w' : World} {fn : Func} (hp : Plain fr) (hm : fr.mode = .returning) (hf : P.funcs[fr.fn]? = some fn) (n : Nat) :
   runN P (n + 1) (lone fr [catcher P] w) ≠ .next (lone fr' [catcher P] w') := by
 intro h
 simp only [runN] at h
 cases hr : (results fn fr.tmps).run P w with
 | halt x w1 =>
   have : ∃ o, step P (lone fr [catcher P] w) = .ended o w1 := by
     cases x <;> exact ⟨_, step_lone_ended (by simp [stepG, unwind, hp.defers, hm, hf, hr]; rfl)⟩
   obtain ⟨o, ho⟩ := this
   rw [ho] at h; cases h
 | ok v w1 =>
   have : step P (lone fr [catcher P] w) = .next (lone ((catcher P).finish v) [] w1) := step_lone_go (by simp [stepG, unwind, hp.defers, hm, hf, hr, doReturn, hp.kind])
   rw [this] at h
   cases n with
   | zero =>
     simp only [runN, Stepped.next.injEq] at h
     have := (lone_ne h).2.1
     cases this
   | succ n =>
     simp only [runN] at h
     have : ∃ o, step P (lone ((catcher P).finish v) [] w1) = .ended o w1 := ⟨_, step_lone_ended (by simp [stepG, stepG.exec, Frame.finish, catcher, ext_none]; rfl)⟩
     obtain ⟨o, ho⟩ := this
     rw [ho] at h; cases h
theorem lone_step {S : Program} {F : FuncId → Bool} {sp : FuncId} {ρ : Ren} (H : Same S S F) (hF : Fine S S F sp) {fr : Frame} {cs l' : List Frame} (h : FsRel S F sp ρ (fr :: cs) l') {s w : World} (hw : WRel (Fp F) ρ s w) (hA : ∀ K, Agree K s w) :
   (∃ fr' cs' s', (gsem S (fr :: cs)).run S s = .ok (fr' :: cs') s' ∧ step S (lone fr (cs ++ [catcher S]) s) = .next (lone fr' (cs' ++ [catcher S]) s')) ∨
   (cs = [] ∧ fr.mode = .returning) ∨ (∃ o w', step S (lone fr (cs ++ [catcher S]) s) = .ended o w') ∨
   (∃ fr' s', step S (lone fr (cs ++ [catcher S]) s) = .next (lone fr' (cs ++ [catcher S]) s') ∧ (∃ ch, fr'.mode = .panicking ch) ∧ fr'.defers = []) := by
 cases h with
 | @cons _ f' _ cs' hf hc =>
 obtain ⟨fn, c, e1, e2, e3, e4⟩ := hF.fn fr.fn hf.known hf.nsp
 cases hg : (gsem S (fr :: cs)).run S s with
 | ok fs s' =>
   have hT : (gsem S (fr :: cs)).runT S s #[] = (.ok fs s', Sem.events S (gsem S (fr :: cs)) s #[]) := by rw [Sem.runT_eq, hg]
   obtain ⟨fr', cs', rfl, hst⟩ := step_of_gsem hf.pS hT true [catcher S] ⟨fn, e1⟩
   exact .inl ⟨fr', cs', s', rfl, step_lone_go (by simp only [Conc.G] at hst; rw [hst]; rfl)⟩
 | halt hl s' =>
   refine .inr ?_
   have hev := hf.eval
   obtain ⟨fnid, tmps, todo, defers, mode, kind, roundOf⟩ := fr
   obtain ⟨h1, h2, h3, h4, h5, h6, h7, h8, h9, h10⟩ := hf
   obtain ⟨p1, p2, p3⟩ := h8
   simp only at p1 p2 p3 h7 h10 e1
   subst p1 p2 p3
   rcases h7 with rfl | rfl
   · refine .inr ?_
     cases todo with
     | nil => cases hg
     | cons it k =>
       simp only [List.all_cons, Bool.and_eq_true] at h10
       obtain ⟨hi, hk⟩ := h10
       cases it with
       | inBlock id => cases hg
       | inScope b => cases hg
       | inLoop b => cases hg
       | inRegion ops l =>
         cases l with
         | nil => cases hg
         | cons i l =>
           cases ho : ops[i]? with
           | none =>
             unfold gsem at hg
             simp only [ho] at hg
             cases hg
           | some o =>
             unfold gsem at hg
             simp only [ho] at hg
             split at hg
             · rename_i hwn
               have hoo : opOk S F o.op = true := Array.all_eq_true_iff_forall_mem.1 hi o (Array.mem_of_getElem? ho)
               generalize hfr : ({ fn := fnid, tmps := tmps, todo := .inRegion ops (i :: l) :: k, defers := [], mode := .run, kind := .normal, roundOf := none } : Frame) = fr at hg hev ⊢
               have hst : stepG S true { frame := fr, callers := cs ++ [catcher S], status := .running, dying := none } s = stepG.apply S true fr (cs ++ [catcher S]) none (execOp fr.eval o) s := by
                 subst hfr
                 simp [stepG, stepG.exec, stepG.oper, Frame.oper?, ho, hwn]
               have hfd : fr.defers = [] ∧ fr.mode = .run := by subst hfr; exact ⟨rfl, rfl⟩
               rcases (execOp_rel H hoo hev (fun _ => rfl) (fun _ => rfl)).runAll s w #[] hw hA with ⟨hx, sx, r1, r2⟩ | ⟨x, sx, x', w', σ, u, r1, _, _, _, _, _, _, r3, _⟩
               · cases hx with
                 | panic v =>
                   refine .inr ⟨fr.raise [{ v, recovered := false }], sx, step_lone_go (by rw [hst]; simp [stepG.apply, r1]), ?_, ?_⟩
                   · unfold Frame.raise; rw [hfd.2]; exact ⟨_, rfl⟩
                   · unfold Frame.raise; rw [hfd.2]; exact hfd.1
                 | stuck y => exact .inl ⟨_, sx, step_lone_ended (by rw [hst]; simp [stepG.apply, r1]; rfl)⟩
                 | unsupported y =>
                   cases y with
                   | initOrder g => exact r2.elim
                   | _ => exact .inl ⟨_, sx, step_lone_ended (by rw [hst]; simp [stepG.apply, r1]; rfl)⟩
                 | _ => exact r2.elim
               · have hg' : ((execOp fr.eval o).bind fun x => afterOp S fr cs x).run S s = .halt hl s' := hg
                 rw [Sem.run_bind', r1] at hg'
                 cases r3 <;> cases hg'
             · cases hg
       | code c =>
         cases c with
         | cond c a b =>
           unfold gsem at hg
           simp only at hg
           split at hg
           · cases hg
           · rename_i hnb
             have key : ∃ o, (stepG S true { frame := { fn := fnid, tmps := tmps, todo := .code (.cond c a b) :: k, defers := [], mode := .run, kind := .normal, roundOf := none }, callers := cs ++ [catcher S], status := .running, dying := none } s).bare = .ended o s := by
               simp only [stepG, stepG.exec]
               exact ⟨_, rfl⟩
             obtain ⟨o, hob⟩ := key
             exact .inl ⟨o, s, step_lone_ended hob⟩
         | exit id =>
           unfold gsem at hg
           simp only at hg
           split at hg
           · cases hg
           · rename_i hnb
             exact .inl ⟨_, s, step_lone_ended (by simp [stepG, stepG.exec, hnb]; rfl)⟩
         | region id ops draw =>
           cases draw with
           | false => cases hg
           | true =>
             have hg' : (Sem.choose (.order fnid id) fun t => Sem.pure (({ fn := fnid, tmps := tmps, todo := .inRegion ops (Region.schedule (S.follows .mixedOrders) ops t) :: k, defers := [], mode := .run, kind := .normal, roundOf := none } : Frame) :: cs)).run S s = .halt hl s' := hg
             simp [Sem.run, Question.forced] at hg'
         | rangeFunc => simp [itemOk, codeOk] at hi
         | goto => simp [itemOk, codeOk] at hi
         | refuse => simp [itemOk, codeOk] at hi
         | _ => cases hg
       | inRangeFunc => simp [itemOk] at hi
       | endRangeFunc => simp [itemOk] at hi
       | beginRound => simp [itemOk] at hi
       | call => simp [itemOk] at hi
       | extern => simp [itemOk] at hi
   · cases cs with
     | nil => exact .inl ⟨rfl, rfl⟩
     | cons c cs =>
       refine .inr (.inl ?_)
       unfold gsem at hg
       simp only [e1] at hg
       have hg' : ((results fn tmps).bind fun v => Sem.pure (c.finish v :: cs)).run S s = .halt hl s' := hg
       rw [Sem.run_bind'] at hg'
       cases hr : (results fn tmps).run S s with
       | ok v s1 => rw [hr] at hg'; cases hg'
       | halt x s1 => cases x <;> exact ⟨_, s1, step_lone_ended (by simp [stepG, unwind, e1, hr]; rfl)⟩
theorem FsRel.defers {S : Program} {F : FuncId → Bool} {sp : FuncId} {ρ : Ren} {l l' : List Frame} (h : FsRel S F sp ρ l l') : ∀ f ∈ l, f.defers = [] := by
 induction h with
 | nil => intro f hf; cases hf
 | cons a _ ih =>
   intro f hf
   rcases List.mem_cons.1 hf with rfl | hf
   · exact a.pS.defers
   · exact ih f hf
def giter (S : Program) : Nat → List Frame → World → Option (List Frame × World)
 | 0, fs, s => some (fs, s)
 | n + 1, fs, s => match (gsem S fs).run S s with
   | .ok fs1 s1 => giter S n fs1 s1
   | .halt _ _ => none
def GRun (S : Program) (fs : List Frame) (s : World) (fs' : List Frame) (s' : World) : Prop := ∃ n, giter S n fs s = some (fs', s')
theorem GRun.refl (S : Program) (fs : List Frame) (s : World) : GRun S fs s fs s := ⟨0, rfl⟩
theorem GRun.head {S : Program} {fs fs1 fs2 : List Frame} {s s1 s2 : World} (h : (gsem S fs).run S s = .ok fs1 s1) (h' : GRun S fs1 s1 fs2 s2) : GRun S fs s fs2 s2 := by
 obtain ⟨n, hn⟩ := h'
 exact ⟨n + 1, by simp only [giter, h]; exact hn⟩
theorem grun_of {S : Program} {F : FuncId → Bool} {sp : FuncId} (H : Same S S F) (hF : Fine S S F sp) (hsp : NoSp S F sp) {fr' : Frame} {s' : World} (hm' : fr'.mode = .returning) : ∀ (n : Nat) (fr : Frame) (cs l' : List Frame) (s w : World) (ρ : Ren),
   FsRel S F sp ρ (fr :: cs) l' → WRel (Fp F) ρ s w → s.tape = w.tape → s.drawn = w.drawn → runN S n (lone fr (cs ++ [catcher S]) s) = .next (lone fr' [catcher S] s') → GRun S (fr :: cs) s [fr'] s'
 | 0, fr, cs, l', s, w, ρ, h, hw, ht, hd, hr => by
   simp only [runN, Stepped.next.injEq] at hr
   obtain ⟨rfl, h2, rfl⟩ := lone_ne hr
   have : cs = [] := by
     cases cs with
     | nil => rfl
     | cons c cs => have := congrArg List.length h2; simp at this
   subst this
   exact .refl _ _ _
 | n + 1, fr, cs, l', s, w, ρ, h, hw, ht, hd, hr => by
   have hr0 := hr
   simp only [runN] at hr
   rcases lone_step H hF h hw (Agree.same ht hd) with ⟨fr1, cs1, s1, g1, g2⟩ | ⟨rfl, hm⟩ | ⟨o, w1, g⟩ | ⟨fr1, s1, g1, g2, g3⟩
   · rw [g2] at hr
     refine .head g1 ?_
     rcases (gsem_rel H hF h).runAll s w #[] hw (Agree.same ht hd) with ⟨hx, sx, r1, _⟩ | ⟨x, sx, x', w', σ, u, r1, r2, r3, r4, r5, r6, r7, r8, _⟩
     · rw [g1] at r1; cases r1
     · rw [g1] at r1; cases r1
       rcases r8 with r8 | ⟨r8, _⟩
       · exact grun_of H hF hsp hm' n fr1 cs1 _ s1 w' σ r8 r7 (by rw [r3, r6.outW.2.2, ht]) (by omega) hr
       · rcases r8 with r8 | r8
         · rw [hsp.1] at r8; cases r8
         · rw [hsp.2] at r8; cases r8
   · cases h with
     | cons hf hc =>
       obtain ⟨fn, c, e1, _⟩ := hF.fn fr.fn hf.known hf.nsp
       exact absurd hr0 (past_end hf.pS hm e1 n)
   · rw [g] at hr; cases hr
   · rw [g1] at hr
     have hds : ∀ f ∈ cs, f.defers = [] := by
       cases h with
       | cons hf hc => exact hc.defers
     exact absurd hr (dead_run hm' n cs fr1 s1 g3 hds g2)
end Sim
end Go.Proofs.YthgelfnflafoiabGreat
namespace Go.Proofs.YthgelfnflafoiabGreat
namespace Sim
def tp (s : World) (τ : Nat -> Question -> Nat) (d : Nat) : World := { s with tape := τ, drawn := d }
theorem tp_tp (s : World) (τ τ' : Nat -> Question -> Nat) (d d' : Nat) : tp (tp s τ d) τ' d' = tp s τ' d' := rfl
theorem cell_tp (s : World) (τ : Nat -> Question -> Nat) (d : Nat) (a : Addr) : (tp s τ d).cell? a = s.cell? a := rfl
theorem frozen_tp (s : World) (τ : Nat -> Question -> Nat) (d : Nat) (a : Addr) : (tp s τ d).frozen? a = s.frozen? a := rfl
theorem setCell_tp (s : World) (τ : Nat -> Question -> Nat) (d : Nat) (a : Addr) (v : Value) : (tp s τ d).setCell a v = tp (s.setCell a v) τ d := rfl
def Local {α : Type} (S : Program) (x : Sem α) (s : World) : Prop :=
 ∀ a s', x.run S s = .ok a s' -> s.drawn <= s'.drawn /\ s'.tape = s.tape /\
   ∀ τ d, (∀ i q, i < s'.drawn - s.drawn -> τ (d + i) q = s.tape (s.drawn + i) q) -> x.run S (tp s τ d) = .ok a (tp s' τ (d + (s'.drawn - s.drawn)))
theorem Local.of_move {α : Type} {S : Program} {x y : Sem α} {s s1 : World} (hs : x.run S s = y.run S s1) (hd : s1.drawn = s.drawn) (ht : s1.tape = s.tape) (hτ : ∀ τ d, x.run S (tp s τ d) = y.run S (tp s1 τ d)) (h : Local S y s1) : Local S x s := by
 intro a s' hr
 obtain ⟨h1, h2, h3⟩ := h a s' (hs ▸ hr)
 refine ⟨by omega, h2.trans ht, fun τ d hag => ?_⟩
 rw [hτ, <- hd]
 exact h3 τ d fun i q hi => by rw [ht, hd]; exact hag i q (by omega)
theorem SRel.local {S R : Program} {F : FuncId -> Prop} {α β : Type} {Q : Ren -> α -> β -> Prop} {ρ : Ren} {x : Sem α} {x' : Sem β} (h : SRel S R F Q ρ x x') : ∀ (s w : World), WRel F ρ s w -> Local S x s := by
 induction h with
 | @pure ρ a b q =>
   intro s w _ a' s' hr
   cases hr
   exact ⟨Nat.le_refl _, rfl, fun τ d _ => by simp [Sem.run]⟩
 | @load ρ a a' k k' ha _ ih =>
   intro s w hw
   rcases hw.load ha with ⟨v, v', h1, h2, h3⟩ | ⟨h1, h2⟩
   · exact Local.of_move (y := k v) (by simp only [Sem.run, h1]) rfl rfl (fun τ d => by simp only [Sem.run, cell_tp, h1]) (ih v v' h3 s w hw)
   · intro b s' hr
     simp only [Sem.run, h1] at hr
     rw [noView_of h2] at hr
     cases hr
 | @store ρ a a' v v' k k' ha hv _ ih =>
   intro s w hw
   by_cases hs : Single v
   · rcases hw.load ha with ⟨u0, u0', h1, h2, h3⟩ | ⟨h1, h2⟩
     · cases hf : s.frozen? a with
       | true =>
         intro b s' hr
         rw [run_store_single _ hs, h1] at hr
         simp [hf] at hr
       | false =>
         obtain ⟨_, _, _, hw', _⟩ := hw.store ha hv h1 hf
         exact Local.of_move (y := k) (s1 := s.setCell a v) (by rw [run_store_single _ hs, h1]; simp [hf]) rfl rfl (fun τ d => by rw [run_store_single _ hs, cell_tp, h1]; simp [frozen_tp, hf, setCell_tp]) (ih _ _ hw')
     · intro b s' hr
       rw [run_store_single _ hs, h1] at hr
       simp only at hr
       rw [noViewS_of h2] at hr
       cases hr
   · intro b s' hr
     cases v <;> first | exact absurd trivial hs | cases hr
 | @new ρ c c' t k k' hc _ ih =>
   intro s w hw
   obtain ⟨hw', _⟩ := hw.push (hw.pushCells t hc)
   exact Local.of_move (y := k s.heap.size) (s1 := { s with heap := s.heap.push (.cells c t) }) rfl rfl rfl (fun τ d => rfl) (ih s.heap.size w.heap.size hw.fresh _ _ hw')
 | @number ρ a a' l k k' ha _ ih =>
   intro s w hw
   obtain ⟨hw', _⟩ := hw.push (o := .number a l) (o' := .number a' l) (.inr ⟨rfl, rfl, a, a', l, by simp, by simp, ha.mono (Ren.le_add hw.fresh w.heap.size)⟩)
   exact Local.of_move (y := k s.heap.size) (s1 := { s with heap := s.heap.push (.number a l) }) rfl rfl rfl (fun τ d => rfl) (ih s.heap.size w.heap.size hw.fresh _ _ hw')
 | @shape ρ r e k k' hr _ _ ih ih0 =>
   intro s w hw
   rcases hw.blk _ _ hr with ⟨c, t, fr, c', t', fr', h1, h2, _, h4, h5⟩ | ⟨_, _, _, _, _, h1, h2, _⟩
   · exact Local.of_move (y := k (some (t, c.size))) (s1 := s) (by simp only [Sem.run, World.shape?, h1]) rfl rfl (fun τ d => by simp only [Sem.run, World.shape?, tp, h1])
       (ih (t, c.size) (t', c'.size) (fun ho => let ⟨a1, _, _, a2, a3⟩ := h4 ho; ⟨by rw [a2, a3], a1⟩) (fun ho => (h5 ho).2) s w hw)
   · exact Local.of_move (y := k none) (s1 := s) (by simp only [Sem.run, World.shape?, h1]) rfl rfl (fun τ d => by simp only [Sem.run, World.shape?, tp, h1]) (ih0 s w hw)
 | @getObj ρ r e k k' hr _ ih =>
   intro s w hw
   rcases hw.blk _ _ hr with ⟨c, t, fr, c', t', fr', h1, _⟩ | ⟨ho, _, a, a', l, h1, h2, h3⟩
   · intro b s' hx
     simp only [Sem.run, h1] at hx
     cases hx
   · exact Local.of_move (y := k (.number a l)) (s1 := s) (by simp only [Sem.run, h1]) rfl rfl (fun τ d => by simp only [Sem.run, tp, h1]) (ih a a' l h3 s w hw)
 | @choose ρ q k k' _ _ ih =>
   intro s w hw
   by_cases hq : q.forced = true
   · exact Local.of_move (y := k 0) (s1 := s) (by simp only [Sem.run, hq, if_true]) rfl rfl (fun τ d => by simp only [Sem.run, hq, if_true]) (ih 0 s w hw)
   · intro a s' hr
     simp only [Sem.run, hq] at hr
     obtain ⟨h1, h2, h3⟩ := ih _ { s with drawn := s.drawn + 1 } w (hw.of_heap rfl rfl) a s' hr
     simp only at h1 h2 h3
     refine ⟨by omega, h2, fun τ d hag => ?_⟩
     simp only [Sem.run, hq]
     have e : τ d q = s.tape s.drawn q := by have := hag 0 q (by omega); simpa using this
     have := h3 τ (d + 1) fun i q hi => by
       have := hag (i + 1) q (by omega)
       rw [show d + 1 + i = d + (i + 1) by omega, show s.drawn + 1 + i = s.drawn + (i + 1) by omega]; exact this
     rw [show d + 1 + (s'.drawn - (s.drawn + 1)) = d + (s'.drawn - s.drawn) by omega] at this
     simp only [tp] at this ⊢
     rw [e]
     exact this
 | program _ ih => exact fun s w hw => ih s w hw
 | mark _ _ ih => exact fun s w hw => Local.of_move rfl rfl rfl (fun _ _ => rfl) (ih s w hw)
 | halt _ => intro s w _ a s' hr; cases hr
 | doom hd =>
   intro s w _ a s' hr
   obtain ⟨h, s1, h1, _⟩ := hd s
   rw [h1] at hr; cases hr
structure EndsOk (S : Program) (E : List Frame -> World -> Prop) : Prop where
 stuck : ∀ fs s, E fs s -> ∀ τ d, ¬ ∃ fs1 s1, (gsem S fs).run S (tp s τ d) = .ok fs1 s1
 tp : ∀ fs s τ d, E fs s -> E fs (tp s τ d)
inductive Bar (S : Program) (E : List Frame -> World -> Prop) : List Frame -> World -> Prop
 | stop {fs : List Frame} {s : World} : E fs s -> Bar S E fs s
 | step {fs : List Frame} {s : World} : (∀ τ d, ∃ fs1 s1, (gsem S fs).run S (tp s τ d) = .ok fs1 s1) -> (∀ τ d fs1 s1, (gsem S fs).run S (tp s τ d) = .ok fs1 s1 -> Bar S E fs1 s1) -> Bar S E fs s
section
variable {S : Program} {F : FuncId -> Bool} {sp : FuncId}
def WF (S : Program) (F : FuncId -> Bool) (sp : FuncId) (fs : List Frame) (s : World) : Prop := ∃ ρ l' w, FsRel S F sp ρ fs l' /\ WRel (Fp F) ρ s w
theorem WF.tp {fs : List Frame} {s : World} (h : WF S F sp fs s) (τ : Nat -> Question -> Nat) (d : Nat) : WF S F sp fs (tp s τ d) :=
 let ⟨ρ, l', w, h1, h2⟩ := h; ⟨ρ, l', w, h1, h2.of_heap rfl rfl⟩
theorem WF.local (H : Same S S F) (hF : Fine S S F sp) {fs : List Frame} {s : World} (h : WF S F sp fs s) : Local S (gsem S fs) s :=
 let ⟨_, _, _, h1, h2⟩ := h; (gsem_rel H hF h1).local _ _ h2
theorem WF.step (H : Same S S F) (hF : Fine S S F sp) (hsp : NoSp S F sp) {fs fs1 : List Frame} {s s1 : World} (h : WF S F sp fs s) (hr : (gsem S fs).run S s = .ok fs1 s1) : WF S F sp fs1 s1 := by
 obtain ⟨ρ, l', w, h1, h2⟩ := h
 have h2' : WRel (Fp F) ρ s (Sim.tp w s.tape s.drawn) := h2.of_heap rfl rfl
 rcases (gsem_rel H hF h1).runAll s _ #[] h2' (Agree.same rfl rfl) with ⟨hx, sx, r1, _⟩ | ⟨x, sx, x', w', σ, u, r1, r2, r3, r4, r5, r6, r7, r8, _⟩
 · rw [hr] at r1; cases r1
 · rw [hr] at r1; cases r1
   rcases r8 with r8 | ⟨r8, _⟩
   · exact ⟨σ, x', w', r8, r7⟩
   · rcases r8 with r8 | r8
     · rw [hsp.1] at r8; cases r8
     · rw [hsp.2] at r8; cases r8
theorem giter_shift (H : Same S S F) (hF : Fine S S F sp) (hsp : NoSp S F sp) : ∀ (n : Nat) (fs fs' : List Frame) (s s' : World), WF S F sp fs s -> giter S n fs s = some (fs', s') ->
   s.drawn <= s'.drawn /\ s'.tape = s.tape /\ ∀ τ d, (∀ i q, i < s'.drawn - s.drawn -> τ (d + i) q = s.tape (s.drawn + i) q) -> giter S n fs (tp s τ d) = some (fs', tp s' τ (d + (s'.drawn - s.drawn)))
 | 0, fs, fs', s, s', _, h => by
   simp only [giter, Option.some.injEq, Prod.mk.injEq] at h
   obtain ⟨rfl, rfl⟩ := h
   exact ⟨Nat.le_refl _, rfl, fun τ d _ => by simp [giter]⟩
 | n + 1, fs, fs', s, s', hwf, h => by
   simp only [giter] at h
   cases hr : (gsem S fs).run S s with
   | halt x y => rw [hr] at h; cases h
   | ok fs1 s1 =>
     rw [hr] at h
     simp only at h
     obtain ⟨a1, a2, a3⟩ := hwf.local H hF fs1 s1 hr
     obtain ⟨b1, b2, b3⟩ := giter_shift H hF hsp n fs1 fs' s1 s' (hwf.step H hF hsp hr) h
     refine ⟨by omega, b2.trans a2, fun τ d hag => ?_⟩
     have e1 := a3 τ d fun i q hi => hag i q (by omega)
     simp only [giter, e1]
     have e2 := b3 τ (d + (s1.drawn - s.drawn)) fun i q hi => by
       have := hag (s1.drawn - s.drawn + i) q (by omega)
       rw [<- Nat.add_assoc] at this
       rw [this, a2, show s.drawn + (s1.drawn - s.drawn + i) = s1.drawn + i by omega]
     rw [e2, show d + (s1.drawn - s.drawn) + (s'.drawn - s1.drawn) = d + (s'.drawn - s.drawn) by omega]
variable {E : List Frame -> World -> Prop}
def AllEnd (S : Program) (E : List Frame -> World -> Prop) (fs : List Frame) (s : World) : Prop := ∀ τ d, ∃ fs' s', GRun S fs (tp s τ d) fs' s' /\ E fs' s'
theorem AllEnd.step (H : Same S S F) (hF : Fine S S F sp) (hsp : NoSp S F sp) (hP : EndsOk S E) {fs fs1 : List Frame} {s s1 : World} (hwf : WF S F sp fs s) (h : AllEnd S E fs s) {τ : Nat -> Question -> Nat} {d : Nat}
   (hr : (gsem S fs).run S (tp s τ d) = .ok fs1 s1) : AllEnd S E fs1 s1 := by
 intro τ' d'
 obtain ⟨a1, a2, a3⟩ := (hwf.tp τ d).local H hF fs1 s1 hr
 obtain ⟨n, hn⟩ : ∃ n, n = s1.drawn - d := ⟨_, rfl⟩
 obtain ⟨fs', s', ⟨m, hm⟩, hfin⟩ := h (fun x q => if x < d + n then τ x q else τ' (d' + (x - (d + n))) q) d
 have e1 := a3 (fun x q => if x < d + n then τ x q else τ' (d' + (x - (d + n))) q) d fun i q hi => by
   simp only [Sim.tp] at hi ⊢
   rw [if_pos (by omega)]
 rw [tp_tp] at e1
 have e0 : s1.drawn - (Sim.tp s τ d).drawn = n := by rw [hn]; rfl
 rw [e0] at e1
 cases m with
 | zero =>
   simp only [giter, Option.some.injEq, Prod.mk.injEq] at hm
   obtain ⟨rfl, rfl⟩ := hm
   exact absurd ⟨_, _, e1⟩ (hP.stuck _ _ hfin _ _)
 | succ m =>
   simp only [giter, e1] at hm
   have hwf1 : WF S F sp fs1 (Sim.tp s1 (fun x q => if x < d + n then τ x q else τ' (d' + (x - (d + n))) q) (d + n)) := ((hwf.tp τ d).step H hF hsp hr).tp _ _
   obtain ⟨_, _, b3⟩ := giter_shift H hF hsp m fs1 fs' _ s' hwf1 hm
   have := b3 τ' d' fun i q hi => by
     simp only [Sim.tp]
     rw [if_neg (by omega), show d + n + i - (d + n) = i by omega]
   rw [tp_tp] at this
   exact ⟨fs', _, ⟨m, this⟩, hP.tp _ _ _ _ hfin⟩
theorem next_bad (H : Same S S F) (hF : Fine S S F sp) (hsp : NoSp S F sp) (hP : EndsOk S E) {fs : List Frame} {s : World} (hwf : WF S F sp fs s) (h : AllEnd S E fs s) (hb : ¬ Bar S E fs s) :
   ∃ τ d fs1 s1, (gsem S fs).run S (tp s τ d) = .ok fs1 s1 /\ WF S F sp fs1 s1 /\ AllEnd S E fs1 s1 /\ ¬ Bar S E fs1 s1 := by
 apply Classical.byContradiction
 intro hno
 apply hb
 refine .step (fun τ d => ?_) (fun τ d fs1 s1 hr => ?_)
 · obtain ⟨fs', s', ⟨m, hm⟩, hfin⟩ := h τ d
   cases m with
   | zero =>
     simp only [giter, Option.some.injEq, Prod.mk.injEq] at hm
     obtain ⟨rfl, rfl⟩ := hm
     have := hP.tp fs (tp s τ d) s.tape s.drawn hfin
     exact absurd (.stop this) hb
   | succ m =>
     simp only [giter] at hm
     cases hr : (gsem S fs).run S (tp s τ d) with
     | halt x y => rw [hr] at hm; cases hm
     | ok fs1 s1 => exact ⟨fs1, s1, rfl⟩
 · apply Classical.byContradiction
   intro hnb
   exact hno ⟨τ, d, fs1, s1, hr, (hwf.tp τ d).step H hF hsp hr, h.step H hF hsp hP hwf hr, hnb⟩
structure Way (S : Program) (F : FuncId -> Bool) (sp : FuncId) (E : List Frame -> World -> Prop) where
 fs : List Frame
 s : World
 wf : WF S F sp fs s
 all : AllEnd S E fs s
 bad : ¬ Bar S E fs s
theorem bar_of (H : Same S S F) (hF : Fine S S F sp) (hsp : NoSp S F sp) (hP : EndsOk S E) {fs : List Frame} {s : World} (hwf : WF S F sp fs s) (h : AllEnd S E fs s) : Bar S E fs s := by
 apply Classical.byContradiction
 intro hb
 have nx : ∀ x : Way S F sp E, ∃ (y : Way S F sp E) (τ : Nat -> Question -> Nat) (d : Nat), (gsem S x.fs).run S (tp x.s τ d) = .ok y.fs y.s := fun x =>
   let ⟨τ, d, fs1, s1, h1, h2, h3, h4⟩ := next_bad H hF hsp hP x.wf x.all x.bad
   ⟨⟨fs1, s1, h2, h3, h4⟩, τ, d, h1⟩
 let nxt : Way S F sp E -> Way S F sp E := fun x => Classical.choose (nx x)
 let nτ : Way S F sp E -> (Nat -> Question -> Nat) := fun x => Classical.choose (Classical.choose_spec (nx x))
 let nd : Way S F sp E -> Nat := fun x => Classical.choose (Classical.choose_spec (Classical.choose_spec (nx x)))
 have hnx : ∀ x, (gsem S x.fs).run S (tp x.s (nτ x) (nd x)) = .ok (nxt x).fs (nxt x).s := fun x => Classical.choose_spec (Classical.choose_spec (Classical.choose_spec (nx x)))
 let X : Nat -> Way S F sp E := fun k => Nat.rec ⟨fs, s, hwf, h, hb⟩ (fun _ x => nxt x) k
 have hX : ∀ k, X (k + 1) = nxt (X k) := fun k => rfl
 let cn : Nat -> Nat := fun k => (X (k + 1)).s.drawn - nd (X k)
 let D : Nat -> Nat := fun k => Nat.rec 0 (fun k d => d + cn k) k
 have hD : ∀ k, D (k + 1) = D k + cn k := fun k => rfl
 have hDm : ∀ j k, j <= k -> D j <= D k := by
   intro j k hjk
   induction hjk with
   | refl => exact Nat.le_refl _
   | step _ ih => rw [hD]; omega
 have hloc : ∀ k, Local S (gsem S (X k).fs) (tp (X k).s (nτ (X k)) (nd (X k))) := fun k => ((X k).wf.tp _ _).local H hF
 have tape : ∃ τ : Nat -> Question -> Nat, ∀ k i q, i < cn k -> τ (D k + i) q = nτ (X k) (nd (X k) + i) q := by
   refine ⟨fun x q => open Classical in if hx : ∃ k, D k <= x /\ x < D (k + 1) then nτ (X (Classical.choose hx)) (nd (X (Classical.choose hx)) + (x - D (Classical.choose hx))) q else 0, fun k i q hi => ?_⟩
   have hx : ∃ j, D j <= D k + i /\ D k + i < D (j + 1) := ⟨k, by omega, by rw [hD]; omega⟩
   simp only
   rw [dif_pos hx]
   have hc := Classical.choose_spec hx
   have e : Classical.choose hx = k := by
     generalize Classical.choose hx = j at hc
     rcases Nat.lt_trichotomy j k with hlt | rfl | hgt
     · have := hDm (j + 1) k hlt; omega
     · rfl
     · have := hDm (k + 1) j hgt; rw [hD] at this; omega
   rw [e, show D k + i - D k = i by omega]
 obtain ⟨τ, hτ⟩ := tape
 have hstep : ∀ k, (gsem S (X k).fs).run S (tp (X k).s τ (D k)) = .ok (X (k + 1)).fs (tp (X (k + 1)).s τ (D (k + 1))) := by
   intro k
   obtain ⟨a1, a2, a3⟩ := hloc k _ _ (hnx (X k))
   have := a3 τ (D k) fun i q hi => hτ k i q hi
   rw [tp_tp] at this
   exact this
 have hiter : ∀ k j, giter S k (X j).fs (tp (X j).s τ (D j)) = some ((X (j + k)).fs, tp (X (j + k)).s τ (D (j + k))) := by
   intro k
   induction k with
   | zero => intro j; rfl
   | succ k ih =>
     intro j
     simp only [giter, hstep j]
     rw [ih (j + 1), show j + 1 + k = j + (k + 1) by omega]
 obtain ⟨fs', s', ⟨m, hm⟩, hfin⟩ := h τ 0
 have := hiter m 0
 rw [show tp (X 0).s τ (D 0) = tp s τ 0 from rfl, show (X 0).fs = fs from rfl, hm] at this
 simp only [Option.some.injEq, Prod.mk.injEq] at this
 obtain ⟨e1, e2⟩ := this
 subst e1
 have := hstep (0 + m)
 exact hP.stuck _ _ hfin τ (D (0 + m)) ⟨_, _, by rw [show tp s' τ (D (0 + m)) = tp (X (0 + m)).s τ (D (0 + m)) by rw [e2]; rfl]; exact this⟩
end
end Sim
end Go.Proofs.YthgelfnflafoiabGreat
namespace Go.Proofs.YthgelfnflafoiabGreat
namespace Sim
theorem gsem_app {P : Program} {fr : Frame} {cs fs : List Frame} {w w' : World} (h : (gsem P (fr :: cs)).run P w = .ok fs w') (base : List Frame) : (gsem P (fr :: (cs ++ base))).run P w = .ok (fs ++ base) w' := by
 have bad : ∀ {why : String}, (Go.stuck why : Sem (List Frame)).run P w = .ok fs w' -> False := by
   intro why hc
   simp [Go.stuck] at hc
 obtain ⟨fnid, tmps, todo, defers, mode, kind, roundOf⟩ := fr
 cases mode with
 | panicking ch => exact (bad h).elim
 | returning =>
   unfold gsem at h ⊢
   simp only at h ⊢
   cases hfn : P.funcs[fnid]? with
   | none => rw [hfn] at h; exact (bad h).elim
   | some fn =>
     rw [hfn] at h
     cases cs with
     | nil => exact (bad h).elim
     | cons c cs =>
       simp only [List.cons_append] at h ⊢
       have h' : ((results fn tmps).bind fun v => Sem.pure (c.finish v :: cs)).run P w = .ok fs w' := h
       show ((results fn tmps).bind fun v => Sem.pure (c.finish v :: (cs ++ base))).run P w = .ok (fs ++ base) w'
       rw [Sem.run_bind'] at h' ⊢
       cases hr : (results fn tmps).run P w with
       | halt x w1 => rw [hr] at h'; cases h'
       | ok v w1 =>
         rw [hr] at h'
         simp only [Sem.run] at h'
         obtain ⟨rfl, rfl⟩ := h'
         rfl
 | run =>
   have ctl : ∀ {l : List Frame}, (Pure.pure l : Sem (List Frame)).run P w = .ok fs w' -> fs = l /\ w' = w := by
     intro l hc
     have hc' : Result.ok l w = .ok fs w' := hc
     simp only [Result.ok.injEq] at hc'
     exact ⟨hc'.1.symm, hc'.2.symm⟩
   have pu : ∀ (l : List Frame), (Pure.pure l : Sem (List Frame)).run P w = .ok l w := fun _ => rfl
   cases todo with
   | nil => obtain ⟨rfl, rfl⟩ := ctl h; exact pu _
   | cons it k =>
     cases it with
     | inBlock id => obtain ⟨rfl, rfl⟩ := ctl h; exact pu _
     | inScope b => obtain ⟨rfl, rfl⟩ := ctl h; exact pu _
     | inLoop b => obtain ⟨rfl, rfl⟩ := ctl h; exact pu _
     | inRegion ops l =>
       cases l with
       | nil => obtain ⟨rfl, rfl⟩ := ctl h; exact pu _
       | cons i l =>
         unfold gsem at h ⊢
         simp only at h ⊢
         cases ho : ops[i]? with
         | none => rw [ho] at h; obtain ⟨rfl, rfl⟩ := ctl h; exact pu _
         | some o =>
           rw [ho] at h
           simp only at h ⊢
           by_cases hw : Region.wanted o (yielded ops tmps) = true
           · rw [if_pos hw] at h ⊢
             generalize ({ fn := fnid, tmps := tmps, todo := .inRegion ops (i :: l) :: k, defers := defers, mode := .run, kind := kind, roundOf := roundOf } : Frame) = fr at h ⊢
             have h' : ((execOp fr.eval o).bind fun x => afterOp P fr cs x).run P w = .ok fs w' := h
             show ((execOp fr.eval o).bind fun x => afterOp P fr (cs ++ base) x).run P w = .ok (fs ++ base) w'
             rw [Sem.run_bind'] at h' ⊢
             cases hr : (execOp fr.eval o).run P w with
             | halt x w1 => rw [hr] at h'; cases h'
             | ok x w1 =>
               rw [hr] at h'
               cases x with
               | value v =>
                 have h2 : Result.ok (fr.finish v :: cs) w1 = .ok fs w' := h'
                 simp only [Result.ok.injEq] at h2
                 obtain ⟨rfl, rfl⟩ := h2; rfl
               | skip =>
                 have h2 : Result.ok (fr.finish undef :: cs) w1 = .ok fs w' := h'
                 simp only [Result.ok.injEq] at h2
                 obtain ⟨rfl, rfl⟩ := h2; rfl
               | enter f args =>
                 have h2 : Result.ok (Frame.enter P f args .normal :: fr :: cs) w1 = .ok fs w' := h'
                 simp only [Result.ok.injEq] at h2
                 obtain ⟨rfl, rfl⟩ := h2; rfl
               | _ => simp [afterOp, Go.stuck, Sem.run] at h'
           · rw [if_neg hw] at h ⊢
             obtain ⟨rfl, rfl⟩ := ctl h; exact pu _
     | code c =>
       cases c with
       | ret => obtain ⟨rfl, rfl⟩ := ctl h; exact pu _
       | skip => obtain ⟨rfl, rfl⟩ := ctl h; exact pu _
       | label l => obtain ⟨rfl, rfl⟩ := ctl h; exact pu _
       | seq a b => obtain ⟨rfl, rfl⟩ := ctl h; exact pu _
       | cond c a b =>
         unfold gsem at h ⊢
         simp only at h ⊢
         split at h
         · rename_i x hx
           obtain ⟨rfl, rfl⟩ := ctl h
           exact pu _
         · exact (bad h).elim
       | block id b => obtain ⟨rfl, rfl⟩ := ctl h; exact pu _
       | loop b => obtain ⟨rfl, rfl⟩ := ctl h; exact pu _
       | scope b => obtain ⟨rfl, rfl⟩ := ctl h; exact pu _
       | exit id =>
         unfold gsem at h ⊢
         simp only at h ⊢
         split at h
         · rename_i k' hx
           obtain ⟨rfl, rfl⟩ := ctl h
           exact pu _
         · exact (bad h).elim
       | region id ops draw =>
         unfold gsem at h ⊢
         simp only at h ⊢
         cases draw with
         | false =>
           simp only [Bool.not_false, if_true] at h ⊢
           obtain ⟨rfl, rfl⟩ := ctl h; exact pu _
         | true =>
           simp only [Bool.not_true, Bool.false_eq_true, if_false] at h ⊢
           have h' : (Sem.choose (.order fnid id) fun t => Sem.pure (({ fn := fnid, tmps := tmps, todo := .inRegion ops (Region.schedule (P.follows .mixedOrders) ops t) :: k, defers := defers, mode := .run, kind := kind, roundOf := roundOf } : Frame) :: cs)).run P w = .ok fs w' := h
           show (Sem.choose (.order fnid id) fun t => Sem.pure (({ fn := fnid, tmps := tmps, todo := .inRegion ops (Region.schedule (P.follows .mixedOrders) ops t) :: k, defers := defers, mode := .run, kind := kind, roundOf := roundOf } : Frame) :: (cs ++ base))).run P w = .ok (fs ++ base) w'
           simp only [Sem.run, Question.forced, Question.cut, Bool.false_eq_true, if_false, Result.ok.injEq] at h' ⊢
           obtain ⟨rfl, rfl⟩ := h'
           exact ⟨rfl, rfl⟩
       | _ => exact (bad h).elim
     | _ => exact (bad h).elim
theorem giter_app {S : Program} (base : List Frame) : ∀ (n : Nat) (fs fs' : List Frame) (s s' : World), giter S n fs s = some (fs', s') -> giter S n (fs ++ base) s = some (fs' ++ base, s')
 | 0, fs, fs', s, s', h => by
   simp only [giter, Option.some.injEq, Prod.mk.injEq] at h ⊢
   obtain ⟨rfl, rfl⟩ := h
   exact ⟨rfl, rfl⟩
 | n + 1, fs, fs', s, s', h => by
   simp only [giter] at h ⊢
   cases hr : (gsem S fs).run S s with
   | halt x y => rw [hr] at h; cases h
   | ok fs1 s1 =>
     rw [hr] at h
     cases fs with
     | nil => simp [gsem, Go.stuck] at hr
     | cons fr cs =>
       rw [List.cons_append, gsem_app hr base]
       exact giter_app base n fs1 fs' s1 s' h
theorem giter_add {S : Program} : ∀ (n m : Nat) {fs fs1 fs2 : List Frame} {s s1 s2 : World}, giter S n fs s = some (fs1, s1) -> giter S m fs1 s1 = some (fs2, s2) -> giter S (n + m) fs s = some (fs2, s2)
 | 0, m, fs, fs1, fs2, s, s1, s2, h, h' => by
   simp only [giter, Option.some.injEq, Prod.mk.injEq] at h
   obtain ⟨rfl, rfl⟩ := h
   rw [Nat.zero_add]; exact h'
 | n + 1, m, fs, fs1, fs2, s, s1, s2, h, h' => by
   rw [show n + 1 + m = (n + m) + 1 by omega]
   simp only [giter] at h ⊢
   cases hr : (gsem S fs).run S s with
   | halt x y => rw [hr] at h; cases h
   | ok fs3 s3 =>
     rw [hr] at h
     exact giter_add n m h h'
theorem GRun.trans {S : Program} {fs fs1 fs2 : List Frame} {s s1 s2 : World} (h : GRun S fs s fs1 s1) (h' : GRun S fs1 s1 fs2 s2) : GRun S fs s fs2 s2 :=
 let ⟨n, a⟩ := h; let ⟨m, b⟩ := h'; ⟨n + m, giter_add n m a b⟩
theorem Bar.along {S : Program} {E : List Frame -> World -> Prop} (hE : EndsOk S E) : ∀ (n : Nat) {fs fs' : List Frame} {s s' : World}, Bar S E fs s -> ∀ τ d, giter S n fs (tp s τ d) = some (fs', s') -> Bar S E fs' s'
 | 0, fs, fs', s, s', h, τ, d, hg => by
   simp only [giter, Option.some.injEq, Prod.mk.injEq] at hg
   obtain ⟨rfl, rfl⟩ := hg
   cases h with
   | stop h => exact .stop (hE.tp _ _ _ _ h)
   | step h1 h2 => exact .step (fun τ' d' => h1 τ' d') (fun τ' d' fs1 s1 h => h2 τ' d' fs1 s1 h)
 | n + 1, fs, fs', s, s', h, τ, d, hg => by
   simp only [giter] at hg
   cases hr : (gsem S fs).run S (tp s τ d) with
   | halt x y => rw [hr] at hg; cases hg
   | ok fs1 s1 =>
     rw [hr] at hg
     cases h with
     | stop h => exact absurd ⟨_, _, hr⟩ (hE.stuck _ _ h τ d)
     | step h1 h2 => exact Bar.along hE n (h2 τ d fs1 s1 hr) s1.tape s1.drawn hg
theorem giter_rel {S R : Program} {F : FuncId -> Bool} {sp : FuncId} (H : Same S R F) (hF : Fine S R F sp) {E : List Frame -> World -> Prop} (hE : EndsOk S E) (hno : ∀ x cs s, Bar S E (Frame.enter S sp x .normal :: cs) s -> False) :
   ∀ (n : Nat) (l l' l1 : List Frame) (s w s1 : World) (ρ : Ren), FsRel S F sp ρ l l' -> WRel (Fp F) ρ s w -> (∀ K, Agree K s w) -> Bar S E l s -> giter S n l s = some (l1, s1) ->
     ∃ l1' w1 σ, giter R n l' w = some (l1', w1) /\ FsRel S F sp σ l1 l1' /\ WRel (Fp F) σ s1 w1 /\ Moved ρ σ s s1 w w1 /\ w1.drawn = w.drawn + (s1.drawn - s.drawn) /\ s.drawn <= s1.drawn
 | 0, l, l', l1, s, w, s1, ρ, h, hw, hA, hB, hg => by
   simp only [giter, Option.some.injEq, Prod.mk.injEq] at hg
   obtain ⟨rfl, rfl⟩ := hg
   exact ⟨l', w, ρ, rfl, h, hw, .refl _ _ _, by omega, Nat.le_refl _⟩
 | n + 1, l, l', l1, s, w, s1, ρ, h, hw, hA, hB, hg => by
   simp only [giter] at hg
   cases hr : (gsem S l).run S s with
   | halt x y => rw [hr] at hg; cases hg
   | ok l2 s2 =>
     rw [hr] at hg
     have hB2 : Bar S E l2 s2 := by
       cases hB with
       | stop h => exact absurd ⟨_, _, hr⟩ (hE.stuck _ _ h s.tape s.drawn)
       | step h1 h2 => exact h2 s.tape s.drawn l2 s2 hr
     rcases (gsem_rel H hF h).runAll s w #[] hw hA with ⟨hx, sx, r1, _⟩ | ⟨x, sx, x', w', σ, u, r1, r2, r3, r4, r5, r6, r7, r8, _⟩
     · rw [hr] at r1; cases r1
     · rw [hr] at r1; cases r1
       have r4' : (gsem R l').run R w = .ok x' w' := by
         have := congrArg Prod.fst r4
         rw [Sem.runT_eq] at this
         exact this
       rcases r8 with r8 | ⟨_, y, y', cs, cs', _, rfl, _⟩
       · have hA' : ∀ K, Agree K s2 w' := fun K i q hi => by
           have := hA (s2.drawn - s.drawn + K) (s2.drawn - s.drawn + i) q (by omega)
           rw [r3, r6.outW.2.2, r5, show s2.drawn + i = s.drawn + (s2.drawn - s.drawn + i) by omega, show w.drawn + (s2.drawn - s.drawn) + i = w.drawn + (s2.drawn - s.drawn + i) by omega]
           exact this
         obtain ⟨l1', w1, σ1, g1, g2, g3, g4, g5, g6⟩ := giter_rel H hF hE hno n l2 x' l1 s2 w' s1 σ r8 r7 hA' hB2 hg
         exact ⟨l1', w1, σ1, by simp only [giter, r4']; exact g1, g2, g3, r6.trans g4, by omega, by omega⟩
       · exact (hno _ _ _ hB2).elim
def Joins (σ2 σ1 θ : Ren) : Prop := ∀ b e2 e1, σ2 b = some e2 -> σ1 b = some e1 -> ∃ e, θ e2.blk = some e /\ e.blk = e1.blk /\ e.sh + e2.sh = e1.sh
theorem ARel.comp {σ2 σ1 θ : Ren} (hJ : Joins σ2 σ1 θ) {a u z : Addr} (h2 : ARel σ2 a u) (h1 : ARel σ1 a z) : ARel θ u z := by
 obtain ⟨e2, x1, x2, rfl⟩ := h2
 obtain ⟨e1, y1, y2, rfl⟩ := h1
 obtain ⟨e, z1, z2, z3⟩ := hJ _ _ _ x1 y1
 exact ⟨e, z1, rfl, by simp only [z2, Addr.mk.injEq, true_and, and_true]; omega⟩
theorem VRel.comp {F : FuncId -> Prop} {σ2 σ1 θ : Ren} (hJ : Joins σ2 σ1 θ) {x u : Value} (h2 : VRel F σ2 x u) : ∀ {z : Value}, VRel F σ1 x z -> VRel F θ u z := by
 induction h2 with
 | bool b => intro z h; cases h; exact .bool b
 | int k n => intro z h; cases h; exact .int k n
 | string s => intro z h; cases h; exact .string s
 | nilPtr => intro z h; cases h; exact .nilPtr
 | ptr a => intro z h; cases h with | ptr a1 => exact .ptr (a.comp hJ a1)
 | nilSlice l c => intro z h; cases h; exact .nilSlice l c
 | slice l c a => intro z h; cases h with
   | slice _ _ a1 => exact .slice l c (a.comp hJ a1)
   | void _ a1 => exact .void _ _
 | void a a' => intro z h; cases h <;> exact .void _ _
 | nilFunc => intro z h; cases h; exact .nilFunc
 | nilIface => intro z h; cases h; exact .nilIface
 | @func f x x' y y' hf h1 i1 h2 i2 ih1 ih2 =>
   intro z h
   cases h with
   | @func _ _ x1' _ y1' hf' k1 j1 k2 j2 =>
     refine .func hf (h1.symm.trans k1) (fun i v v' hv hv' => ?_) (h2.symm.trans k2) (fun i v v' hv hv' => ?_)
     · have hi : i < x.size := by rw [h1]; exact (Array.getElem?_eq_some_iff.1 hv).1
       exact ih1 i _ _ (Array.getElem?_eq_getElem hi) hv (j1 i _ _ (Array.getElem?_eq_getElem hi) hv')
     · have hi : i < y.size := by rw [h2]; exact (Array.getElem?_eq_some_iff.1 hv).1
       exact ih2 i _ _ (Array.getElem?_eq_getElem hi) hv (j2 i _ _ (Array.getElem?_eq_getElem hi) hv')
 | iface t _ ih => intro z h; cases h with | iface _ h => exact .iface t (ih h)
 | @agg x x' h1 i1 ih1 =>
   intro z h
   cases h with
   | @agg _ x1' k1 j1 =>
     refine .agg (h1.symm.trans k1) (fun i v v' hv hv' => ?_)
     have hi : i < x.size := by rw [h1]; exact (Array.getElem?_eq_some_iff.1 hv).1
     exact ih1 i _ _ (Array.getElem?_eq_getElem hi) hv (j1 i _ _ (Array.getElem?_eq_getElem hi) hv')
 | @tuple x x' h1 i1 ih1 =>
   intro z h
   cases h with
   | @tuple _ x1' k1 j1 =>
     refine .tuple (h1.symm.trans k1) (fun i v v' hv hv' => ?_)
     have hi : i < x.size := by rw [h1]; exact (Array.getElem?_eq_some_iff.1 hv).1
     exact ih1 i _ _ (Array.getElem?_eq_getElem hi) hv (j1 i _ _ (Array.getElem?_eq_getElem hi) hv')
end Sim
end Go.Proofs.YthgelfnflafoiabGreat
namespace Go.Proofs.YthgelfnflafoiabGreat
namespace Sim
section
variable {F : FuncId -> Prop} {σ2 σ1 θ : Ren} {f s s' w : World}
noncomputable def put2 (θ σ2 σ1 : Ren) (H : Nat) : Ren := fun b' =>
 open Classical in
 if b' < H then θ b' else if h : ∃ b e2 e1, σ2 b = some e2 /\ σ1 b = some e1 /\ e2.own = true /\ e1.own = true /\ e2.blk = b' then some h.choose_spec.choose_spec.choose else none
theorem put2_old {H b : Nat} (h : b < H) : put2 θ σ2 σ1 H b = θ b := by
 unfold put2; rw [if_pos h]
theorem put2_new {H b' : Nat} {e : Ent} (h : ¬ b' < H) (he : put2 θ σ2 σ1 H b' = some e) : ∃ b e2, σ2 b = some e2 /\ σ1 b = some e /\ e2.own = true /\ e.own = true /\ e2.blk = b' := by
 unfold put2 at he
 rw [if_neg h] at he
 split at he
 · rename_i hx
   cases he
   exact ⟨_, _, hx.choose_spec.choose_spec.choose_spec⟩
 · cases he
theorem put2_at (hw : WRel F σ2 f s') {H b : Nat} {e2 e1 : Ent} (h2 : σ2 b = some e2) (h1 : σ1 b = some e1) (o2 : e2.own = true) (o1 : e1.own = true) (hH : ¬ e2.blk < H) : put2 θ σ2 σ1 H e2.blk = some e1 := by
 unfold put2
 rw [if_neg hH]
 have hx : ∃ b e2' e1', σ2 b = some e2' /\ σ1 b = some e1' /\ e2'.own = true /\ e1'.own = true /\ e2'.blk = e2.blk := ⟨b, e2, e1, h2, h1, o2, o1, rfl⟩
 rw [dif_pos hx]
 have key : ∀ x y z, (σ2 x = some y /\ σ1 x = some z /\ y.own = true /\ z.own = true /\ y.blk = e2.blk) -> z = e1 := by
   rintro x y z ⟨k1, k2, k3, _, k5⟩
   have := hw.inj _ _ _ _ k1 h2 k5 k3
   subst this
   rw [h1] at k2
   exact (Option.some.inj k2).symm
 exact congrArg some (key _ _ _ hx.choose_spec.choose_spec.choose_spec)
theorem put2_rel (hθ : WRel F θ s w) (h2 : WRel F σ2 f s') (h1 : WRel F σ1 f w) (hkeep : ∀ b, b < s.heap.size -> s'.heap[b]? = s.heap[b]?) (hin : ∀ b e, θ b = some e -> b < s.heap.size)
   (hnew : ∀ b e2, σ2 b = some e2 -> e2.own = true -> s.heap.size <= e2.blk)
   (hold : ∀ b e2 e1, σ2 b = some e2 -> σ1 b = some e1 -> ¬ (e2.own = true /\ e1.own = true) -> e2.blk < s.heap.size /\ ∃ e, θ e2.blk = some e /\ e.blk = e1.blk /\ e.sh + e2.sh = e1.sh)
   (hdis : ∀ b e b1 e1, θ b = some e -> σ1 b1 = some e1 -> e1.own = true -> e.blk ≠ e1.blk) :
   WRel F (put2 θ σ2 σ1 s.heap.size) s' w /\ θ.le (put2 θ σ2 σ1 s.heap.size) /\ Joins σ2 σ1 (put2 θ σ2 σ1 s.heap.size) := by
 have hJ : Joins σ2 σ1 (put2 θ σ2 σ1 s.heap.size) := by
   intro b e2 e1 x2 x1
   by_cases ho : e2.own = true /\ e1.own = true
   · refine ⟨e1, put2_at h2 x2 x1 ho.1 ho.2 (by have := hnew b e2 x2 ho.1; omega), rfl, ?_⟩
     rcases h2.blk b e2 x2 with ⟨_, _, _, _, _, _, _, _, _, y, _⟩ | ⟨_, y, _⟩
     · have := (y ho.1).1; omega
     · omega
   · obtain ⟨k1, e, k2, k3, k4⟩ := hold b e2 e1 x2 x1 ho
     exact ⟨e, by rw [put2_old k1]; exact k2, k3, k4⟩
 have hle : θ.le (put2 θ σ2 σ1 s.heap.size) := fun b e hb => by rw [put2_old (hin b e hb)]; exact hb
 refine ⟨⟨fun b' e hb => ?_, fun b1 b2 e1 e2 x1 x2 hblk ho => ?_⟩, hle, hJ⟩
 · by_cases hlt : b' < s.heap.size
   · rw [put2_old hlt] at hb
     rcases hθ.blk b' e hb with ⟨c, t, fr, c', t', fr', k1, k2, k3, k4, k5⟩ | ⟨k1, k2, a, a', lost, k3, k4, k5⟩
     · exact .inl ⟨c, t, fr, c', t', fr', by rw [hkeep b' hlt]; exact k1, k2, fun i v hv => let ⟨v', z1, z2⟩ := k3 i v hv; ⟨v', z1, z2.mono hle⟩, k4, k5⟩
     · exact .inr ⟨k1, k2, a, a', lost, by rw [hkeep b' hlt]; exact k3, k4, k5.mono hle⟩
   · obtain ⟨b, e2, x2, x1, o2, o1, rfl⟩ := put2_new hlt hb
     rcases h2.blk b e2 x2 with ⟨c, t, fr, c2, t2, fr2, k1, k2, k3, k4, _⟩ | ⟨_, k0, a, a2, lost, k1, k2, k3⟩
     · rcases h1.blk b e x1 with ⟨c', t', fr', c1, t1, fr1, m1, m2, m3, m4, _⟩ | ⟨_, _, a, a', lost, m1, _⟩
       · rw [k1] at m1
         cases m1
         obtain ⟨p1, rfl, rfl, p4, rfl⟩ := k4 o2
         obtain ⟨q1, _, rfl, q4, rfl⟩ := m4 o1
         refine .inl ⟨c2, t, (0, 0), c1, t, (0, 0), k2, m2, fun i v hv => ?_, fun _ => ⟨q1, rfl, rfl, by omega, rfl⟩, fun h => by rw [o1] at h; cases h⟩
         have hi : i < c.size := by have := (Array.getElem?_eq_some_iff.1 hv).1; omega
         obtain ⟨v2, r1, r2⟩ := k3 i _ (Array.getElem?_eq_getElem hi)
         obtain ⟨v1, r3, r4⟩ := m3 i _ (Array.getElem?_eq_getElem hi)
         rw [p1, Nat.add_zero, hv] at r1
         cases r1
         exact ⟨v1, r3, r2.comp hJ r4⟩
       · rw [k1] at m1; cases m1
     · rcases h1.blk b e x1 with ⟨c', t', fr', c1, t1, fr1, m1, _⟩ | ⟨_, m0, a', a1, lost', m1, m2, m3⟩
       · rw [k1] at m1; cases m1
       · rw [k1] at m1
         cases m1
         exact .inr ⟨o1, m0, a2, a1, lost, k2, m2, k3.comp hJ m3⟩
 · by_cases l1 : b1 < s.heap.size <;> by_cases l2 : b2 < s.heap.size
   · rw [put2_old l1] at x1; rw [put2_old l2] at x2
     exact hθ.inj _ _ _ _ x1 x2 hblk ho
   · rw [put2_old l1] at x1
     obtain ⟨b, _, _, y1, _, o, _⟩ := put2_new l2 x2
     exact absurd hblk (hdis _ _ _ _ x1 y1 o)
   · rw [put2_old l2] at x2
     obtain ⟨b, _, _, y1, _, o, _⟩ := put2_new l1 x1
     exact absurd hblk.symm (hdis _ _ _ _ x2 y1 o)
   · obtain ⟨b, f2, y2, y1, _, o, rfl⟩ := put2_new l1 x1
     obtain ⟨b', f2', y2', y1', _, _, rfl⟩ := put2_new l2 x2
     have := h1.inj _ _ _ _ y1 y1' hblk o
     subst this
     rw [y2] at y2'
     cases y2'
     rfl
theorem WRel.addOwn (h : WRel F θ s w) {b b' : Nat} (hb : θ b = none) (hn : ∀ x e, θ x = some e -> e.blk ≠ b') {c c' : Array Value} {t : TypeId} (hs : s.heap[b]? = some (.cells c t)) (hw : w.heap[b']? = some (.cells c' t)) (hsz : c'.size = c.size)
   (hc : ∀ (i : Nat) v v', c[i]? = some v -> c'[i]? = some v' -> VRel F θ v v') : WRel F (θ.add b b') s w /\ θ.le (θ.add b b') := by
 have hle := Ren.le_add hb b'
 refine ⟨⟨fun x e hx => ?_, fun x1 x2 e1 e2 k1 k2 hblk ho => ?_⟩, hle⟩
 · unfold Ren.add at hx
   split at hx
   · rename_i hxb
     subst hxb
     cases hx
     refine .inl ⟨c, t, (0, 0), c', t, (0, 0), hs, hw, fun i v hv => ?_, fun _ => ⟨rfl, rfl, rfl, hsz, rfl⟩, fun h => by cases h⟩
     have hi : i < c'.size := by have := (Array.getElem?_eq_some_iff.1 hv).1; omega
     exact ⟨c'[i], by simp [hi], (hc i v _ hv (Array.getElem?_eq_getElem hi)).mono hle⟩
   · rcases h.blk x e hx with ⟨c, t, fr, c', t', fr', m1, m2, m3, m4, m5⟩ | ⟨m1, m2, a, a', lost, m3, m4, m5⟩
     · exact .inl ⟨c, t, fr, c', t', fr', m1, m2, fun i v hv => let ⟨v', z1, z2⟩ := m3 i v hv; ⟨v', z1, z2.mono hle⟩, m4, m5⟩
     · exact .inr ⟨m1, m2, a, a', lost, m3, m4, m5.mono hle⟩
 · unfold Ren.add at k1 k2
   split at k1 <;> split at k2
   · subst_vars; rfl
   · cases k1; exact absurd hblk.symm (hn _ _ k2)
   · cases k2; exact absurd hblk (hn _ _ k1)
   · exact h.inj _ _ _ _ k1 k2 hblk ho
def isCells (s : World) (b : Nat) : Bool := match s.heap[b]? with
 | some (.cells _ _ _) => true
 | _ => false
def shared (θ : Ren) (s : World) : Ren := fun b => if isCells s b then (θ b).map fun e => { e with own := false } else none
theorem shared_some {b : Nat} {e : Ent} (h : shared θ s b = some e) : isCells s b = true /\ ∃ e0, θ b = some e0 /\ e = { e0 with own := false } := by
 unfold shared at h
 split at h
 · rename_i hc
   obtain ⟨e0, h0, rfl⟩ := Option.map_eq_some_iff.1 h
   exact ⟨hc, e0, h0, rfl⟩
 · cases h
def okCell (F : FuncId -> Prop) (θ ρ : Ren) (v : Value) : Prop := ∀ v', VRel F θ v v' -> VRel F ρ v v'
open Classical in
noncomputable def goodPre (F : FuncId -> Prop) (θ ρ : Ren) (c : Array Value) : Array Value := (c.toList.takeWhile fun v => decide (okCell F θ ρ v)).toArray
open Classical in
theorem takeW_some {p : Value -> Prop} : ∀ {l : List Value} {i : Nat} {v : Value}, (l.takeWhile fun v => decide (p v))[i]? = some v -> l[i]? = some v /\ p v
 | [], i, v, h => by simp at h
 | x :: l, i, v, h => by
   rw [List.takeWhile_cons] at h
   split at h
   · rename_i hx
     cases i with
     | zero => simp at h ⊢; subst h; exact ⟨rfl, by simpa using hx⟩
     | succ i => simp at h ⊢; exact takeW_some (p := p) (by simpa using h)
   · simp at h
open Classical in
theorem takeW_keep {p : Value -> Prop} : ∀ {l : List Value} {i : Nat} {v : Value}, l[i]? = some v -> (∀ j u, j <= i -> l[j]? = some u -> p u) -> (l.takeWhile fun v => decide (p v))[i]? = some v
 | [], i, v, h, _ => by simp at h
 | x :: l, i, v, h, hk => by
   have hx : p x := hk 0 x (Nat.zero_le _) rfl
   rw [List.takeWhile_cons, if_pos (by simpa using hx)]
   cases i with
   | zero => exact h
   | succ i =>
     have := takeW_keep (p := p) (l := l) (i := i) (v := v) (by simpa using h) (fun j u hj hu => hk (j + 1) u (by omega) (by simpa using hu))
     simpa using this
theorem goodPre_some {F : FuncId -> Prop} {θ ρ : Ren} {c : Array Value} {i : Nat} {v : Value} (h : (goodPre F θ ρ c)[i]? = some v) : c[i]? = some v /\ okCell F θ ρ v := by
 unfold goodPre at h
 rw [List.getElem?_toArray] at h
 obtain ⟨h1, h2⟩ := takeW_some (p := okCell F θ ρ) h
 exact ⟨by simpa using h1, h2⟩
theorem goodPre_keep {F : FuncId -> Prop} {θ ρ : Ren} {c : Array Value} {i : Nat} {v : Value} (h : c[i]? = some v) (hk : ∀ j u, j <= i -> c[j]? = some u -> okCell F θ ρ u) : (goodPre F θ ρ c)[i]? = some v := by
 unfold goodPre
 rw [List.getElem?_toArray]
 exact takeW_keep (p := okCell F θ ρ) (by simpa using h) (fun j u hj hu => hk j u hj (by simpa using hu))
noncomputable def frzObj (F : FuncId -> Prop) (θ ρ : Ren) : Obj -> Obj
 | .cells c _ _ => .cells (goodPre F θ ρ c) noType (0, (goodPre F θ ρ c).size)
 | _ => .cells #[] noType (0, 0)
noncomputable def frz (F : FuncId -> Prop) (θ : Ren) (s : World) : World := { s with heap := s.heap.map (frzObj F θ (shared θ s)) }
theorem frz_size : (frz F θ s).heap.size = s.heap.size := by simp [frz]
theorem frz_keep {b : Nat} {c : Array Value} {t : TypeId} {fr : Nat × Nat} (h : s.heap[b]? = some (.cells c t fr)) {i : Nat} {v : Value} (hi : c[i]? = some v) (hk : ∀ j u, j <= i -> c[j]? = some u -> okCell F θ (shared θ s) u) : (frz F θ s).cell? ⟨b, i, none⟩ = some v := by
 have e : (frz F θ s).heap[b]? = some (.cells (goodPre F θ (shared θ s) c) noType (0, (goodPre F θ (shared θ s) c).size)) := by
   simp only [frz, Array.getElem?_map, h, Option.map_some, frzObj]
 simp [World.cell?, e, goodPre_keep hi hk]
theorem frz_rel (h : WRel F θ s w) : WRel F (shared θ s) (frz F θ s) w := by
 refine ⟨fun b e hb => ?_, fun b1 b2 e1 e2 k1 k2 _ ho => ?_⟩
 · obtain ⟨hc, e0, h0, rfl⟩ := shared_some hb
   rcases h.blk b e0 h0 with ⟨c, t, fr, c', t', fr', m1, m2, m3, m4, m5⟩ | ⟨m1, m2, a, a', lost, m3, m4, m5⟩
   · left
     have e1 : (frz F θ s).heap[b]? = some (frzObj F θ (shared θ s) (.cells c t fr)) := by simp only [frz, Array.getElem?_map, m1, Option.map_some]
     simp only [frzObj] at e1
     refine ⟨_, noType, _, c', t', fr', e1, m2, fun i v hv => ?_, (fun ho => by cases ho), fun _ => ⟨rfl, rfl⟩⟩
     obtain ⟨hv1, hv2⟩ := goodPre_some hv
     obtain ⟨v', z1, z2⟩ := m3 i v hv1
     exact ⟨v', z1, hv2 v' z2⟩
   · unfold isCells at hc
     rw [m3] at hc
     cases hc
 · obtain ⟨_, e0, _, rfl⟩ := shared_some k1
   cases ho
theorem frz_same {ι : Ren} (hι : ∀ b e, ι b = some e -> e = ⟨b, 0, false⟩ /\ isCells s b = true) (hs : ∀ b, isCells s b = true -> s'.heap[b]? = s.heap[b]?) (hv : ∀ b c t fr, (ι b).isSome -> s.heap[b]? = some (.cells c t fr) -> ∀ (i : Nat) v, c[i]? = some v -> okCell F θ (shared θ s) v -> VRel F ι v v) : WRel F ι (frz F θ s) s' := by
 refine ⟨fun b e hb => ?_, fun b1 b2 e1 e2 k1 k2 hblk ho => ?_⟩
 · obtain ⟨rfl, hc⟩ := hι b e hb
   have hc0 := hc
   unfold isCells at hc
   split at hc
   · rename_i c t fr hb0
     left
     have e1 : (frz F θ s).heap[b]? = some (frzObj F θ (shared θ s) (.cells c t fr)) := by simp only [frz, Array.getElem?_map, hb0, Option.map_some]
     simp only [frzObj] at e1
     refine ⟨_, noType, _, c, t, fr, e1, by rw [hs b hc0]; exact hb0, fun i v hi => ?_, (fun ho => by cases ho), fun _ => ⟨rfl, rfl⟩⟩
     obtain ⟨hv1, hv2⟩ := goodPre_some hi
     exact ⟨v, by simpa using hv1, hv b c t fr (by rw [hb]; rfl) hb0 i v hv1 hv2⟩
   · cases hc
 · obtain ⟨rfl, _⟩ := hι _ _ k1
   cases ho
end
end Sim
end Go.Proofs.YthgelfnflafoiabGreat
namespace Go.Proofs.YthgelfnflafoiabGreat
namespace Sim
section
variable {S : Program} {F : FuncId -> Bool} {sp0 : FuncId}
def Rec (S : Program) (fs0 : List Frame) (f0 : World) (fs : List Frame) (s : World) : Prop := ∃ n τ k, giter S n fs0 (tp f0 τ 0) = some (fs, tp s τ k)
theorem Rec.start (S : Program) (fs0 : List Frame) (f0 : World) : Rec S fs0 f0 fs0 f0 := ⟨0, f0.tape, 0, rfl⟩
theorem Rec.tp {fs0 fs : List Frame} {f0 s : World} (h : Rec S fs0 f0 fs s) (τ : Nat -> Question -> Nat) (d : Nat) : Rec S fs0 f0 fs (Sim.tp s τ d) :=
 let ⟨n, τ', k, h⟩ := h; ⟨n, τ', k, h⟩
theorem WF.iter (H : Same S S F) (hF : Fine S S F sp0) (hsp : NoSp S F sp0) : ∀ (n : Nat) {fs fs' : List Frame} {s s' : World}, WF S F sp0 fs s -> giter S n fs s = some (fs', s') -> WF S F sp0 fs' s'
 | 0, fs, fs', s, s', h, hg => by
   simp only [giter, Option.some.injEq, Prod.mk.injEq] at hg
   obtain ⟨rfl, rfl⟩ := hg
   exact h
 | n + 1, fs, fs', s, s', h, hg => by
   simp only [giter] at hg
   cases hr : (gsem S fs).run S s with
   | halt x y => rw [hr] at hg; cases hg
   | ok fs1 s1 =>
     rw [hr] at hg
     exact WF.iter H hF hsp n (h.step H hF hsp hr) hg
theorem Rec.step (H : Same S S F) (hF : Fine S S F sp0) (hsp : NoSp S F sp0) {fs0 fs fs1 : List Frame} {f0 s s1 : World} (hwf : WF S F sp0 fs0 f0) (h : Rec S fs0 f0 fs s) {τ1 : Nat -> Question -> Nat} {d1 : Nat}
   (hr : (gsem S fs).run S (Sim.tp s τ1 d1) = .ok fs1 s1) : Rec S fs0 f0 fs1 s1 := by
 obtain ⟨n, τ, k, hg⟩ := h
 have hwf1 : WF S F sp0 fs (Sim.tp s τ k) := (hwf.tp τ 0).iter H hF hsp n hg
 obtain ⟨a1, a2, a3⟩ := (hwf1.tp τ1 d1).local H hF fs1 s1 hr
 have hd' : (Sim.tp (Sim.tp s τ k) τ1 d1).drawn = d1 := rfl
 rw [hd'] at a1
 let τ' : Nat -> Question -> Nat := fun x q => if x < k then τ x q else τ1 (d1 + (x - k)) q
 obtain ⟨b1, b2, b3⟩ := giter_shift H hF hsp n fs0 fs (Sim.tp f0 τ 0) (Sim.tp s τ k) (hwf.tp τ 0) hg
 have e1 := b3 τ' 0 fun i q hi => by
   have hi' : i < k := by simpa [Sim.tp] using hi
   show (if 0 + i < k then τ (0 + i) q else _) = τ (0 + i) q
   rw [if_pos (by omega)]
 rw [tp_tp, tp_tp] at e1
 have e0 : 0 + ((Sim.tp s τ k).drawn - (Sim.tp f0 τ 0).drawn) = k := by show 0 + (k - 0) = k; omega
 rw [e0] at e1
 have e2 := a3 τ' k fun i q hi => by
   show (if k + i < k then _ else τ1 (d1 + (k + i - k)) q) = τ1 (d1 + i) q
   rw [if_neg (by omega), show k + i - k = i by omega]
 rw [tp_tp, tp_tp] at e2
 refine ⟨n + 1, τ', k + (s1.drawn - d1), ?_⟩
 refine giter_add n 1 e1 ?_
 simp only [giter]
 rw [e2]
 rfl
theorem Rec.again (H : Same S S F) (hF : Fine S S F sp0) (hsp : NoSp S F sp0) {fs0 fs : List Frame} {f0 s : World} (hwf : WF S F sp0 fs0 f0) (h : Rec S fs0 f0 fs s) :
   ∃ (n : Nat) (τ : Nat -> Question -> Nat) (k : Nat), ∀ (τ' : Nat -> Question -> Nat) (d : Nat), (∀ i q, i < k -> τ' (d + i) q = τ i q) -> giter S n fs0 (Sim.tp f0 τ' d) = some (fs, Sim.tp s τ' (d + k)) := by
 obtain ⟨n, τ, k, hg⟩ := h
 refine ⟨n, τ, k, fun τ' d hag => ?_⟩
 obtain ⟨_, _, b3⟩ := giter_shift H hF hsp n fs0 fs (Sim.tp f0 τ 0) (Sim.tp s τ k) (hwf.tp τ 0) hg
 have e := b3 τ' d fun i q hi => by
   have hi' : i < k := by simpa [Sim.tp] using hi
   rw [hag i q hi']
   show τ i q = τ (0 + i) q
   rw [Nat.zero_add]
 rw [tp_tp, tp_tp] at e
 have e0 : (Sim.tp s τ k).drawn - (Sim.tp f0 τ 0).drawn = k := by show k - 0 = k; omega
 rw [e0] at e
 exact e
end
def isSl (v : Value) : Prop := ∃ a l c, v = .slice a l c
theorem VRel.isSl {F : FuncId -> Prop} {ρ : Ren} {v v' : Value} (h : VRel F ρ v v') (hs : isSl v) : isSl v' := by
 obtain ⟨a, l, c, rfl⟩ := hs
 cases h with
 | nilSlice => exact ⟨_, _, _, rfl⟩
 | slice => exact ⟨_, _, _, rfl⟩
 | void => exact ⟨_, _, _, rfl⟩
def RetE (S : Program) (fs : List Frame) (s : World) : Prop :=
 ∃ fr, fs = [fr] /\ fr.mode = .returning /\ ∃ fn v, S.funcs[fr.fn]? = some fn /\ (∀ τ d, (results fn fr.tmps).run S (tp s τ d) = .ok v (tp s τ d)) /\ isSl v
theorem retE_ok (S : Program) : EndsOk S (RetE S) := by
 refine ⟨?_, ?_⟩
 · rintro fs s ⟨fr, rfl, hm, fn, v, hf, _⟩ τ d ⟨fs1, s1, h⟩
   unfold gsem at h
   simp only [hm, hf] at h
   cases h
 · rintro fs s τ d ⟨fr, rfl, hm, fn, v, hf, hr, hv⟩
   exact ⟨fr, rfl, hm, fn, v, hf, fun τ' d' => hr τ' d', hv⟩
theorem VRel.self {F : FuncId -> Prop} {ρ ι : Ren} (hι : ∀ b e, ρ b = some e -> ι b = some ⟨b, 0, false⟩) {v v' : Value} (h : VRel F ρ v v') : VRel F ι v v := by
 have ad : ∀ {a a' : Addr}, ARel ρ a a' -> ARel ι a a := by
   rintro ⟨b, off, spot⟩ a' ⟨e, h1, h2, _⟩
   simp only at h1 h2
   subst h2
   exact ⟨⟨b, 0, false⟩, hι b e h1, rfl, rfl⟩
 induction h with
 | bool b => exact .bool b
 | int k n => exact .int k n
 | string s => exact .string s
 | nilPtr => exact .nilPtr
 | ptr a => exact .ptr (ad a)
 | nilSlice l c => exact .nilSlice l c
 | slice l c a => exact .slice l c (ad a)
 | void a a' => exact .void a a
 | nilFunc => exact .nilFunc
 | nilIface => exact .nilIface
 | @func f x x' y y' hf h1 i1 h2 i2 ih1 ih2 =>
   refine .func hf rfl (fun i v v' hv hv' => ?_) rfl (fun i v v' hv hv' => ?_)
   · rw [hv] at hv'; cases hv'
     have hi : i < x'.size := by rw [<- h1]; exact (Array.getElem?_eq_some_iff.1 hv).1
     exact ih1 i v _ hv (Array.getElem?_eq_getElem hi)
   · rw [hv] at hv'; cases hv'
     have hi : i < y'.size := by rw [<- h2]; exact (Array.getElem?_eq_some_iff.1 hv).1
     exact ih2 i v _ hv (Array.getElem?_eq_getElem hi)
 | iface t _ ih => exact .iface t ih
 | @agg x x' h1 i1 ih1 =>
   refine .agg rfl (fun i v v' hv hv' => ?_)
   rw [hv] at hv'; cases hv'
   have hi : i < x'.size := by rw [<- h1]; exact (Array.getElem?_eq_some_iff.1 hv).1
   exact ih1 i v _ hv (Array.getElem?_eq_getElem hi)
 | @tuple x x' h1 i1 ih1 =>
   refine .tuple rfl (fun i v v' hv hv' => ?_)
   rw [hv] at hv'; cases hv'
   have hi : i < x'.size := by rw [<- h1]; exact (Array.getElem?_eq_some_iff.1 hv).1
   exact ih1 i v _ hv (Array.getElem?_eq_getElem hi)
end Sim
end Go.Proofs.YthgelfnflafoiabGreat
namespace Go.Proofs.YthgelfnflafoiabGreat
namespace Crw
open Go.Conc Go.ConcN Sim
open Go.ConcR (KK wgBlock WgAt stA smA rd wr mk Payload DC0 Bk g_of_ofEvents)
def OwnOk (SB : Nat -> Prop) (Wg C Low : Nat) (ρ : Ren) (O : Nat -> Prop) : Prop := ∀ b e, ρ b = some e -> (e.own = true -> O e.blk) /\ (e.own = false -> e.blk < Low /\ e.blk ≠ Wg /\ e.blk ≠ C /\ ¬ SB e.blk)
def Xw : Type := List Frame × World
def ltw (S : Program) (y x : Xw) : Prop := ∃ τ d, (gsem S x.1).run S (tp x.2 τ d) = .ok y.1 y.2
theorem acc_bar {S : Program} {E : List Frame -> World -> Prop} (hE : EndsOk S E) {fs : List Frame} {s : World} (h : Bar S E fs s) : Acc (ltw S) (fs, s) := by
 induction h with
 | stop h => exact Acc.intro _ fun y ⟨τ, d, hr⟩ => absurd ⟨_, _, hr⟩ (hE.stuck _ _ h τ d)
 | step _ _ ih => exact Acc.intro _ fun y ⟨τ, d, hr⟩ => ih τ d y.1 y.2 hr
theorem brel_blk {F : FuncId -> Prop} {ρ : Ren} {s w : World} {b : Nat} {e : Ent} (h : BRel F ρ s w b e) : e.blk < w.heap.size := by
 rcases h with ⟨_, _, _, _, _, _, _, h2, _⟩ | ⟨_, _, _, _, _, _, h2, _⟩ <;> exact (Array.getElem?_eq_some_iff.1 h2).1
theorem wrel_stay {F : FuncId -> Prop} {SB : Nat -> Prop} {Wg C Low : Nat} {ρ : Ren} {O : Nat -> Prop} {s w w₁ : World} (h : WRel F ρ s w) (ho : OwnOk SB Wg C Low ρ O) (hs : Stay Wg C Low O w w₁) : WRel F ρ s w₁ := by
 refine ⟨fun b e hb => (h.blk b e hb).of_heap rfl ?_, h.inj⟩
 cases hx : e.own with
 | true => exact hs.own _ ((ho b e hb).1 hx)
 | false =>
   obtain ⟨h1, h2, h3, _⟩ := (ho b e hb).2 hx
   exact hs.low _ h1 h2 h3
structure Ext (ρ0 : Ren) (f0 : World) (ρ : Ren) (s : World) : Prop where
 le : ρ0.le ρ
 size : f0.heap.size <= s.heap.size
 new : ∀ b e, ρ b = some e -> ρ0 b = some e \/ (f0.heap.size <= b /\ e.own = true)
theorem Ext.refl (ρ0 : Ren) (f0 : World) : Ext ρ0 f0 ρ0 f0 := ⟨Ren.le_refl _, Nat.le_refl _, fun _ _ h => .inl h⟩
theorem Ext.moved {ρ0 ρ σ : Ren} {f0 s s' w w' : World} (h : Ext ρ0 f0 ρ s) (hm : Moved ρ σ s s' w w') : Ext ρ0 f0 σ s' :=
 ⟨Ren.le_trans h.le hm.le, Nat.le_trans h.size hm.sizeS, fun b e hb => by
   rcases hm.new b e hb with h1 | ⟨h1, _, h2⟩
   · exact h.new b e h1
   · exact .inr ⟨Nat.le_trans h.size h1, h2⟩⟩
theorem Ext.tp {ρ0 ρ : Ren} {f0 s : World} (h : Ext ρ0 f0 ρ s) (τ : Nat -> Question -> Nat) (d : Nat) : Ext ρ0 f0 ρ (Sim.tp s τ d) := ⟨h.le, h.size, h.new⟩
section
variable (S R : Program) (F : FuncId -> Bool) (sp : FuncId) (SB : Nat -> Prop) (Wg C Low : Nat) (ρ0 : Ren) (f0 : World) (fs0 : Nat -> List Frame)
structure SimSt (i : Nat) (x : Xw) (g : Goroutine) (w : World) (cb : List Frame) (O : Nat -> Prop) : Prop where
 bar : Bar S (RetE S) x.1 x.2
 rec_ : Rec S (fs0 i) f0 x.1 x.2
 rel : ∃ ρ f' cs', g = G f' (cs' ++ cb) /\ FsRel S F sp ρ x.1 (f' :: cs') /\ WRel (Fp F) ρ x.2 w /\ OwnOk SB Wg C Low ρ O /\ Ext ρ0 f0 ρ x.2
def SimFin (i : Nat) (v : Value) (w : World) (O : Nat -> Prop) : Prop :=
 ∃ ρ fr s fn vS, Rec S (fs0 i) f0 [fr] s /\ fr.mode = .returning /\ S.funcs[fr.fn]? = some fn /\ (∀ τ d, (results fn fr.tmps).run S (tp s τ d) = .ok vS (tp s τ d)) /\ VRel (Fp F) ρ vS v /\ WRel (Fp F) ρ s w /\ OwnOk SB Wg C Low ρ O /\ Ext ρ0 f0 ρ s /\
   isSl v /\ Bar S (RetE S) [fr] s
end
theorem ev_of_ok {F : FuncId -> Bool} {SB : Nat -> Prop} {Wg C Low i : Nat} {σ : Ren} {s' w' : World} {O' : Nat -> Prop} (ho : OwnOk SB Wg C Low σ O') (hw : WRel (Fp F) σ s' w') {e : Event} (h : EvOk σ e) : EvO SB Wg C Low i w'.heap.size O' e := by
 rcases h with ⟨m, hm, rfl⟩ | ⟨b, y, off, wr, h1, rfl, h3⟩ | ⟨b, y, h1, rfl, h3⟩
 · cases m <;> first | exact hm.elim | exact ⟨(fun x hx => by cases hx), by simp, by simp, by simp, (fun x hx => by cases hx)⟩
 · refine ⟨fun x hx => ?_, by simp, by simp, by simp, fun x hx => ?_⟩
   · simp only [Go.ConcR.ofEvent_cell, MemAct.touch?, Option.some.injEq] at hx
     subst hx
     cases hy : y.own with
     | true => exact .inl ⟨y.blk, rfl, (ho b y h1).1 hy⟩
     | false =>
       obtain ⟨k1, _, k3, k4⟩ := (ho b y h1).2 hy
       refine .inr (.inr ⟨?_, y.blk, rfl, k1, k3, k4⟩)
       cases wr with
       | false => rfl
       | true => rw [h3 rfl] at hy; cases hy
   · simp only [Go.ConcR.ofEvent_cell, MemAct.touch?, Option.some.injEq] at hx
     subst hx
     exact brel_blk (hw.blk b y h1)
 · refine ⟨fun x hx => ?_, by simp, by simp, by simp, fun x hx => ?_⟩
   · have hx' : some (⟨.obj y.blk, false, .plain⟩ : Touch) = some x := hx
     cases hx'
     exact .inl ⟨y.blk, rfl, (ho b y h1).1 h3⟩
   · have hx' : some (⟨.obj y.blk, false, .plain⟩ : Touch) = some x := hx
     cases hx'
     exact brel_blk (hw.blk b y h1)
section
variable {S R : Program} {F : FuncId -> Bool} {sp sp0 : FuncId} {SB : Nat -> Prop} {Wg C Low n : Nat} {ρ0 : Ren} {f0 : World} {fs0 : Nat -> List Frame} {i : Nat} {x : Xw} {g : Goroutine} {w w₁ : World} {cb : List Frame} {O : Nat -> Prop}
theorem SimSt.stay (h : SimSt S F sp SB Wg C Low ρ0 f0 fs0 i x g w cb O) (hs : Stay Wg C Low O w w₁) : SimSt S F sp SB Wg C Low ρ0 f0 fs0 i x g w₁ cb O := by
 obtain ⟨h1, h2, ρ, f', cs', r1, r2, r3, r4, r5⟩ := h
 exact ⟨h1, h2, ρ, f', cs', r1, r2, wrel_stay r3 r4 hs, r4, r5⟩
theorem SimFin.stay {v : Value} (h : SimFin S F SB Wg C Low ρ0 f0 fs0 i v w O) (hs : Stay Wg C Low O w w₁) : SimFin S F SB Wg C Low ρ0 f0 fs0 i v w₁ O := by
 obtain ⟨ρ, fr, s, fn, vS, h1, h2, h3, h4, h5, h6, h7, h8, h9, h10⟩ := h
 exact ⟨ρ, fr, s, fn, vS, h1, h2, h3, h4, h5, wrel_stay h6 h7 hs, h7, h8, h9, h10⟩
theorem OwnOk.oext {ρ : Ren} {O' : Nat -> Prop} (h : OwnOk SB Wg C Low ρ O) (he : ∀ b, O b ↔ O' b) : OwnOk SB Wg C Low ρ O' := fun b e hb => ⟨fun ho => (he _).1 ((h b e hb).1 ho), (h b e hb).2⟩
theorem SimFin.oext {v : Value} {O' : Nat -> Prop} (h : SimFin S F SB Wg C Low ρ0 f0 fs0 i v w O) (he : ∀ b, O b ↔ O' b) : SimFin S F SB Wg C Low ρ0 f0 fs0 i v w O' := by
 obtain ⟨ρ, fr, s, fn, vS, h1, h2, h3, h4, h5, h6, h7, h8, h9, h10⟩ := h
 exact ⟨ρ, fr, s, fn, vS, h1, h2, h3, h4, h5, h6, h7.oext he, h8, h9, h10⟩
variable [Payload]
theorem eff_of_moved {ρ σ : Ren} {s s' w' : World} (ho : OwnOk SB Wg C Low ρ O) (hO : ∀ b, O b -> Low <= b /\ b < w.heap.size) (hC : C < Low) (hL : Low <= w.heap.size) (hm : Moved ρ σ s s' w w') (hw : WRel (Fp F) σ s' w') :
   WEff C n i O w w' /\ OwnOk SB Wg C Low σ (grown O w w') := by
 have hCk : w'.heap[C]? = w.heap[C]? := hm.keepW C (by omega) fun b0 e hb hx hc => by have := (hO _ ((ho b0 e hb).1 hx)).1; omega
 refine ⟨⟨hm.outW, hm.sizeW, fun b hb _ hn => hm.keepW b hb fun b0 e hb0 hx hc => hn (hc ▸ (ho b0 e hb0).1 hx), fun ⟨cs, h1, h2⟩ => ⟨cs, hCk.trans h1, h2⟩, fun i' _ => cell_of_block hCk i'⟩, fun b e hb => ?_⟩
 rcases hm.new b e hb with h1 | ⟨_, h2, h3⟩
 · exact ⟨fun hx => .inl ((ho b e h1).1 hx), (ho b e h1).2⟩
 · exact ⟨fun _ => .inr ⟨h2, brel_blk (hw.blk b e hb)⟩, fun hx => by rw [h3] at hx; cases hx⟩
theorem SimSt.go {F' : FuncId -> Bool} (H : Same S R F) (hF : Fine S R F sp) (H0 : Same S S F') (hF0 : Fine S S F' sp0) (hsp0 : NoSp S F' sp0) (hno : ∀ x cs s, Bar S (RetE S) (Frame.enter S sp x .normal :: cs) s -> False)
   (hwf0 : WF S F' sp0 (fs0 i) f0) {c : Frame} (h : SimSt S F sp SB Wg C Low ρ0 f0 fs0 i x g w (c :: cb) O) (hC : C < Low) (hL : Low <= w.heap.size) (hO : ∀ b, O b -> Low <= b /\ b < w.heap.size) :
   ∃ g' w' es, stepG R false g w = .go g' w' es /\ WEff C n i O w w' /\ (∀ e ∈ es, EvO SB Wg C Low i w'.heap.size (grown O w w') e) /\
     ((∃ x', ltw S x' x /\ SimSt S F sp SB Wg C Low ρ0 f0 fs0 i x' g' w' (c :: cb) (grown O w w')) \/
       ∃ v, g' = G (c.finish v) cb /\ SimFin S F SB Wg C Low ρ0 f0 fs0 i v w' (grown O w w')) := by
 obtain ⟨hbar, hrec, ρ, f', cs', rfl, hfs, hw, ho, hle⟩ := h
 obtain ⟨fs, s⟩ := x
 simp only at hbar hrec hfs hw
 have hA : ∀ K, Agree K (tp s w.tape w.drawn) w := fun K i q _ => rfl
 have hw1 : WRel (Fp F) ρ (tp s w.tape w.drawn) w := hw.of_heap rfl rfl
 have hf'R : ∃ fn, R.funcs[f'.fn]? = some fn := by
   cases hfs with
   | cons a _ =>
     obtain ⟨fn, cc, e1, e2, _⟩ := hF.fn _ a.known a.nsp
     exact ⟨fn, by rw [<- a.fn]; exact e2⟩
 cases hbar with
 | stop hE =>
   obtain ⟨fr, rfl, hm, fn, vS, hfn, hres, hsl⟩ := hE
   cases hfs with
   | cons a b =>
     cases b
     obtain ⟨fnR, cc, e1, e2, _, _⟩ := hF.fn _ a.known a.nsp
     rw [hfn] at e1
     cases e1
     rcases (results_rel H fn a.tmps).runAll (tp s w.tape w.drawn) w #[] hw1 hA with ⟨hx, sx, r1, _⟩ | ⟨v, sx, v', w', σ, u, r1, r2, r3, r4, r5, r6, r7, r8, r9⟩
     · rw [hres] at r1; cases r1
     · rw [hres] at r1
       cases r1
       have hfe : R.funcs[f'.fn]? = some fn := by rw [<- a.fn]; exact e2
       have hg : (gsem R (f' :: [c])).runT R w #[] = (.ok (c.finish v' :: []) w', #[] ++ u) := by
         unfold gsem
         simp only [<- a.mode, hm, hfe]
         show ((results fn f'.tmps).bind fun v => Sem.pure (c.finish v :: [])).runT R w #[] = _
         rw [Sem.runT_bind', r4]
         simp only [Sem.runT]
       obtain ⟨f1, cs1, he, hst⟩ := step_of_gsem a.pR hg false cb hf'R
       cases he
       obtain ⟨hE1, ho1⟩ := eff_of_moved (n := n) (i := i) ho hO hC hL r6 r7
       refine ⟨_, w', _, hst, hE1, fun e he => ?_, .inr ⟨v', rfl, σ, fr, tp s w.tape w.drawn, fn, _, hrec.tp _ _, hm, hfn, fun τ d => hres τ d, r8, r7, ho1, (hle.tp w.tape w.drawn).moved r6, r8.isSl hsl, .stop ⟨fr, rfl, hm, fn, _, hfn, fun τ d => hres τ d, hsl⟩⟩⟩
       have := mem_seen he
       rw [Array.empty_append] at this
       exact ev_of_ok ho1 r7 (r9 e this)
 | step h1 h2 =>
   obtain ⟨fs1, s1, hr⟩ := h1 w.tape w.drawn
   have hB1 := h2 _ _ _ _ hr
   rcases (gsem_rel H hF hfs).runAll (tp s w.tape w.drawn) w #[] hw1 hA with ⟨hx, sx, r1, _⟩ | ⟨y, sx, y', w', σ, u, r1, r2, r3, r4, r5, r6, r7, r8, r9⟩
   · rw [hr] at r1; cases r1
   · rw [hr] at r1
     cases r1
     rcases r8 with r8 | ⟨_, z, z', cs, cs2, _, rfl, _⟩
     · have hpl : Plain f' := by
         cases hfs with
         | cons a _ => exact a.pR
       obtain ⟨f1, cs1, rfl, hst⟩ := step_of_gsem hpl r4 false (c :: cb) hf'R
       obtain ⟨hE1, ho1⟩ := eff_of_moved (n := n) (i := i) ho hO hC hL r6 r7
       refine ⟨_, w', _, hst, hE1, fun e he => ?_, .inl ⟨(fs1, s1), ⟨w.tape, w.drawn, hr⟩, hB1, hrec.step H0 hF0 hsp0 hwf0 hr, σ, f1, cs1, rfl, r8, r7, ho1, (hle.tp w.tape w.drawn).moved r6⟩⟩
       have := mem_seen he
       rw [Array.empty_append] at this
       exact ev_of_ok ho1 r7 (r9 e this)
     · exact (hno _ _ _ hB1).elim
end
end Crw
end Go.Proofs.YthgelfnflafoiabGreat
namespace Go.Proofs.YthgelfnflafoiabGreat
namespace Sim
def LocalR {α : Type} (S R : Program) (x : Sem α) (s : World) : Prop :=
 ∀ a s', x.run S s = .ok a s' -> s.drawn <= s'.drawn /\ s'.tape = s.tape /\
   ∀ τ d, (∀ i q, i < s'.drawn - s.drawn -> OrdOk R q -> τ (d + i) q = s.tape (s.drawn + i) q) -> x.run S (tp s τ d) = .ok a (tp s' τ (d + (s'.drawn - s.drawn)))
theorem LocalR.of_move {α : Type} {S R : Program} {x y : Sem α} {s s1 : World} (hs : x.run S s = y.run S s1) (hd : s1.drawn = s.drawn) (ht : s1.tape = s.tape) (hτ : ∀ τ d, x.run S (tp s τ d) = y.run S (tp s1 τ d)) (h : LocalR S R y s1) : LocalR S R x s := by
 intro a s' hr
 obtain ⟨h1, h2, h3⟩ := h a s' (hs ▸ hr)
 refine ⟨by omega, h2.trans ht, fun τ d hag => ?_⟩
 rw [hτ, <- hd]
 exact h3 τ d fun i q hi ho => by rw [ht, hd]; exact hag i q (by omega) ho
theorem SRel.localR {S R : Program} {F : FuncId -> Prop} {α β : Type} {Q : Ren -> α -> β -> Prop} {ρ : Ren} {x : Sem α} {x' : Sem β} (h : SRel S R F Q ρ x x') : ∀ (s w : World), WRel F ρ s w -> LocalR S R x s := by
 induction h with
 | @pure ρ a b q =>
   intro s w _ a' s' hr
   cases hr
   exact ⟨Nat.le_refl _, rfl, fun τ d _ => by simp [Sem.run]⟩
 | @load ρ a a' k k' ha _ ih =>
   intro s w hw
   rcases hw.load ha with ⟨v, v', h1, h2, h3⟩ | ⟨h1, h2⟩
   · exact LocalR.of_move (y := k v) (by simp only [Sem.run, h1]) rfl rfl (fun τ d => by simp only [Sem.run, cell_tp, h1]) (ih v v' h3 s w hw)
   · intro b s' hr
     simp only [Sem.run, h1] at hr
     rw [noView_of h2] at hr
     cases hr
 | @store ρ a a' v v' k k' ha hv _ ih =>
   intro s w hw
   by_cases hs : Single v
   · rcases hw.load ha with ⟨u0, u0', h1, h2, h3⟩ | ⟨h1, h2⟩
     · cases hf : s.frozen? a with
       | true =>
         intro b s' hr
         rw [run_store_single _ hs, h1] at hr
         simp [hf] at hr
       | false =>
         obtain ⟨_, _, _, hw', _⟩ := hw.store ha hv h1 hf
         exact LocalR.of_move (y := k) (s1 := s.setCell a v) (by rw [run_store_single _ hs, h1]; simp [hf]) rfl rfl (fun τ d => by rw [run_store_single _ hs, cell_tp, h1]; simp [frozen_tp, hf, setCell_tp]) (ih _ _ hw')
     · intro b s' hr
       rw [run_store_single _ hs, h1] at hr
       simp only at hr
       rw [noViewS_of h2] at hr
       cases hr
   · intro b s' hr
     cases v <;> first | exact absurd trivial hs | cases hr
 | @new ρ c c' t k k' hc _ ih =>
   intro s w hw
   obtain ⟨hw', _⟩ := hw.push (hw.pushCells t hc)
   exact LocalR.of_move (y := k s.heap.size) (s1 := { s with heap := s.heap.push (.cells c t) }) rfl rfl rfl (fun τ d => rfl) (ih s.heap.size w.heap.size hw.fresh _ _ hw')
 | @number ρ a a' l k k' ha _ ih =>
   intro s w hw
   obtain ⟨hw', _⟩ := hw.push (o := .number a l) (o' := .number a' l) (.inr ⟨rfl, rfl, a, a', l, by simp, by simp, ha.mono (Ren.le_add hw.fresh w.heap.size)⟩)
   exact LocalR.of_move (y := k s.heap.size) (s1 := { s with heap := s.heap.push (.number a l) }) rfl rfl rfl (fun τ d => rfl) (ih s.heap.size w.heap.size hw.fresh _ _ hw')
 | @shape ρ r e k k' hr _ _ ih ih0 =>
   intro s w hw
   rcases hw.blk _ _ hr with ⟨c, t, fr, c', t', fr', h1, h2, _, h4, h5⟩ | ⟨_, _, _, _, _, h1, h2, _⟩
   · exact LocalR.of_move (y := k (some (t, c.size))) (s1 := s) (by simp only [Sem.run, World.shape?, h1]) rfl rfl (fun τ d => by simp only [Sem.run, World.shape?, tp, h1])
       (ih (t, c.size) (t', c'.size) (fun ho => let ⟨a1, _, _, a2, a3⟩ := h4 ho; ⟨by rw [a2, a3], a1⟩) (fun ho => (h5 ho).2) s w hw)
   · exact LocalR.of_move (y := k none) (s1 := s) (by simp only [Sem.run, World.shape?, h1]) rfl rfl (fun τ d => by simp only [Sem.run, World.shape?, tp, h1]) (ih0 s w hw)
 | @getObj ρ r e k k' hr _ ih =>
   intro s w hw
   rcases hw.blk _ _ hr with ⟨c, t, fr, c', t', fr', h1, _⟩ | ⟨ho, _, a, a', l, h1, h2, h3⟩
   · intro b s' hx
     simp only [Sem.run, h1] at hx
     cases hx
   · exact LocalR.of_move (y := k (.number a l)) (s1 := s) (by simp only [Sem.run, h1]) rfl rfl (fun τ d => by simp only [Sem.run, tp, h1]) (ih a a' l h3 s w hw)
 | @choose ρ q k k' hok _ ih =>
   intro s w hw
   by_cases hq : q.forced = true
   · exact LocalR.of_move (y := k 0) (s1 := s) (by simp only [Sem.run, hq, if_true]) rfl rfl (fun τ d => by simp only [Sem.run, hq, if_true]) (ih 0 s w hw)
   · intro a s' hr
     simp only [Sem.run, hq] at hr
     obtain ⟨h1, h2, h3⟩ := ih _ { s with drawn := s.drawn + 1 } w (hw.of_heap rfl rfl) a s' hr
     simp only at h1 h2 h3
     refine ⟨by omega, h2, fun τ d hag => ?_⟩
     simp only [Sem.run, hq]
     have e : τ d q = s.tape s.drawn q := by have := hag 0 q (by omega) hok; simpa using this
     have := h3 τ (d + 1) fun i q hi ho => by
       have := hag (i + 1) q (by omega) ho
       rw [show d + 1 + i = d + (i + 1) by omega, show s.drawn + 1 + i = s.drawn + (i + 1) by omega]; exact this
     rw [show d + 1 + (s'.drawn - (s.drawn + 1)) = d + (s'.drawn - s.drawn) by omega] at this
     simp only [tp] at this ⊢
     rw [e]
     exact this
 | program _ ih => exact fun s w hw => ih s w hw
 | mark _ _ ih => exact fun s w hw => LocalR.of_move rfl rfl rfl (fun _ _ => rfl) (ih s w hw)
 | halt _ => intro s w _ a s' hr; cases hr
 | doom hd =>
   intro s w _ a s' hr
   obtain ⟨h, s1, h1, _⟩ := hd s
   rw [h1] at hr; cases hr
def Zt (zq : Question -> Bool) (τ : Nat -> Question -> Nat) : Prop := ∀ k q, zq q = true -> τ k q = 0
inductive BarZ (S : Program) (zq : Question -> Bool) (E : List Frame -> World -> Prop) : List Frame -> World -> Prop
 | stop {fs : List Frame} {s : World} : E fs s -> BarZ S zq E fs s
 | step {fs : List Frame} {s : World} : (∀ τ d, Zt zq τ -> ∃ fs1 s1, (gsem S fs).run S (tp s τ d) = .ok fs1 s1) -> (∀ τ d fs1 s1, Zt zq τ -> (gsem S fs).run S (tp s τ d) = .ok fs1 s1 -> BarZ S zq E fs1 s1) -> BarZ S zq E fs s
section
variable {S : Program} {F : FuncId -> Bool} {sp : FuncId} {zq : Question -> Bool} {E : List Frame -> World -> Prop}
def AllEndZ (S : Program) (zq : Question -> Bool) (E : List Frame -> World -> Prop) (fs : List Frame) (s : World) : Prop := ∀ τ d, Zt zq τ -> ∃ fs' s', GRun S fs (tp s τ d) fs' s' /\ E fs' s'
theorem AllEndZ.step (H : Same S S F) (hF : Fine S S F sp) (hsp : NoSp S F sp) (hP : EndsOk S E) {fs fs1 : List Frame} {s s1 : World} (hwf : WF S F sp fs s) (h : AllEndZ S zq E fs s) {τ : Nat -> Question -> Nat} {d : Nat} (hz : Zt zq τ)
   (hr : (gsem S fs).run S (tp s τ d) = .ok fs1 s1) : AllEndZ S zq E fs1 s1 := by
 intro τ' d' hz'
 obtain ⟨a1, a2, a3⟩ := (hwf.tp τ d).local H hF fs1 s1 hr
 obtain ⟨n, hn⟩ : ∃ n, n = s1.drawn - d := ⟨_, rfl⟩
 obtain ⟨fs', s', ⟨m, hm⟩, hfin⟩ := h (fun x q => if x < d + n then τ x q else τ' (d' + (x - (d + n))) q) d (fun x q hq => by dsimp only; split <;> first | exact hz _ _ hq | exact hz' _ _ hq)
 have e1 := a3 (fun x q => if x < d + n then τ x q else τ' (d' + (x - (d + n))) q) d fun i q hi => by
   simp only [Sim.tp] at hi ⊢
   rw [if_pos (by omega)]
 rw [tp_tp] at e1
 have e0 : s1.drawn - (Sim.tp s τ d).drawn = n := by rw [hn]; rfl
 rw [e0] at e1
 cases m with
 | zero =>
   simp only [giter, Option.some.injEq, Prod.mk.injEq] at hm
   obtain ⟨rfl, rfl⟩ := hm
   exact absurd ⟨_, _, e1⟩ (hP.stuck _ _ hfin _ _)
 | succ m =>
   simp only [giter, e1] at hm
   have hwf1 : WF S F sp fs1 (Sim.tp s1 (fun x q => if x < d + n then τ x q else τ' (d' + (x - (d + n))) q) (d + n)) := ((hwf.tp τ d).step H hF hsp hr).tp _ _
   obtain ⟨_, _, b3⟩ := giter_shift H hF hsp m fs1 fs' _ s' hwf1 hm
   have := b3 τ' d' fun i q hi => by
     simp only [Sim.tp]
     rw [if_neg (by omega), show d + n + i - (d + n) = i by omega]
   rw [tp_tp] at this
   exact ⟨fs', _, ⟨m, this⟩, hP.tp _ _ _ _ hfin⟩
theorem next_badZ (H : Same S S F) (hF : Fine S S F sp) (hsp : NoSp S F sp) (hP : EndsOk S E) {fs : List Frame} {s : World} (hwf : WF S F sp fs s) (h : AllEndZ S zq E fs s) (hb : ¬ BarZ S zq E fs s) :
   ∃ τ d fs1 s1, Zt zq τ /\ (gsem S fs).run S (tp s τ d) = .ok fs1 s1 /\ WF S F sp fs1 s1 /\ AllEndZ S zq E fs1 s1 /\ ¬ BarZ S zq E fs1 s1 := by
 apply Classical.byContradiction
 intro hno
 apply hb
 refine .step (fun τ d hz => ?_) (fun τ d fs1 s1 hz hr => ?_)
 · obtain ⟨fs', s', ⟨m, hm⟩, hfin⟩ := h τ d hz
   cases m with
   | zero =>
     simp only [giter, Option.some.injEq, Prod.mk.injEq] at hm
     obtain ⟨rfl, rfl⟩ := hm
     have := hP.tp fs (tp s τ d) s.tape s.drawn hfin
     exact absurd (.stop this) hb
   | succ m =>
     simp only [giter] at hm
     cases hr : (gsem S fs).run S (tp s τ d) with
     | halt x y => rw [hr] at hm; cases hm
     | ok fs1 s1 => exact ⟨fs1, s1, rfl⟩
 · apply Classical.byContradiction
   intro hnb
   exact hno ⟨τ, d, fs1, s1, hz, hr, (hwf.tp τ d).step H hF hsp hr, h.step H hF hsp hP hwf hz hr, hnb⟩
structure WayZ (S : Program) (F : FuncId -> Bool) (sp : FuncId) (zq : Question -> Bool) (E : List Frame -> World -> Prop) where
 fs : List Frame
 s : World
 wf : WF S F sp fs s
 all : AllEndZ S zq E fs s
 bad : ¬ BarZ S zq E fs s
theorem barZ_of (H : Same S S F) (hF : Fine S S F sp) (hsp : NoSp S F sp) (hP : EndsOk S E) {fs : List Frame} {s : World} (hwf : WF S F sp fs s) (h : AllEndZ S zq E fs s) : BarZ S zq E fs s := by
 apply Classical.byContradiction
 intro hb
 have nx : ∀ x : WayZ S F sp zq E, ∃ (y : WayZ S F sp zq E) (τ : Nat -> Question -> Nat) (d : Nat), Zt zq τ /\ (gsem S x.fs).run S (tp x.s τ d) = .ok y.fs y.s := fun x =>
   let ⟨τ, d, fs1, s1, hz, h1, h2, h3, h4⟩ := next_badZ H hF hsp hP x.wf x.all x.bad
   ⟨⟨fs1, s1, h2, h3, h4⟩, τ, d, hz, h1⟩
 let nxt : WayZ S F sp zq E -> WayZ S F sp zq E := fun x => Classical.choose (nx x)
 let nτ : WayZ S F sp zq E -> (Nat -> Question -> Nat) := fun x => Classical.choose (Classical.choose_spec (nx x))
 let nd : WayZ S F sp zq E -> Nat := fun x => Classical.choose (Classical.choose_spec (Classical.choose_spec (nx x)))
 have hnx : ∀ x, (gsem S x.fs).run S (tp x.s (nτ x) (nd x)) = .ok (nxt x).fs (nxt x).s := fun x => (Classical.choose_spec (Classical.choose_spec (Classical.choose_spec (nx x)))).2
 have hnz : ∀ x, Zt zq (nτ x) := fun x => (Classical.choose_spec (Classical.choose_spec (Classical.choose_spec (nx x)))).1
 let X : Nat -> WayZ S F sp zq E := fun k => Nat.rec ⟨fs, s, hwf, h, hb⟩ (fun _ x => nxt x) k
 have hX : ∀ k, X (k + 1) = nxt (X k) := fun k => rfl
 let cn : Nat -> Nat := fun k => (X (k + 1)).s.drawn - nd (X k)
 let D : Nat -> Nat := fun k => Nat.rec 0 (fun k d => d + cn k) k
 have hD : ∀ k, D (k + 1) = D k + cn k := fun k => rfl
 have hDm : ∀ j k, j <= k -> D j <= D k := by
   intro j k hjk
   induction hjk with
   | refl => exact Nat.le_refl _
   | step _ ih => rw [hD]; omega
 have hloc : ∀ k, Local S (gsem S (X k).fs) (tp (X k).s (nτ (X k)) (nd (X k))) := fun k => ((X k).wf.tp _ _).local H hF
 have tape : ∃ τ : Nat -> Question -> Nat, Zt zq τ /\ ∀ k i q, i < cn k -> τ (D k + i) q = nτ (X k) (nd (X k) + i) q := by
   refine ⟨fun x q => open Classical in if hx : ∃ k, D k <= x /\ x < D (k + 1) then nτ (X (Classical.choose hx)) (nd (X (Classical.choose hx)) + (x - D (Classical.choose hx))) q else 0, fun x q hq => ?_, fun k i q hi => ?_⟩
   · dsimp only
     split
     · exact hnz _ _ _ hq
     · rfl
   have hx : ∃ j, D j <= D k + i /\ D k + i < D (j + 1) := ⟨k, by omega, by rw [hD]; omega⟩
   simp only
   rw [dif_pos hx]
   have hc := Classical.choose_spec hx
   have e : Classical.choose hx = k := by
     generalize Classical.choose hx = j at hc
     rcases Nat.lt_trichotomy j k with hlt | rfl | hgt
     · have := hDm (j + 1) k hlt; omega
     · rfl
     · have := hDm (k + 1) j hgt; rw [hD] at this; omega
   rw [e, show D k + i - D k = i by omega]
 obtain ⟨τ, hzτ, hτ⟩ := tape
 have hstep : ∀ k, (gsem S (X k).fs).run S (tp (X k).s τ (D k)) = .ok (X (k + 1)).fs (tp (X (k + 1)).s τ (D (k + 1))) := by
   intro k
   obtain ⟨a1, a2, a3⟩ := hloc k _ _ (hnx (X k))
   have := a3 τ (D k) fun i q hi => hτ k i q hi
   rw [tp_tp] at this
   exact this
 have hiter : ∀ k j, giter S k (X j).fs (tp (X j).s τ (D j)) = some ((X (j + k)).fs, tp (X (j + k)).s τ (D (j + k))) := by
   intro k
   induction k with
   | zero => intro j; rfl
   | succ k ih =>
     intro j
     simp only [giter, hstep j]
     rw [ih (j + 1), show j + 1 + k = j + (k + 1) by omega]
 obtain ⟨fs', s', ⟨m, hm⟩, hfin⟩ := h τ 0 hzτ
 have := hiter m 0
 rw [show tp (X 0).s τ (D 0) = tp s τ 0 from rfl, show (X 0).fs = fs from rfl, hm] at this
 simp only [Option.some.injEq, Prod.mk.injEq] at this
 obtain ⟨e1, e2⟩ := this
 subst e1
 have := hstep (0 + m)
 exact hP.stuck _ _ hfin τ (D (0 + m)) ⟨_, _, by rw [show tp s' τ (D (0 + m)) = tp (X (0 + m)).s τ (D (0 + m)) by rw [e2]; rfl]; exact this⟩
end
end Sim
end Go.Proofs.YthgelfnflafoiabGreat
namespace Go.Proofs.YthgelfnflafoiabGreat
namespace Sim
theorem raise_keeps (fr : Frame) (ch : List PanicEntry) : (fr.raise ch).fn = fr.fn ∧ (fr.raise ch).defers = fr.defers ∧ ∃ c, (fr.raise ch).mode = .panicking c := by
 unfold Frame.raise
 split <;> exact ⟨rfl, rfl, _, rfl⟩
structure Dying (P : Program) (fr : Frame) : Prop where
 defers : fr.defers = []
 fn : ∃ fn, P.funcs[fr.fn]? = some fn
 mode : ∃ ch, fr.mode = .panicking ch
theorem unwinds {P : Program} (s : World) : ∀ (cs : List Frame) (fr : Frame), Dying P fr → (∀ c ∈ cs, c.defers = [] ∧ ∃ fn, P.funcs[c.fn]? = some fn) →
   ∃ fr2, runN P cs.length (lone fr (cs ++ [catcher P]) s) = .next (lone fr2 [catcher P] s) ∧ Dying P fr2
 | [], fr, h, _ => ⟨fr, rfl, h⟩
 | c :: cs, fr, h, hc => by
   obtain ⟨hd, hf, ch, hm⟩ := h
   obtain ⟨r1, r2, r3⟩ := raise_keeps c ch
   have hst : step P (lone fr (c :: (cs ++ [catcher P])) s) = .next (lone (c.raise ch) (cs ++ [catcher P]) s) := step_leave_panicked (chain := ch) ⟨hm, hd, hf⟩
   have hcc := hc c (by simp)
   obtain ⟨fr2, h1, h2⟩ := unwinds s cs (c.raise ch) ⟨r2.trans hcc.1, by rw [r1]; exact hcc.2, r3⟩ fun x hx => hc x (by simp [hx])
   refine ⟨fr2, ?_, h2⟩
   simp only [List.length_cons, List.cons_append, runN, hst]
   exact h1
theorem past_dead {P : Program} {fr fr' : Frame} {w w' : World} (h : Dying P fr) (n : Nat) : runN P (n + 1) (lone fr [catcher P] w) ≠ .next (lone fr' [catcher P] w') := by
 intro hr
 obtain ⟨hd, hf, ch, hm⟩ := h
 have hst : step P (lone fr [catcher P] w) = .next (lone ((catcher P).raise ch) [] w) := step_leave_panicked (chain := ch) ⟨hm, hd, hf⟩
 simp only [runN, hst] at hr
 obtain ⟨r1, r2, r3⟩ := catcher_raise P ch
 cases n with
 | zero =>
   simp only [runN, Stepped.next.injEq] at hr
   have := (lone_ne hr).2.1
   cases this
 | succ n =>
   simp only [runN] at hr
   have : step P (lone ((catcher P).raise ch) [] w) = .ended (.unsupported (.noEntry "a panic or Goexit out of a method that fmt calls behind a cut's door") (((catcher P).raise ch).pos P)) w :=
     step_lone_ended (by simp [stepG, unwind, r1, r2, r3])
   rw [this] at hr
   cases hr
theorem past_ret {P : Program} {fr fr' : Frame} {w w' : World} {v : Value} (hl : fr.leaving P w (.returned v)) (n : Nat) : runN P (n + 1) (lone fr [catcher P] w) ≠ .next (lone fr' [catcher P] w') := by
 intro h
 have hst : step P (lone fr [catcher P] w) = .next (lone ((catcher P).finish v) [] w) := step_leave_returned hl
 simp only [runN, hst] at h
 cases n with
 | zero =>
   simp only [runN, Stepped.next.injEq] at h
   have := (lone_ne h).2.1
   cases this
 | succ n =>
   simp only [runN] at h
   have : ∃ o, step P (lone ((catcher P).finish v) [] w) = .ended o w := ⟨_, step_lone_ended (by simp [stepG, stepG.exec, Frame.finish, catcher, ext_none]; rfl)⟩
   obtain ⟨o, ho⟩ := this
   rw [ho] at h; cases h
theorem runN_from {P : Program} {a b : Nat} {m m' : Machine} (h : runN P a m = .next m') : runN P (a + b) m = runN P b m' := by
 rw [runN_add, h]
theorem dies {P : Program} {f : FuncId} {args : Array Value} {w s : World} {R : Ending → World → Prop} (hC : Calls P f args w R) (ho : ∀ w', ¬ R .outgrown w') {n : Nat} {fr : Frame} {cs : List Frame}
   (hn : runN P n (lone (Frame.enter P f args .normal) [catcher P] w) = .next (lone fr (cs ++ [catcher P]) s)) (hd : Dying P fr) (hcs : ∀ c ∈ cs, c.defers = [] ∧ ∃ fn, P.funcs[c.fn]? = some fn) : ∃ ch, R (.panicked ch) s := by
 obtain ⟨fr2, h1, h2⟩ := unwinds s cs fr hd hcs
 have hN : runN P (n + cs.length) (lone (Frame.enter P f args .normal) [catcher P] w) = .next (lone fr2 [catcher P] s) := by rw [runN_from hn]; exact h1
 generalize n + cs.length = N at hN
 obtain ⟨e, w', fr', hR, hS, _, hl⟩ := hC [catcher P]
 cases e with
 | outgrown => exact absurd hR (ho w')
 | returned v =>
   obtain ⟨k, hk⟩ : Steps P _ _ := hS
   rcases Nat.lt_trichotomy k N with h | h | h
   · obtain ⟨j, rfl⟩ : ∃ j, N = k + (j + 1) := ⟨N - k - 1, by omega⟩
     rw [runN_from hk] at hN
     exact absurd hN (past_ret hl j)
   · subst h
     rw [hk] at hN
     simp only [Stepped.next.injEq] at hN
     obtain ⟨rfl, _⟩ := lone_ne hN
     obtain ⟨ch, hm⟩ := h2.mode
     rw [hl.1] at hm; cases hm
   · obtain ⟨j, rfl⟩ : ∃ j, k = N + (j + 1) := ⟨k - N - 1, by omega⟩
     rw [runN_from hN] at hk
     exact absurd hk (past_dead h2 j)
 | panicked ch =>
   obtain ⟨k, hk⟩ : Steps P _ _ := hS
   rcases Nat.lt_trichotomy k N with h | h | h
   · obtain ⟨j, rfl⟩ : ∃ j, N = k + (j + 1) := ⟨N - k - 1, by omega⟩
     rw [runN_from hk] at hN
     exact absurd hN (past_dead ⟨hl.2.1, hl.2.2, _, hl.1⟩ j)
   · subst h
     rw [hk] at hN
     simp only [Stepped.next.injEq] at hN
     obtain ⟨_, _, rfl⟩ := lone_ne hN
     exact ⟨ch, hR⟩
   · obtain ⟨j, rfl⟩ : ∃ j, k = N + (j + 1) := ⟨k - N - 1, by omega⟩
     rw [runN_from hN] at hk
     exact absurd hk (past_dead h2 j)
theorem giter_runN {S : Program} {F : FuncId → Bool} {sp0 : FuncId} (H : Same S S F) (hF : Fine S S F sp0) (hsp : NoSp S F sp0) : ∀ (n : Nat) {fr : Frame} {cs fs' : List Frame} {s s' : World}, WF S F sp0 (fr :: cs) s → giter S n (fr :: cs) s = some (fs', s') →
   ∃ fr' cs', fs' = fr' :: cs' ∧ runN S n (lone fr (cs ++ [catcher S]) s) = .next (lone fr' (cs' ++ [catcher S]) s') ∧ WF S F sp0 (fr' :: cs') s'
 | 0, fr, cs, fs', s, s', hwf, hg => by
   simp only [giter, Option.some.injEq, Prod.mk.injEq] at hg
   obtain ⟨rfl, rfl⟩ := hg
   exact ⟨fr, cs, rfl, rfl, hwf⟩
 | n + 1, fr, cs, fs', s, s', hwf, hg => by
   simp only [giter] at hg
   cases hr : (gsem S (fr :: cs)).run S s with
   | halt x y => rw [hr] at hg; cases hg
   | ok fs1 s1 =>
     rw [hr] at hg
     have hwf1 := hwf.step H hF hsp hr
     obtain ⟨ρ, l', w, h1, h2⟩ := hwf
     cases h1 with
     | @cons _ f' _ cs' hf hc =>
       obtain ⟨fn, c, e1, _⟩ := hF.fn fr.fn hf.known hf.nsp
       have hT : (gsem S (fr :: cs)).runT S s #[] = (.ok fs1 s1, Sem.events S (gsem S (fr :: cs)) s #[]) := by rw [Sem.runT_eq, hr]
       obtain ⟨fr1, cs1, rfl, hst⟩ := step_of_gsem hf.pS hT true [catcher S] ⟨fn, e1⟩
       have hst' : step S (lone fr (cs ++ [catcher S]) s) = .next (lone fr1 (cs1 ++ [catcher S]) s1) := step_lone_go (by simp only [Conc.G] at hst; rw [hst]; rfl)
       obtain ⟨fr', cs', rfl, g1, g2⟩ := giter_runN H hF hsp n hwf1 hg
       exact ⟨fr', cs', rfl, by simp only [runN, hst']; exact g1, g2⟩
theorem WF.frames {S : Program} {F : FuncId → Bool} {sp0 : FuncId} (hF : Fine S S F sp0) {fs : List Frame} {s : World} (h : WF S F sp0 fs s) : ∀ c ∈ fs, c.defers = [] ∧ ∃ fn, S.funcs[c.fn]? = some fn := by
 obtain ⟨ρ, l', w, h1, h2⟩ := h
 clear h2
 induction h1 with
 | nil => intro c hc; cases hc
 | @cons f f' cs cs' hf _ ih =>
   intro c hc
   rcases List.mem_cons.1 hc with rfl | hc
   · obtain ⟨fn, _, e, _⟩ := hF.fn _ hf.known hf.nsp
     exact ⟨hf.pS.defers, fn, e⟩
   · exact ih c hc
end Sim
end Go.Proofs.YthgelfnflafoiabGreat
