/-
  Several texts in one.
-/
import Derived.Conc.Own3
import Derived.Test.YtfphigmeppdocaaGreatRows
import Derived.Laws.MakeOwn
import Derived.Conc.Own4
import Derived.Conc.CrowdStepW
import Derived.Conc.Beside
import Derived.Conc.CrowdStepC2
import Derived.Test.YtfphigmeppdocaaGreatPk1
namespace Go.Proofs.YtfphigmeppdocaaGreat
namespace Lo
def catcher (P : Program) : Frame := { fn := P.funcs.size, tmps := #[], todo := [.call { target := .nil, args := #[] } false "fmt's door" #[]], defers := [], mode := .run, kind := .normal, roundOf := none }
theorem catcher_raise (P:Program) (ch:List PanicEntry):((catcher P).raise ch).mode= .panicking ch∧((catcher P).raise ch).catches P=true∧((catcher P).raise ch).defers=[]:=by
 refine ⟨rfl,?_,rfl⟩
 have:P.funcs[P.funcs.size]? =none:=by simp
 simp only [Frame.catches,Frame.raise,catcher,this]
 decide+kernel
theorem ext_none : Extern.next "fmt's door" = none := by decide
theorem lone_ne {fr fr' :Frame} {cs cs' :List Frame} {w w' :World} (h:lone fr cs w=lone fr' cs' w'):fr=fr' ∧cs=cs' ∧w=w':=by
 have h1:=congrArg Machine.world h
 have h2:=congrArg (fun m=>(m.gs[0]?).map (fun g=>(g.frame,g.callers))) h
 simp [lone] at h1 h2
 exact ⟨h2.1,h2.2,h1⟩
theorem dead_run {P:Program} {fr' :Frame} {w' :World} (hm' :fr'.mode= .returning):∀(n:Nat) (cs:List Frame) (fr:Frame) (w:World),fr.defers=[]→(∀f∈cs,f.defers=[])→(∃ch,fr.mode= .panicking ch)→
   runN P n (lone fr (cs++[catcher P]) w)≠ .next (lone fr' [catcher P] w')
 | 0,cs,fr,w,_,_,⟨ch,hch⟩=>by
   intro h
   simp only [runN,Stepped.next.injEq] at h
   obtain ⟨rfl,_⟩:=lone_ne h
   rw [hm'] at hch;cases hch
 | n+1,cs,fr,w,hd,hds,⟨ch,hch⟩=>by
   intro h
   simp only [runN] at h
   by_cases hc:fr.catches P=true
   · have : step P (lone fr (cs ++ [catcher P]) w) = .ended (.unsupported (.noEntry "a panic or Goexit out of a method that fmt calls behind a cut's door") (fr.pos P)) w :=
       step_lone_ended (by simp [stepG,unwind,hd,hch,hc])
     rw [this] at h
     cases h
   · have hc' :fr.catches P=false:=by simpa using hc
     cases cs with
     | nil=>
       have:step P (lone fr ([]++[catcher P]) w)= .next (lone ((catcher P).raise ch) [] w):=step_lone_go (by simp [stepG,unwind,hd,hch,hc'])
       rw [this] at h
       obtain ⟨r1,r2,r3⟩:=catcher_raise P ch
       cases n with
       | zero=>
         simp only [runN,Stepped.next.injEq] at h
         have:=(lone_ne h).2.1
         cases this
       | succ n=>
         simp only [runN] at h
         have : step P (lone ((catcher P).raise ch) [] w) = .ended (.unsupported (.noEntry "a panic or Goexit out of a method that fmt calls behind a cut's door") (((catcher P).raise ch).pos P)) w :=
           step_lone_ended (by simp [stepG,unwind,r1,r2,r3])
         rw [this] at h
         cases h
     | cons c cs=>
       have:step P (lone fr ((c::cs)++[catcher P]) w)= .next (lone (c.raise ch) (cs++[catcher P]) w):=step_lone_go (by simp [stepG,unwind,hd,hch,hc'])
       rw [this] at h
       have hcd:c.defers=[]:=hds c (by simp)
       refine dead_run hm' n cs (c.raise ch) w ?_ (fun f hf=>hds f (by simp [hf])) ?_ h
       · unfold Frame.raise;split<;>exact hcd
       · unfold Frame.raise;split<;>exact ⟨_,rfl⟩
theorem past_end {P:Program} {fr fr' :Frame} {w w' :World} {fn:Func} (hp:Plain fr) (hm:fr.mode= .returning) (hf:P.funcs[fr.fn]? =some fn) (n:Nat):
   runN P (n+1) (lone fr [catcher P] w)≠ .next (lone fr' [catcher P] w'):=by
 intro h
 simp only [runN] at h
 cases hr:(results fn fr.tmps).run P w with
 | halt x w1=>
   have:∃o,step P (lone fr [catcher P] w)= .ended o w1:=by
     cases x<;>exact ⟨_,step_lone_ended (by simp [stepG,unwind,hp.defers,hm,hf,hr];rfl)⟩
   obtain ⟨o,ho⟩:=this
   rw [ho] at h;cases h
 | ok v w1=>
   have:step P (lone fr [catcher P] w)= .next (lone ((catcher P).finish v) [] w1):=step_lone_go (by simp [stepG,unwind,hp.defers,hm,hf,hr,doReturn,hp.kind])
   rw [this] at h
   cases n with
   | zero=>
     simp only [runN,Stepped.next.injEq] at h
     have:=(lone_ne h).2.1
     cases this
   | succ n=>
     simp only [runN] at h
     have:∃o,step P (lone ((catcher P).finish v) [] w1)= .ended o w1:=⟨_,step_lone_ended (by simp [stepG,stepG.exec,Frame.finish,catcher,ext_none];rfl)⟩
     obtain ⟨o,ho⟩:=this
     rw [ho] at h;cases h
def no:SBs:=⟨fun _=>False,fun _=>none⟩
def tp (s:World) (τ:Nat→Question→Nat) (d:Nat):World:={s with tape:=τ,drawn:=d }
theorem tp_tp (s:World) (τ τ' :Nat→Question→Nat) (d d' :Nat):tp (tp s τ d) τ' d' =tp s τ' d':=rfl
def known (S:Program):FuncId→Bool:=fun f=>decide (f<S.funcs.size)
def Own (S:Program):Prop:=Fine S S (known S) S.funcs.size
section
variable {S:Program}
theorem Sh.tp {SB:SBs} {s:World} (h:Sh SB s) (τ:Nat→Question→Nat) (d:Nat):Sh SB (tp s τ d):=⟨h.dv,h.nl,h.bad⟩
theorem Sh.no {SB:SBs} {s:World} (h:Sh SB s):Sh no s:=⟨h.dv,h.nl,fun _ hb=>False.elim hb⟩
theorem FOk.size {f:Frame} (h:FOk S f):f.fn<S.funcs.size:=by
 obtain ⟨fn,hf⟩:=h.known
 exact (Array.getElem?_eq_some_iff.1 hf).1
theorem gsem_own (F:Own S) {f:Frame} {cs:List Frame} (h:All S (f::cs)):Okk S.funcs.size S S no Eq (gsem S (f::cs)) (gsem S (f::cs))∧∀s,Sh no s→∀fs s',(gsem S (f::cs)).run S s= .ok fs s' →All S fs:=by
 have hf:=(all_cons.1 h).1
 have hz:=hf.size
 have G:=gsem_ok (SB:=no) F h (by simp [known,hz]) (Nat.ne_of_lt hz)
 have bad:∀g x,known S g=false→All S (Frame.enter S g x .normal::f::cs)→False:=fun g x hg hA=>by
   have hl:g<S.funcs.size:=(all_cons.1 hA).1.size
   exact absurd hl (of_decide_eq_false hg)
 refine ⟨fun s hs=>⟨(G s hs).1,fun fs s' hr=> ?_⟩,fun s hs fs s' hr=> ?_⟩<;>obtain ⟨k,v,hd⟩:=(G s hs).2 fs s' hr
 · rcases hd with ⟨hA,g,x,hg,rfl⟩ | ⟨_,hw⟩
   · exact (bad g x hg hA).elim
   · refine ⟨k,v,⟨_,rfl⟩,fun w es hwr hag=> ?_⟩
     obtain ⟨b,w',u,r,⟨_,q⟩,g⟩:=hw w es hwr hag
     rcases q with ⟨rfl,_⟩ | ⟨x,rfl,rfl⟩
     · exact ⟨_,w',u,r,rfl,g⟩
     · exact ⟨_,w',u,r,rfl,g⟩
 · rcases hd with ⟨hA,_⟩ | ⟨⟨_,hA,_⟩,_⟩<;>exact hA
theorem wr_self {s:World} (h:Sh no s) (τ:Nat→Question→Nat) (d:Nat):WR no s (tp s τ d):=by
 refine ⟨rfl,fun b _=> ?_,fun b hb=>False.elim hb,fun b o v _ _ _ hv=>by cases hv⟩
 show BR s.heap[b]? s.heap[b]?
 cases hb:s.heap[b]? with
 | none=>exact .inl ⟨rfl,by simp⟩
 | some o=>
   by_cases hv:∃a t,o= .view a t
   · obtain ⟨a,t,rfl⟩:=hv
     have:=h.dv _ _ _ hb
     subst this
     exact .inr (.inl ⟨_,_,rfl,rfl⟩)
   · exact .inl ⟨rfl,fun p hp=>by
       cases hp
       exact ⟨fun a t e=>hv ⟨a,t,e⟩,fun l e=>h.nl.1 b l (by rw [hb,e]),fun c t e=>h.nl.2 b c t (by rw [hb,e])⟩⟩
theorem Okk.local {zo:FuncId} {α:Type} {x:Sem α} (h:Okk zo S S no Eq x x) {s:World} (hs:Sh no s) {a:α} {s' :World} (hr:x.run S s= .ok a s'):
   s.drawn≤s'.drawn∧s'.tape=s.tape∧∀τ d,(∀i q,i<s'.drawn-s.drawn→τ (d+i) q=s.tape (s.drawn+i) q)→x.run S (tp s τ d)= .ok a (tp s' τ (d+(s'.drawn-s.drawn))):=by
 obtain ⟨k,v,_,hw⟩:=(h s hs).2 a s' hr
 refine ⟨k.dr,k.tape,fun τ d hag=> ?_⟩
 obtain ⟨b,w',u,r,e,g⟩:=hw (tp s τ d) #[] (wr_self hs τ d) fun i q _ hi=>hag i q hi
 subst e
 rw [Sem.runT_eq] at r
 have r1:=congrArg Prod.fst r
 simp only at r1
 rw [r1]
 congr 1
 obtain ⟨_,v',_⟩:=(h (tp s τ d) (hs.tp τ d)).2 a w' r1
 have hh:w'.heap=s'.heap:=by
   apply Array.ext_getElem?
   intro b
   rcases g.wr.same b (fun h=>h) with ⟨e,_⟩ | ⟨t,a,e1,e2⟩ | ⟨o,e1,e2,e3⟩
   · exact e.symm
   · have:=v'.dv _ _ _ e2
     subst this
     rw [e1,e2]
   · rcases e3 with ⟨l,rfl⟩ | ⟨c,t,rfl⟩
     · exact absurd e2 (v'.nl.1 _ _)
     · exact absurd e2 (v'.nl.2 _ _ _)
 have h1:=g.dr
 have h2:=g.kept.tape
 have h3:=g.kept.os
 have h4:=g.kept.out
 have k3:=k.os
 have k4:=k.out
 obtain ⟨a1,a2,a3,a4,a5⟩:=w'
 obtain ⟨b1,b2,b3,b4,b5⟩:=s'
 simp only [tp] at*
 simp only [World.mk.injEq]
 exact ⟨hh,h2,h1,h3.trans k3.symm,h4.trans k4.symm⟩
theorem lone_step (F:Own S) {fr:Frame} {cs:List Frame} (h:All S (fr::cs)) {s:World} (hs:Sh no s):
   (∃fr' cs' s',(gsem S (fr::cs)).run S s= .ok (fr' ::cs') s' ∧step S (lone fr (cs++[catcher S]) s)= .next (lone fr' (cs' ++[catcher S]) s'))∨
   (cs=[]∧fr.mode= .returning)∨(∃o w',step S (lone fr (cs++[catcher S]) s)= .ended o w')∨
   (∃fr' s',step S (lone fr (cs++[catcher S]) s)= .next (lone fr' (cs++[catcher S]) s')∧(∃ch,fr'.mode= .panicking ch)∧fr'.defers=[]∧∃v,(gsem S (fr::cs)).run S s= .halt (.panic v) s'):=by
 obtain ⟨hf,hc⟩:=all_cons.1 h
 obtain ⟨fn,e1⟩:=hf.known
 cases hg:(gsem S (fr::cs)).run S s with
 | ok fs s' =>
   have hT:(gsem S (fr::cs)).runT S s #[]=(.ok fs s',Sem.events S (gsem S (fr::cs)) s #[]):=by rw [Sem.runT_eq,hg]
   obtain ⟨fr',cs',rfl,hst⟩:=step_of_gsem hf.plain hT true [catcher S] ⟨fn,e1⟩
   exact .inl ⟨fr',cs',s',rfl,step_lone_go (by simp only [Conc.G] at hst;rw [hst];rfl)⟩
 | halt hl s' =>
   refine .inr ?_
   obtain ⟨fnid,tmps,todo,defers,mode,kind,roundOf⟩:=fr
   obtain ⟨_,h7,⟨p1,p2,p3⟩,h10⟩:=hf
   simp only at p1 p2 p3 h7 h10 e1
   subst p1 p2 p3
   rcases h7 with rfl | rfl
   · refine .inr ?_
     cases todo with
     | nil=>cases hg
     | cons it k=>
       simp only [List.all_cons,Bool.and_eq_true] at h10
       obtain ⟨hi,hk⟩:=h10
       cases it with
       | inBlock id=>cases hg
       | inScope b=>cases hg
       | inLoop b=>cases hg
       | inRegion ops l=>
         cases l with
         | nil=>cases hg
         | cons i l=>
           cases ho:ops[i]? with
           | none=>
             unfold gsem at hg
             simp only [ho] at hg
             cases hg
           | some o=>
             unfold gsem at hg
             simp only [ho] at hg
             split at hg
             · rename_i hwn
               have hoo:opOk S o.op=true:=Array.all_eq_true_iff_forall_mem.1 hi o (Array.mem_of_getElem? ho)
               generalize hfr:({fn:=fnid,tmps:=tmps,todo:= .inRegion ops (i::l)::k,defers:=[],mode:= .run,kind:= .normal,roundOf:=none }:Frame)=fr at hg ⊢
               have hst:stepG S true {frame:=fr,callers:=cs++[catcher S],status:= .running,dying:=none } s=stepG.apply S true fr (cs++[catcher S]) none (execOp fr.eval o) s:=by
                 subst hfr
                 simp [stepG,stepG.exec,stepG.oper,Frame.oper?,ho,hwn]
               have hfd:fr.defers=[]∧fr.mode= .run:=by subst hfr;exact ⟨rfl,rfl⟩
               have X:=execOp_ok (zo:=0) (SB:=no) F hoo fr.eval s hs
               have hg' :((execOp fr.eval o).bind fun x=>afterOp S fr cs x).run S s= .halt hl s':=hg
               rw [Sem.run_bind'] at hg'
               cases r1:(execOp fr.eval o).run S s with
               | halt hx sx=>
                 have r2:=X.1 _ _ r1
                 cases hx with
                 | panic v=>
                   rw [r1] at hg'
                   cases hg'
                   refine .inr ⟨fr.raise [{v,recovered:=false }],_,step_lone_go (by rw [hst];simp [stepG.apply,r1]),?_,?_,v,rfl⟩
                   · unfold Frame.raise;rw [hfd.2];exact ⟨_,rfl⟩
                   · unfold Frame.raise;rw [hfd.2];exact hfd.1
                 | stuck y=>exact .inl ⟨_,sx,step_lone_ended (by rw [hst];simp [stepG.apply,r1];rfl)⟩
                 | unsupported y=>
                   cases y with
                   | initOrder g=>exact r2.elim
                   | _=>exact .inl ⟨_,sx,step_lone_ended (by rw [hst];simp [stepG.apply,r1];rfl)⟩
                 | _=>exact r2.elim
               | ok x sx=>
                 rw [r1] at hg'
                 obtain ⟨_,_,hd⟩:=X.2 _ _ r1
                 have good:Good S x:=by
                   rcases hd with ⟨g,y,rfl,_,fn,hfn⟩ | ⟨⟨_,_,hg⟩,_⟩
                   · exact ⟨fn,hfn⟩
                   · exact hg
                 cases x<;>first | exact good.elim | cases hg'
             · cases hg
       | code c=>
         cases c with
         | cond c a b=>
           unfold gsem at hg
           simp only at hg
           split at hg
           · cases hg
           · rename_i hnb
             have key:∃o,(stepG S true {frame:={fn:=fnid,tmps:=tmps,todo:= .code (.cond c a b)::k,defers:=[],mode:= .run,kind:= .normal,roundOf:=none },callers:=cs++[catcher S],status:= .running,dying:=none } s).bare= .ended o s:=by
               simp only [stepG,stepG.exec]
               exact ⟨_,rfl⟩
             obtain ⟨o,hob⟩:=key
             exact .inl ⟨o,s,step_lone_ended hob⟩
         | exit id=>
           unfold gsem at hg
           simp only at hg
           split at hg
           · cases hg
           · rename_i hnb
             exact .inl ⟨_,s,step_lone_ended (by simp [stepG,stepG.exec,hnb];rfl)⟩
         | region id ops draw=>
           cases draw with
           | false=>cases hg
           | true=>
             have hg' :(Sem.choose (.order fnid id) fun t=>Sem.pure (({fn:=fnid,tmps:=tmps,todo:= .inRegion ops (Region.schedule (S.follows .mixedOrders) ops t)::k,defers:=[],mode:= .run,kind:= .normal,roundOf:=none }:Frame)::cs)).run S s= .halt hl s':=hg
             simp [Sem.run,Question.forced] at hg'
         | rangeFunc=>simp [itemOk,codeOk] at hi
         | goto=>simp [itemOk,codeOk] at hi
         | refuse why=>exact .inl ⟨_,s,step_lone_ended (by simp [stepG,stepG.exec];rfl)⟩
         | _=>cases hg
       | inRangeFunc=>simp [itemOk] at hi
       | endRangeFunc=>simp [itemOk] at hi
       | beginRound=>simp [itemOk] at hi
       | call=>simp [itemOk] at hi
       | extern=>simp [itemOk] at hi
   · cases cs with
     | nil=>exact .inl ⟨rfl,rfl⟩
     | cons c cs=>
       refine .inr (.inl ?_)
       unfold gsem at hg
       simp only [e1] at hg
       have hg' :((results fn tmps).bind fun v=>Sem.pure (c.finish v::cs)).run S s= .halt hl s':=hg
       rw [Sem.run_bind'] at hg'
       cases hr:(results fn tmps).run S s with
       | ok v s1=>rw [hr] at hg';cases hg'
       | halt x s1=>cases x<;>exact ⟨_,s1,step_lone_ended (by simp [stepG,unwind,e1,hr];rfl)⟩
theorem All.defers {l:List Frame} (h:All S l):∀f∈l,f.defers=[]:=fun f hf=>(h f hf).plain.defers
def giter (S:Program):Nat→List Frame→World→Option (List Frame×World)
 | 0,fs,s=>some (fs,s)
 | n+1,fs,s=>match (gsem S fs).run S s with
   | .ok fs1 s1=>giter S n fs1 s1
   | .halt _ _=>none
def GRun (S:Program) (fs:List Frame) (s:World) (fs' :List Frame) (s' :World):Prop:=∃n,giter S n fs s=some (fs',s')
theorem GRun.refl (S:Program) (fs:List Frame) (s:World):GRun S fs s fs s:=⟨0,rfl⟩
theorem GRun.head {S:Program} {fs fs1 fs2:List Frame} {s s1 s2:World} (h:(gsem S fs).run S s= .ok fs1 s1) (h' :GRun S fs1 s1 fs2 s2):GRun S fs s fs2 s2:=by
 obtain ⟨n,hn⟩:=h'
 exact ⟨n+1,by simp only [giter,h];exact hn⟩
theorem grun_of (F:Own S) {fr' :Frame} {s' :World} (hm' :fr'.mode= .returning):∀(n:Nat) (fr:Frame) (cs:List Frame) (s:World),
   All S (fr::cs)→Sh no s→runN S n (lone fr (cs++[catcher S]) s)= .next (lone fr' [catcher S] s')→GRun S (fr::cs) s [fr'] s'
 | 0,fr,cs,s,h,hs,hr=>by
   simp only [runN,Stepped.next.injEq] at hr
   obtain ⟨rfl,h2,rfl⟩:=lone_ne hr
   have:cs=[]:=by
     cases cs with
     | nil=>rfl
     | cons c cs=>have:=congrArg List.length h2;simp at this
   subst this
   exact .refl _ _ _
 | n+1,fr,cs,s,h,hs,hr=>by
   have hr0:=hr
   simp only [runN] at hr
   rcases lone_step F h hs with ⟨fr1,cs1,s1,g1,g2⟩ | ⟨rfl,hm⟩ | ⟨o,w1,g⟩ | ⟨fr1,s1,g1,g2,g3,_⟩
   · rw [g2] at hr
     obtain ⟨h1,h2⟩:=gsem_own F h
     exact .head g1 (grun_of F hm' n fr1 cs1 s1 (h2 s hs _ _ g1) ((h1 s hs).2 _ _ g1).2.1 hr)
   · have hf:=(all_cons.1 h).1
     obtain ⟨fn,e1⟩:=hf.known
     exact absurd hr0 (past_end hf.plain hm e1 n)
   · rw [g] at hr;cases hr
   · rw [g1] at hr
     exact absurd hr (dead_run hm' n cs fr1 s1 g3 (all_cons.1 h).2.defers g2)
end
end Lo
end Go.Proofs.YtfphigmeppdocaaGreat
namespace Go.Proofs.YtfphigmeppdocaaGreat
namespace Lo
structure EndsOk (S:Program) (E:List Frame -> World -> Prop):Prop where
 stuck:∀fs s,E fs s -> ∀τ d,¬∃fs1 s1,(gsem S fs).run S (tp s τ d)= .ok fs1 s1
 tp:∀fs s τ d,E fs s -> E fs (tp s τ d)
inductive Bar (S:Program) (E:List Frame -> World -> Prop):List Frame -> World -> Prop
 | stop {fs:List Frame} {s:World}:E fs s -> Bar S E fs s
 | step {fs:List Frame} {s:World}:(∀τ d,∃fs1 s1,(gsem S fs).run S (tp s τ d)= .ok fs1 s1) -> (∀τ d fs1 s1,(gsem S fs).run S (tp s τ d)= .ok fs1 s1 -> Bar S E fs1 s1) -> Bar S E fs s
structure WF (S:Program) (fs:List Frame) (s:World):Prop where
 all:All S fs
 sh:Sh no s
section
variable {S:Program} {E:List Frame -> World -> Prop}
theorem WF.tp {fs:List Frame} {s:World} (h:WF S fs s) (τ:Nat -> Question -> Nat) (d:Nat):WF S fs (tp s τ d):=⟨h.all,h.sh.tp τ d⟩
theorem gsem_nil (s:World):∀fs s',(gsem S []).run S s≠ .ok fs s':=by intro fs s' h;cases h
theorem WF.local (F:Own S) {fs fs1:List Frame} {s s1:World} (h:WF S fs s) (hr:(gsem S fs).run S s= .ok fs1 s1):
   WF S fs1 s1 /\ s.drawn <= s1.drawn /\ s1.tape=s.tape /\ ∀τ d,(∀i q,i<s1.drawn-s.drawn -> τ (d+i) q=s.tape (s.drawn+i) q) -> (gsem S fs).run S (Lo.tp s τ d)= .ok fs1 (Lo.tp s1 τ (d+(s1.drawn-s.drawn))):=by
 cases fs with
 | nil=>exact absurd hr (gsem_nil _ _ _)
 | cons f cs=>
   obtain ⟨h1,h2⟩:=gsem_own F h.all
   exact ⟨⟨h2 s h.sh _ _ hr,((h1 s h.sh).2 _ _ hr).2.1⟩,h1.local h.sh hr⟩
theorem giter_shift (F:Own S):∀(n:Nat) (fs fs' :List Frame) (s s' :World),WF S fs s -> giter S n fs s=some (fs',s') ->
   WF S fs' s' /\ s.drawn <= s'.drawn /\ s'.tape=s.tape /\ ∀τ d,(∀i q,i<s'.drawn-s.drawn -> τ (d+i) q=s.tape (s.drawn+i) q) -> giter S n fs (tp s τ d)=some (fs',tp s' τ (d+(s'.drawn-s.drawn)))
 | 0,fs,fs',s,s',hw,h=>by
   simp only [giter,Option.some.injEq,Prod.mk.injEq] at h
   obtain ⟨rfl,rfl⟩:=h
   exact ⟨hw,Nat.le_refl _,rfl,fun τ d _=>by simp [giter]⟩
 | n+1,fs,fs',s,s',hwf,h=>by
   simp only [giter] at h
   cases hr:(gsem S fs).run S s with
   | halt x y=>rw [hr] at h;cases h
   | ok fs1 s1=>
     rw [hr] at h
     simp only at h
     obtain ⟨w1,a1,a2,a3⟩:=hwf.local F hr
     obtain ⟨w2,b1,b2,b3⟩:=giter_shift F n fs1 fs' s1 s' w1 h
     refine ⟨w2,by omega,b2.trans a2,fun τ d hag=> ?_⟩
     have e1:=a3 τ d fun i q hi=>hag i q (by omega)
     simp only [giter,e1]
     have e2:=b3 τ (d+(s1.drawn-s.drawn)) fun i q hi=>by
       have:=hag (s1.drawn-s.drawn+i) q (by omega)
       rw [<- Nat.add_assoc] at this
       rw [this,a2,show s.drawn+(s1.drawn-s.drawn+i)=s1.drawn+i by omega]
     rw [e2,show d+(s1.drawn-s.drawn)+(s'.drawn-s1.drawn)=d+(s'.drawn-s.drawn) by omega]
def AllEnd (S:Program) (E:List Frame -> World -> Prop) (fs:List Frame) (s:World):Prop:=∀τ d,∃fs' s',GRun S fs (tp s τ d) fs' s' /\ E fs' s'
theorem AllEnd.step (F:Own S) (hP:EndsOk S E) {fs fs1:List Frame} {s s1:World} (hwf:WF S fs s) (h:AllEnd S E fs s) {τ:Nat -> Question -> Nat} {d:Nat}
   (hr:(gsem S fs).run S (tp s τ d)= .ok fs1 s1):AllEnd S E fs1 s1:=by
 intro τ' d'
 obtain ⟨w1,a1,a2,a3⟩:=(hwf.tp τ d).local F hr
 obtain ⟨n,hn⟩:∃n,n=s1.drawn-d:=⟨_,rfl⟩
 obtain ⟨fs',s',⟨m,hm⟩,hfin⟩:=h (fun x q=>if x<d+n then τ x q else τ' (d' +(x-(d+n))) q) d
 have e1:=a3 (fun x q=>if x<d+n then τ x q else τ' (d' +(x-(d+n))) q) d fun i q hi=>by
   simp only [Lo.tp] at hi ⊢
   rw [if_pos (by omega)]
 rw [tp_tp] at e1
 have e0:s1.drawn-(Lo.tp s τ d).drawn=n:=by rw [hn];rfl
 rw [e0] at e1
 cases m with
 | zero=>
   simp only [giter,Option.some.injEq,Prod.mk.injEq] at hm
   obtain ⟨rfl,rfl⟩:=hm
   exact absurd ⟨_,_,e1⟩ (hP.stuck _ _ hfin _ _)
 | succ m=>
   simp only [giter,e1] at hm
   obtain ⟨_,_,_,b3⟩:=giter_shift F m fs1 fs' _ s' (w1.tp _ _) hm
   have:=b3 τ' d' fun i q hi=>by
     simp only [Lo.tp]
     rw [if_neg (by omega),show d+n+i-(d+n)=i by omega]
   rw [tp_tp] at this
   exact ⟨fs',_,⟨m,this⟩,hP.tp _ _ _ _ hfin⟩
theorem next_bad (F:Own S) (hP:EndsOk S E) {fs:List Frame} {s:World} (hwf:WF S fs s) (h:AllEnd S E fs s) (hb:¬Bar S E fs s):
   ∃τ d fs1 s1,(gsem S fs).run S (tp s τ d)= .ok fs1 s1 /\ WF S fs1 s1 /\ AllEnd S E fs1 s1 /\ ¬Bar S E fs1 s1:=by
 apply Classical.byContradiction
 intro hno
 apply hb
 refine .step (fun τ d=> ?_) (fun τ d fs1 s1 hr=> ?_)
 · obtain ⟨fs',s',⟨m,hm⟩,hfin⟩:=h τ d
   cases m with
   | zero=>
     simp only [giter,Option.some.injEq,Prod.mk.injEq] at hm
     obtain ⟨rfl,rfl⟩:=hm
     have:=hP.tp fs (tp s τ d) s.tape s.drawn hfin
     exact absurd (.stop this) hb
   | succ m=>
     simp only [giter] at hm
     cases hr:(gsem S fs).run S (tp s τ d) with
     | halt x y=>rw [hr] at hm;cases hm
     | ok fs1 s1=>exact ⟨fs1,s1,rfl⟩
 · apply Classical.byContradiction
   intro hnb
   exact hno ⟨τ,d,fs1,s1,hr,((hwf.tp τ d).local F hr).1,h.step F hP hwf hr,hnb⟩
structure Way (S:Program) (E:List Frame -> World -> Prop) where
 fs:List Frame
 s:World
 wf:WF S fs s
 all:AllEnd S E fs s
 bad:¬Bar S E fs s
theorem bar_of (F:Own S) (hP:EndsOk S E) {fs:List Frame} {s:World} (hwf:WF S fs s) (h:AllEnd S E fs s):Bar S E fs s:=by
 apply Classical.byContradiction
 intro hb
 have nx:∀x:Way S E,∃(y:Way S E) (τ:Nat -> Question -> Nat) (d:Nat),(gsem S x.fs).run S (tp x.s τ d)= .ok y.fs y.s:=fun x=>
   let ⟨τ,d,fs1,s1,h1,h2,h3,h4⟩:=next_bad F hP x.wf x.all x.bad
   ⟨⟨fs1,s1,h2,h3,h4⟩,τ,d,h1⟩
 let nxt:Way S E -> Way S E:=fun x=>Classical.choose (nx x)
 let nτ:Way S E -> (Nat -> Question -> Nat):=fun x=>Classical.choose (Classical.choose_spec (nx x))
 let nd:Way S E -> Nat:=fun x=>Classical.choose (Classical.choose_spec (Classical.choose_spec (nx x)))
 have hnx:∀x,(gsem S x.fs).run S (tp x.s (nτ x) (nd x))= .ok (nxt x).fs (nxt x).s:=fun x=>Classical.choose_spec (Classical.choose_spec (Classical.choose_spec (nx x)))
 let X:Nat -> Way S E:=fun k=>Nat.rec ⟨fs,s,hwf,h,hb⟩ (fun _ x=>nxt x) k
 let cn:Nat -> Nat:=fun k=>(X (k+1)).s.drawn-nd (X k)
 let D:Nat -> Nat:=fun k=>Nat.rec 0 (fun k d=>d+cn k) k
 have hD:∀k,D (k+1)=D k+cn k:=fun k=>rfl
 have hDm:∀j k,j <= k -> D j <= D k:=by
   intro j k hjk
   induction hjk with
   | refl=>exact Nat.le_refl _
   | step _ ih=>rw [hD];omega
 have tape:∃τ:Nat -> Question -> Nat,∀k i q,i<cn k -> τ (D k+i) q=nτ (X k) (nd (X k)+i) q:=by
   refine ⟨fun x q=>open Classical in if hx:∃k,D k <= x /\ x<D (k+1) then nτ (X (Classical.choose hx)) (nd (X (Classical.choose hx))+(x-D (Classical.choose hx))) q else 0,fun k i q hi=> ?_⟩
   have hx:∃j,D j <= D k+i /\ D k+i<D (j+1):=⟨k,by omega,by rw [hD];omega⟩
   simp only
   rw [dif_pos hx]
   have hc:=Classical.choose_spec hx
   have e:Classical.choose hx=k:=by
     generalize Classical.choose hx=j at hc
     rcases Nat.lt_trichotomy j k with hlt | rfl | hgt
     · have:=hDm (j+1) k hlt;omega
     · rfl
     · have:=hDm (k+1) j hgt;rw [hD] at this;omega
   rw [e,show D k+i-D k=i by omega]
 obtain ⟨τ,hτ⟩:=tape
 have hstep:∀k,(gsem S (X k).fs).run S (tp (X k).s τ (D k))= .ok (X (k+1)).fs (tp (X (k+1)).s τ (D (k+1))):=by
   intro k
   obtain ⟨_,a1,a2,a3⟩:=((X k).wf.tp (nτ (X k)) (nd (X k))).local F (hnx (X k))
   have:=a3 τ (D k) fun i q hi=>hτ k i q hi
   rw [tp_tp] at this
   exact this
 have hiter:∀k j,giter S k (X j).fs (tp (X j).s τ (D j))=some ((X (j+k)).fs,tp (X (j+k)).s τ (D (j+k))):=by
   intro k
   induction k with
   | zero=>intro j;rfl
   | succ k ih=>
     intro j
     simp only [giter,hstep j]
     rw [ih (j+1),show j+1+k=j+(k+1) by omega]
 obtain ⟨fs',s',⟨m,hm⟩,hfin⟩:=h τ 0
 have:=hiter m 0
 rw [show tp (X 0).s τ (D 0)=tp s τ 0 from rfl,show (X 0).fs=fs from rfl,hm] at this
 simp only [Option.some.injEq,Prod.mk.injEq] at this
 obtain ⟨e1,e2⟩:=this
 subst e1
 have:=hstep (0+m)
 exact hP.stuck _ _ hfin τ (D (0+m)) ⟨_,_,by rw [show tp s' τ (D (0+m))=tp (X (0+m)).s τ (D (0+m)) by rw [e2];rfl];exact this⟩
def RetQ (S:Program) (Q:Value -> Array Obj -> Prop) (fs:List Frame) (s:World):Prop:=
 ∃fr,fs=[fr] /\ fr.mode= .returning /\ ∃fn v,S.funcs[fr.fn]? =some fn /\ (∀τ d,(results fn fr.tmps).run S (tp s τ d)= .ok v (tp s τ d)) /\ Q v s.heap
theorem retQ_ok (S:Program) (Q:Value -> Array Obj -> Prop):EndsOk S (RetQ S Q):=by
 refine ⟨?_,?_⟩
 · rintro fs s ⟨fr,rfl,hm,fn,v,hf,_⟩ τ d ⟨fs1,s1,h⟩
   unfold gsem at h
   simp only [hm,hf] at h
   cases h
 · rintro fs s τ d ⟨fr,rfl,hm,fn,v,hf,hr,hv⟩
   exact ⟨fr,rfl,hm,fn,v,hf,fun τ' d' =>hr τ' d',hv⟩
theorem bar_call (F:Own S) {Q:Value -> Array Obj -> Prop} {f:FuncId} {x:Array Value} {s:World} (hwf:WF S [Frame.enter S f x .normal] s)
   (hC:∀τ d,Calls S f x (tp s τ d) fun e w' =>∃v,e= .returned v /\ Q v w'.heap):Bar S (RetQ S Q) [Frame.enter S f x .normal] s:=by
 refine bar_of F (retQ_ok S Q) hwf fun τ d=> ?_
 obtain ⟨e,w',fr,⟨v,rfl,hv⟩,⟨n,hn⟩,hfn,hm,hd,hk,fn,hfs,hres⟩:=hC τ d [catcher S]
 have hg:GRun S [Frame.enter S f x .normal] (tp s τ d) [fr] w':=grun_of F hm n _ [] (tp s τ d) (hwf.tp τ d).all (hwf.tp τ d).sh hn
 obtain ⟨m,hm'⟩:=hg
 have hw':=(giter_shift F m _ _ _ _ (hwf.tp τ d) hm').1
 refine ⟨[fr],w',⟨m,hm'⟩,fr,rfl,hm,fn,v,hfs,fun τ' d' => ?_,hv⟩
 obtain ⟨_,_,h3⟩:=(results_ok (zo:=0) (SB:=no) F.sm fn fr.tmps).local hw'.sh hres
 have:=h3 τ' d' (fun i q hi=>by omega)
 rwa [Nat.sub_self,Nat.add_zero] at this
theorem Bar.next (hE:EndsOk S E) {fs fs1:List Frame} {s s1:World} (h:Bar S E fs s) {τ:Nat -> Question -> Nat} {d:Nat} (hr:(gsem S fs).run S (tp s τ d)= .ok fs1 s1):Bar S E fs1 s1:=by
 cases h with
 | stop he=>exact absurd ⟨_,_,hr⟩ (hE.stuck _ _ he _ _)
 | step _ h2=>exact h2 _ _ _ _ hr
end
end Lo
end Go.Proofs.YtfphigmeppdocaaGreat
namespace Go.Proofs.YtfphigmeppdocaaGreat
namespace Lo
theorem finish_fn (f:Frame) (v:Value):(f.finish v).fn=f.fn:=by
 obtain ⟨fnid,tmps,todo,defers,mode,kind,roundOf⟩:=f
 unfold Frame.finish
 split<;>rfl
theorem gsem_top {S:Program} {f:Frame} {cs l:List Frame} {w w' :World} (h:(gsem S (f::cs)).run S w= .ok l w'):
   (∀fr∈l,∃f0∈f::cs,fr.fn=f0.fn)∨∃g x,l=Frame.enter S g x .normal::f::cs:=by
 have bad:∀{why:String},(Go.stuck why:Sem (List Frame)).run S w= .ok l w' →False:=by
   intro why hc
   simp [Go.stuck] at hc
 have low:∀c∈cs,∃f0∈f::cs,c.fn=f0.fn:=fun c hc=>⟨c,List.mem_cons_of_mem _ hc,rfl⟩
 have kp:∀f',f'.fn=f.fn→l=f' ::cs→∀fr∈l,∃f0∈f::cs,fr.fn=f0.fn:=by
   rintro f' he rfl fr hfr
   rcases List.mem_cons.1 hfr with rfl | hfr
   · exact ⟨f,List.mem_cons_self,he⟩
   · exact low fr hfr
 have ctl:∀f',f'.fn=f.fn→(Pure.pure (f' ::cs):Sem (List Frame)).run S w= .ok l w' →(∀fr∈l,∃f0∈f::cs,fr.fn=f0.fn)∨∃g x,l=Frame.enter S g x .normal::f::cs:=by
   intro f' he hc
   have hc' :Result.ok (f' ::cs) w= .ok l w':=hc
   simp only [Result.ok.injEq] at hc'
   exact .inl (kp f' he hc'.1.symm)
 unfold gsem at h
 simp only at h
 split at h
 · exact (bad h).elim
 · cases cs with
   | nil=>
     split at h
     · rename_i hx;cases hx
     · exact (bad h).elim
   | cons c cs=>
     cases hfn:S.funcs[f.fn]? with
     | none=>rw [hfn] at h;exact (bad h).elim
     | some fn=>
       rw [hfn] at h
       have h' :((results fn f.tmps).bind fun v=>Sem.pure (c.finish v::cs)).run S w= .ok l w':=h
       rw [Sem.run_bind'] at h'
       cases hr:(results fn f.tmps).run S w with
       | halt x w1=>rw [hr] at h';cases h'
       | ok v w1=>
         rw [hr] at h'
         have h2:Result.ok (c.finish v::cs) w1= .ok l w':=h'
         simp only [Result.ok.injEq] at h2
         obtain ⟨rfl,_⟩:=h2
         refine .inl fun fr hfr=> ?_
         rcases List.mem_cons.1 hfr with rfl | hfr
         · exact ⟨c,by simp,finish_fn c v⟩
         · exact ⟨fr,by simp [hfr],rfl⟩
 · split at h
   · exact ctl _ (by rfl) h
   · exact ctl _ (by rfl) h
   · exact ctl _ (by rfl) h
   · exact ctl _ (by rfl) h
   · exact ctl _ (by rfl) h
   · exact ctl _ (by rfl) h
   · exact ctl _ (by rfl) h
   · split at h
     · exact ctl _ (by rfl) h
     · exact (bad h).elim
   · exact ctl _ (by rfl) h
   · exact ctl _ (by rfl) h
   · exact ctl _ (by rfl) h
   · exact ctl _ (by rfl) h
   · split at h
     · exact ctl _ (by rfl) h
     · exact (bad h).elim
   · split at h
     · exact ctl _ (by rfl) h
     · rename_i id ops draw k _ _
       have h' :(Sem.choose (.order f.fn id) fun t=>Sem.pure ({f with todo:= .inRegion ops (Region.schedule (S.follows .mixedOrders) ops t)::k }::cs)).run S w= .ok l w':=h
       simp only [Sem.run,Question.forced,Question.cut,Bool.false_eq_true,if_false,Result.ok.injEq] at h'
       exact .inl (kp _ (by rfl) h'.1.symm)
   · exact ctl _ (by rfl) h
   · split at h
     · rename_i o _
       split at h
       · have h' :((execOp f.eval o).bind fun x=>afterOp S f cs x).run S w= .ok l w':=h
         rw [Sem.run_bind'] at h'
         cases hr:(execOp f.eval o).run S w with
         | halt x w1=>rw [hr] at h';cases h'
         | ok x w1=>
           rw [hr] at h'
           cases x with
           | value v=>
             have h2:Result.ok (f.finish v::cs) w1= .ok l w':=h'
             simp only [Result.ok.injEq] at h2
             exact .inl (kp _ (finish_fn f v) h2.1.symm)
           | skip=>
             have h2:Result.ok (f.finish undef::cs) w1= .ok l w':=h'
             simp only [Result.ok.injEq] at h2
             exact .inl (kp _ (finish_fn f _) h2.1.symm)
           | enter g x=>
             have h2:Result.ok (Frame.enter S g x .normal::f::cs) w1= .ok l w':=h'
             simp only [Result.ok.injEq] at h2
             exact .inr ⟨g,x,h2.1.symm⟩
           | _=>simp [afterOp,Go.stuck,Sem.run] at h'
       · exact ctl _ (finish_fn f _) h
     · exact ctl _ (finish_fn f _) h
   · exact (bad h).elim
inductive Rc (S:Program) (fs0:List Frame) (s0:World):List Frame→World→Prop
 | refl:Rc S fs0 s0 fs0 s0
 | step {fs fs1:List Frame} {s s1:World} {τ:Nat→Question→Nat} {d:Nat}:Rc S fs0 s0 fs s→(gsem S fs).run S (tp s τ d)= .ok fs1 s1→Rc S fs0 s0 fs1 s1
section
variable {S:Program} {E:List Frame→World→Prop}
theorem Rc.bar (hE:EndsOk S E) {fs fs1:List Frame} {s s1:World} (h:Bar S E fs s) (hr:Rc S fs s fs1 s1):Bar S E fs1 s1:=by
 induction hr with
 | refl=>exact h
 | step _ h1 ih=>exact ih.next hE h1
theorem bar_refuse {f:FuncId} {fn:Func} {x:Array Value} {cs:List Frame} {s:World} {Q:Value→Array Obj→Prop} (hf:S.funcs[f]? =some fn) (hb:∃why,fn.body=some (.refuse why)) (h:Bar S (RetQ S Q) (Frame.enter S f x .normal::cs) s):False:=by
 obtain ⟨why,hb⟩:=hb
 cases h with
 | stop he=>
   obtain ⟨fr,e,hm,_⟩:=he
   cases e
   simp [Frame.enter] at hm
 | step h1 _=>
   obtain ⟨fs1,s1,hr⟩:=h1 s.tape s.drawn
   have : gsem S (Frame.enter S f x .normal :: cs) = Go.stuck "not here" := by
     simp [gsem,Frame.enter,hf,hb]
   rw [this] at hr
   simp [Go.stuck] at hr
end
end Lo
end Go.Proofs.YtfphigmeppdocaaGreat
namespace Go.Proofs.YtfphigmeppdocaaGreat
namespace Lo
theorem fall_run {P:Program} {fr' :Frame} {w' :World}:∀(n:Nat) (cs:List Frame) (fr:Frame) (w:World),fr.defers=[]→(∀f∈cs,f.defers=[])→(∃ch,fr.mode= .panicking ch)→
   runN P n (lone fr (cs++[catcher P]) w)= .next (lone fr' [catcher P] w')→w' =w
 | 0,cs,fr,w,_,_,_,h=>by
   simp only [runN,Stepped.next.injEq] at h
   exact (lone_ne h).2.2.symm
 | n+1,cs,fr,w,hd,hds,⟨ch,hch⟩,h=>by
   simp only [runN] at h
   by_cases hc:fr.catches P=true
   · have : step P (lone fr (cs ++ [catcher P]) w) = .ended (.unsupported (.noEntry "a panic or Goexit out of a method that fmt calls behind a cut's door") (fr.pos P)) w :=
       step_lone_ended (by simp [stepG,unwind,hd,hch,hc])
     rw [this] at h
     cases h
   · have hc' :fr.catches P=false:=by simpa using hc
     cases cs with
     | nil=>
       have:step P (lone fr ([]++[catcher P]) w)= .next (lone ((catcher P).raise ch) [] w):=step_lone_go (by simp [stepG,unwind,hd,hch,hc'])
       rw [this] at h
       obtain ⟨r1,r2,r3⟩:=catcher_raise P ch
       cases n with
       | zero=>
         simp only [runN,Stepped.next.injEq] at h
         have:=(lone_ne h).2.1
         cases this
       | succ n=>
         simp only [runN] at h
         have : step P (lone ((catcher P).raise ch) [] w) = .ended (.unsupported (.noEntry "a panic or Goexit out of a method that fmt calls behind a cut's door") (((catcher P).raise ch).pos P)) w :=
           step_lone_ended (by simp [stepG,unwind,r1,r2,r3])
         rw [this] at h
         cases h
     | cons c cs=>
       have:step P (lone fr ((c::cs)++[catcher P]) w)= .next (lone (c.raise ch) (cs++[catcher P]) w):=step_lone_go (by simp [stepG,unwind,hd,hch,hc'])
       rw [this] at h
       have hcd:c.defers=[]:=hds c (by simp)
       refine fall_run n cs (c.raise ch) w ?_ (fun f hf=>hds f (by simp [hf])) ?_ h
       · unfold Frame.raise;split<;>exact hcd
       · unfold Frame.raise;split<;>exact ⟨_,rfl⟩
section
variable {S:Program}
theorem gdie_of (F:Own S) {fr' :Frame} {s' :World} {ch:List PanicEntry} (hm' :fr'.mode= .panicking ch):∀(n:Nat) (fr:Frame) (cs:List Frame) (s:World),
   All S (fr::cs)→Sh no s→runN S n (lone fr (cs++[catcher S]) s)= .next (lone fr' [catcher S] s')→∃fs1 s1 v,GRun S (fr::cs) s fs1 s1∧(gsem S fs1).run S s1= .halt (.panic v) s'
 | 0,fr,cs,s,h,hs,hr=>by
   simp only [runN,Stepped.next.injEq] at hr
   obtain ⟨rfl,_,_⟩:=lone_ne hr
   have:=(all_cons.1 h).1.calm
   rw [hm'] at this
   rcases this with h | h<;>cases h
 | n+1,fr,cs,s,h,hs,hr=>by
   have hr0:=hr
   simp only [runN] at hr
   rcases lone_step F h hs with ⟨fr1,cs1,s1,g1,g2⟩ | ⟨rfl,hm⟩ | ⟨o,w1,g⟩ | ⟨fr1,s1,g1,g2,g3,v,g4⟩
   · rw [g2] at hr
     obtain ⟨h1,h2⟩:=gsem_own F h
     obtain ⟨fs1,s2,v,k1,k2⟩:=gdie_of F hm' n fr1 cs1 s1 (h2 s hs _ _ g1) ((h1 s hs).2 _ _ g1).2.1 hr
     exact ⟨fs1,s2,v,.head g1 k1,k2⟩
   · have hf:=(all_cons.1 h).1
     obtain ⟨fn,e1⟩:=hf.known
     exact absurd hr0 (past_end hf.plain hm e1 n)
   · rw [g] at hr;cases hr
   · rw [g1] at hr
     have:=fall_run n cs fr1 s1 g3 (all_cons.1 h).2.defers g2 hr
     subst this
     exact ⟨fr::cs,s,v,.refl _ _ _,g4⟩
end
end Lo
end Go.Proofs.YtfphigmeppdocaaGreat
namespace Go.Proofs.YtfphigmeppdocaaGreat
namespace Lo
def Zt (zq:Question -> Bool) (τ:Nat -> Question -> Nat):Prop:=∀k q,zq q=true -> τ k q=0
inductive BarZ (S:Program) (zq:Question -> Bool) (E:List Frame -> World -> Prop):List Frame -> World -> Prop
 | stop {fs:List Frame} {s:World}:E fs s -> BarZ S zq E fs s
 | step {fs:List Frame} {s:World}:(∀τ d,Zt zq τ -> ∃fs1 s1,(gsem S fs).run S (tp s τ d)= .ok fs1 s1) -> (∀τ d fs1 s1,Zt zq τ -> (gsem S fs).run S (tp s τ d)= .ok fs1 s1 -> BarZ S zq E fs1 s1) -> BarZ S zq E fs s
section
variable {S:Program} {zq:Question -> Bool} {E:List Frame -> World -> Prop}
def AllEndZ (S:Program) (zq:Question -> Bool) (E:List Frame -> World -> Prop) (fs:List Frame) (s:World):Prop:=∀τ d,Zt zq τ -> ∃fs' s',GRun S fs (tp s τ d) fs' s' /\ E fs' s'
theorem AllEndZ.step (F:Own S) (hP:EndsOk S E) {fs fs1:List Frame} {s s1:World} (hwf:WF S fs s) (h:AllEndZ S zq E fs s) {τ:Nat -> Question -> Nat} {d:Nat} (hz:Zt zq τ)
   (hr:(gsem S fs).run S (tp s τ d)= .ok fs1 s1):AllEndZ S zq E fs1 s1:=by
 intro τ' d' hz'
 obtain ⟨w1,a1,a2,a3⟩:=(hwf.tp τ d).local F hr
 obtain ⟨n,hn⟩:∃n,n=s1.drawn-d:=⟨_,rfl⟩
 obtain ⟨fs',s',⟨m,hm⟩,hfin⟩:=h (fun x q=>if x<d+n then τ x q else τ' (d' +(x-(d+n))) q) d (fun x q hq=>by dsimp only;split<;>first | exact hz _ _ hq | exact hz' _ _ hq)
 have e1:=a3 (fun x q=>if x<d+n then τ x q else τ' (d' +(x-(d+n))) q) d fun i q hi=>by
   simp only [Lo.tp] at hi ⊢
   rw [if_pos (by omega)]
 rw [tp_tp] at e1
 have e0:s1.drawn-(Lo.tp s τ d).drawn=n:=by rw [hn];rfl
 rw [e0] at e1
 cases m with
 | zero=>
   simp only [giter,Option.some.injEq,Prod.mk.injEq] at hm
   obtain ⟨rfl,rfl⟩:=hm
   exact absurd ⟨_,_,e1⟩ (hP.stuck _ _ hfin _ _)
 | succ m=>
   simp only [giter,e1] at hm
   obtain ⟨_,_,_,b3⟩:=giter_shift F m fs1 fs' _ s' (w1.tp _ _) hm
   have:=b3 τ' d' fun i q hi=>by
     simp only [Lo.tp]
     rw [if_neg (by omega),show d+n+i-(d+n)=i by omega]
   rw [tp_tp] at this
   exact ⟨fs',_,⟨m,this⟩,hP.tp _ _ _ _ hfin⟩
theorem next_badZ (F:Own S) (hP:EndsOk S E) {fs:List Frame} {s:World} (hwf:WF S fs s) (h:AllEndZ S zq E fs s) (hb:¬BarZ S zq E fs s):
   ∃τ d fs1 s1,Zt zq τ /\ (gsem S fs).run S (tp s τ d)= .ok fs1 s1 /\ WF S fs1 s1 /\ AllEndZ S zq E fs1 s1 /\ ¬BarZ S zq E fs1 s1:=by
 apply Classical.byContradiction
 intro hno
 apply hb
 refine .step (fun τ d hz=> ?_) (fun τ d fs1 s1 hz hr=> ?_)
 · obtain ⟨fs',s',⟨m,hm⟩,hfin⟩:=h τ d hz
   cases m with
   | zero=>
     simp only [giter,Option.some.injEq,Prod.mk.injEq] at hm
     obtain ⟨rfl,rfl⟩:=hm
     have:=hP.tp fs (tp s τ d) s.tape s.drawn hfin
     exact absurd (.stop this) hb
   | succ m=>
     simp only [giter] at hm
     cases hr:(gsem S fs).run S (tp s τ d) with
     | halt x y=>rw [hr] at hm;cases hm
     | ok fs1 s1=>exact ⟨fs1,s1,rfl⟩
 · apply Classical.byContradiction
   intro hnb
   exact hno ⟨τ,d,fs1,s1,hz,hr,((hwf.tp τ d).local F hr).1,h.step F hP hwf hz hr,hnb⟩
structure WayZ (S:Program) (zq:Question -> Bool) (E:List Frame -> World -> Prop) where
 fs:List Frame
 s:World
 wf:WF S fs s
 all:AllEndZ S zq E fs s
 bad:¬BarZ S zq E fs s
theorem barZ_of (F:Own S) (hP:EndsOk S E) {fs:List Frame} {s:World} (hwf:WF S fs s) (h:AllEndZ S zq E fs s):BarZ S zq E fs s:=by
 apply Classical.byContradiction
 intro hb
 have nx:∀x:WayZ S zq E,∃(y:WayZ S zq E) (τ:Nat -> Question -> Nat) (d:Nat),Zt zq τ /\ (gsem S x.fs).run S (tp x.s τ d)= .ok y.fs y.s:=fun x=>
   let ⟨τ,d,fs1,s1,hz,h1,h2,h3,h4⟩:=next_badZ F hP x.wf x.all x.bad
   ⟨⟨fs1,s1,h2,h3,h4⟩,τ,d,hz,h1⟩
 let nxt:WayZ S zq E -> WayZ S zq E:=fun x=>Classical.choose (nx x)
 let nτ:WayZ S zq E -> (Nat -> Question -> Nat):=fun x=>Classical.choose (Classical.choose_spec (nx x))
 let nd:WayZ S zq E -> Nat:=fun x=>Classical.choose (Classical.choose_spec (Classical.choose_spec (nx x)))
 have hnx:∀x,(gsem S x.fs).run S (tp x.s (nτ x) (nd x))= .ok (nxt x).fs (nxt x).s:=fun x=>(Classical.choose_spec (Classical.choose_spec (Classical.choose_spec (nx x)))).2
 have hnz:∀x,Zt zq (nτ x):=fun x=>(Classical.choose_spec (Classical.choose_spec (Classical.choose_spec (nx x)))).1
 let X:Nat -> WayZ S zq E:=fun k=>Nat.rec ⟨fs,s,hwf,h,hb⟩ (fun _ x=>nxt x) k
 let cn:Nat -> Nat:=fun k=>(X (k+1)).s.drawn-nd (X k)
 let D:Nat -> Nat:=fun k=>Nat.rec 0 (fun k d=>d+cn k) k
 have hD:∀k,D (k+1)=D k+cn k:=fun k=>rfl
 have hDm:∀j k,j <= k -> D j <= D k:=by
   intro j k hjk
   induction hjk with
   | refl=>exact Nat.le_refl _
   | step _ ih=>rw [hD];omega
 have tape:∃τ:Nat -> Question -> Nat,Zt zq τ /\ ∀k i q,i<cn k -> τ (D k+i) q=nτ (X k) (nd (X k)+i) q:=by
   refine ⟨fun x q=>open Classical in if hx:∃k,D k <= x /\ x<D (k+1) then nτ (X (Classical.choose hx)) (nd (X (Classical.choose hx))+(x-D (Classical.choose hx))) q else 0,fun x q hq=> ?_,fun k i q hi=> ?_⟩
   · dsimp only
     split
     · exact hnz _ _ _ hq
     · rfl
   have hx:∃j,D j <= D k+i /\ D k+i<D (j+1):=⟨k,by omega,by rw [hD];omega⟩
   simp only
   rw [dif_pos hx]
   have hc:=Classical.choose_spec hx
   have e:Classical.choose hx=k:=by
     generalize Classical.choose hx=j at hc
     rcases Nat.lt_trichotomy j k with hlt | rfl | hgt
     · have:=hDm (j+1) k hlt;omega
     · rfl
     · have:=hDm (k+1) j hgt;rw [hD] at this;omega
   rw [e,show D k+i-D k=i by omega]
 obtain ⟨τ,hzτ,hτ⟩:=tape
 have hstep:∀k,(gsem S (X k).fs).run S (tp (X k).s τ (D k))= .ok (X (k+1)).fs (tp (X (k+1)).s τ (D (k+1))):=by
   intro k
   obtain ⟨_,a1,a2,a3⟩:=((X k).wf.tp (nτ (X k)) (nd (X k))).local F (hnx (X k))
   have:=a3 τ (D k) fun i q hi=>hτ k i q hi
   rw [tp_tp] at this
   exact this
 have hiter:∀k j,giter S k (X j).fs (tp (X j).s τ (D j))=some ((X (j+k)).fs,tp (X (j+k)).s τ (D (j+k))):=by
   intro k
   induction k with
   | zero=>intro j;rfl
   | succ k ih=>
     intro j
     simp only [giter,hstep j]
     rw [ih (j+1),show j+1+k=j+(k+1) by omega]
 obtain ⟨fs',s',⟨m,hm⟩,hfin⟩:=h τ 0 hzτ
 have:=hiter m 0
 rw [show tp (X 0).s τ (D 0)=tp s τ 0 from rfl,show (X 0).fs=fs from rfl,hm] at this
 simp only [Option.some.injEq,Prod.mk.injEq] at this
 obtain ⟨e1,e2⟩:=this
 subst e1
 have:=hstep (0+m)
 exact hP.stuck _ _ hfin τ (D (0+m)) ⟨_,_,by rw [show tp s' τ (D (0+m))=tp (X (0+m)).s τ (D (0+m)) by rw [e2];rfl];exact this⟩
theorem barZ_call (F:Own S) {Q:Value -> Array Obj -> Prop} {f:FuncId} {x:Array Value} {s:World} (hwf:WF S [Frame.enter S f x .normal] s)
   (hC:∀τ d,Zt zq τ -> Calls S f x (tp s τ d) fun e w' =>∃v,e= .returned v /\ Q v w'.heap):BarZ S zq (RetQ S Q) [Frame.enter S f x .normal] s:=by
 refine barZ_of F (retQ_ok S Q) hwf fun τ d hz=> ?_
 obtain ⟨e,w',fr,⟨v,rfl,hv⟩,⟨n,hn⟩,hfn,hm,hd,hk,fn,hfs,hres⟩:=hC τ d hz [catcher S]
 have hg:GRun S [Frame.enter S f x .normal] (tp s τ d) [fr] w':=grun_of F hm n _ [] (tp s τ d) (hwf.tp τ d).all (hwf.tp τ d).sh hn
 obtain ⟨m,hm'⟩:=hg
 have hw':=(giter_shift F m _ _ _ _ (hwf.tp τ d) hm').1
 refine ⟨[fr],w',⟨m,hm'⟩,fr,rfl,hm,fn,v,hfs,fun τ' d' => ?_,hv⟩
 obtain ⟨_,_,h3⟩:=(results_ok (zo:=0) (SB:=no) F.sm fn fr.tmps).local hw'.sh hres
 have:=h3 τ' d' (fun i q hi=>by omega)
 rwa [Nat.sub_self,Nat.add_zero] at this
theorem BarZ.next (hE:EndsOk S E) {fs fs1:List Frame} {s s1:World} (h:BarZ S zq E fs s) {τ:Nat -> Question -> Nat} {d:Nat} (hz:Zt zq τ) (hr:(gsem S fs).run S (tp s τ d)= .ok fs1 s1):BarZ S zq E fs1 s1:=by
 cases h with
 | stop he=>exact absurd ⟨_,_,hr⟩ (hE.stuck _ _ he _ _)
 | step _ h2=>exact h2 _ _ _ _ hz hr
theorem BarZ.of_tp (hE:EndsOk S E) {fs:List Frame} {s:World} {τ:Nat -> Question -> Nat} {d:Nat} (h:BarZ S zq E fs (tp s τ d)):BarZ S zq E fs s:=by
 cases h with
 | stop he=>exact .stop (hE.tp _ (tp s τ d) s.tape s.drawn he)
 | step h1 h2=>exact .step h1 h2
theorem Bar.toZ {fs:List Frame} {s:World} (h:Bar S E fs s):BarZ S zq E fs s:=by
 induction h with
 | stop he=>exact .stop he
 | step h1 _ ih=>exact .step (fun τ d _=>h1 τ d) fun τ d fs1 s1 _ hr=>ih τ d fs1 s1 hr
theorem zt_no (τ:Nat -> Question -> Nat):Zt (fun _=>false) τ:=fun _ _ h=>by cases h
theorem zt_0 (zq:Question -> Bool):Zt zq (fun _ _=>0):=fun _ _ _=>rfl
def Rec (S:Program) (fs0:List Frame) (s0:World) (fs:List Frame) (s:World):Prop:=∃n τ d,giter S n fs0 (tp s0 τ 0)=some (fs,tp s τ d)
theorem Rec.start (fs:List Frame) (s:World):Rec S fs s fs s:=⟨0,s.tape,0,rfl⟩
theorem giter_add:∀(n m:Nat) {fs fs1 fs2:List Frame} {s s1 s2:World},giter S n fs s=some (fs1,s1) -> giter S m fs1 s1=some (fs2,s2) -> giter S (n+m) fs s=some (fs2,s2)
 | 0,m,fs,fs1,fs2,s,s1,s2,h,h' =>by
   simp only [giter,Option.some.injEq,Prod.mk.injEq] at h
   obtain ⟨rfl,rfl⟩:=h
   rw [Nat.zero_add];exact h'
 | n+1,m,fs,fs1,fs2,s,s1,s2,h,h' =>by
   rw [Nat.add_right_comm]
   simp only [giter] at h ⊢
   cases hr:(gsem S fs).run S s with
   | halt x y=>rw [hr] at h;cases h
   | ok fs3 s3=>
     rw [hr] at h
     simp only at h ⊢
     exact giter_add n m h h'
theorem Rec.with (F:Own S) {fs0 fs:List Frame} {s0 s:World} (hwf:WF S fs0 s0) (h:Rec S fs0 s0 fs s) (τ' :Nat -> Question -> Nat) (d' :Nat):
   ∃n τ d,giter S n fs0 (Lo.tp s0 τ 0)=some (fs,Lo.tp s τ d) /\ ∀i q,τ (d+i) q=τ' (d' +i) q:=by
 obtain ⟨n,τ,d,h⟩:=h
 obtain ⟨_,b1,b2,b3⟩:=giter_shift F n fs0 fs _ _ (hwf.tp τ 0) h
 have e:=b3 (fun x q=>if x<d then τ x q else τ' (d' +(x-d)) q) 0 fun i q hi=>by
   have hi' :i<d- 0:=hi
   show (if 0+i<d then τ (0+i) q else _)=τ (0+i) q
   rw [if_pos (by omega)]
 rw [tp_tp,tp_tp] at e
 refine ⟨n,_,_,e,fun i q=> ?_⟩
 have e0:0+((Lo.tp s τ d).drawn-(Lo.tp s0 τ 0).drawn)=d:=by show 0+(d- 0)=d;omega
 rw [e0]
 rw [if_neg (by omega),show d+i-d=i by omega]
theorem Rec.wf (F:Own S) {fs0 fs:List Frame} {s0 s:World} (hwf:WF S fs0 s0) (h:Rec S fs0 s0 fs s):WF S fs s:=by
 obtain ⟨n,τ,d,h⟩:=h
 have:=(giter_shift F n fs0 fs _ _ (hwf.tp τ 0) h).1
 exact ⟨this.all,⟨this.sh.dv,this.sh.nl,this.sh.bad⟩⟩
theorem Rec.step (F:Own S) {fs0 fs fs1:List Frame} {s0 s s1:World} (hwf:WF S fs0 s0) (h:Rec S fs0 s0 fs s) {τ1:Nat -> Question -> Nat} {d1:Nat} (hr:(gsem S fs).run S (Lo.tp s τ1 d1)= .ok fs1 s1):Rec S fs0 s0 fs1 s1:=by
 obtain ⟨n,τ,d,h1,h2⟩:=h.with F hwf τ1 d1
 obtain ⟨_,a1,a2,a3⟩:=((h.wf F hwf).tp τ1 d1).local F hr
 have e:=a3 τ d fun i q _=>h2 i q
 rw [tp_tp] at e
 exact ⟨n+1,τ,d+(s1.drawn-(Lo.tp s τ1 d1).drawn),giter_add n 1 h1 (by simp only [giter,e])⟩
end
end Lo
end Go.Proofs.YtfphigmeppdocaaGreat
namespace Go.Proofs.YtfphigmeppdocaaGreat
namespace Lo
theorem boc_same (T:Tables) (A B:Array Func):∀(d:Nat) (t:TypeId) (o:Nat),byteOfCell ⟨T,A⟩ d t o=byteOfCell ⟨T,B⟩ d t o
 | 0,_,_=>rfl
 | d+1,t,o=>by
   have hu:Program.underlying ⟨T,A⟩ t=Program.underlying ⟨T,B⟩ t:=rfl
   have hc:∀e,Program.cellsOf ⟨T,A⟩ e=Program.cellsOf ⟨T,B⟩ e:=fun _=>rfl
   have hb:∀e,Program.bytesOf ⟨T,A⟩ e=Program.bytesOf ⟨T,B⟩ e:=fun _=>rfl
   unfold byteOfCell
   simp only [hu,hc,hb,boc_same T A B d]
theorem cob_same (T:Tables) (A B:Array Func):∀(d:Nat) (t:TypeId) (o:Nat),cellOfByte ⟨T,A⟩ d t o=cellOfByte ⟨T,B⟩ d t o
 | 0,_,_=>rfl
 | d+1,t,o=>by
   have hu:Program.underlying ⟨T,A⟩ t=Program.underlying ⟨T,B⟩ t:=rfl
   have hc:∀e,Program.cellsOf ⟨T,A⟩ e=Program.cellsOf ⟨T,B⟩ e:=fun _=>rfl
   have hb:∀e,Program.bytesOf ⟨T,A⟩ e=Program.bytesOf ⟨T,B⟩ e:=fun _=>rfl
   unfold cellOfByte
   simp only [hu,hc,hb,cob_same T A B d]
theorem cab_same (T:Tables) (A B:Array Func) (d:Nat) (e:TypeId) (n o:Nat) (k:Int):cellAtBytes ⟨T,A⟩ d e n o k=cellAtBytes ⟨T,B⟩ d e n o k:=by
 have hc:∀e,Program.cellsOf ⟨T,A⟩ e=Program.cellsOf ⟨T,B⟩ e:=fun _=>rfl
 have hb:∀e,Program.bytesOf ⟨T,A⟩ e=Program.bytesOf ⟨T,B⟩ e:=fun _=>rfl
 unfold cellAtBytes
 simp only [hc,hb,boc_same T A B d,cob_same T A B d]
theorem eqg_same (T:Tables) (A B:Array Func):∀(d:Nat) (t:TypeId),Program.eqGuardType ⟨T,A⟩ d t=Program.eqGuardType ⟨T,B⟩ d t
 | 0,_=>rfl
 | d+1,t=>by
   have hu:∀t,Program.underlying ⟨T,A⟩ t=Program.underlying ⟨T,B⟩ t:=fun _=>rfl
   unfold Program.eqGuardType
   simp only [hu,eqg_same T A B d]
theorem abt_same (T:Tables) (A B:Array Func):∀(d:Nat) (t u:TypeId),Program.alikeButTags ⟨T,A⟩ d t u=Program.alikeButTags ⟨T,B⟩ d t u
 | 0,_,_=>rfl
 | d+1,t,u=>by
   have hi:∀t,Tables.info? (Program.toTables ⟨T,A⟩) t=Tables.info? (Program.toTables ⟨T,B⟩) t:=fun _=>rfl
   unfold Program.alikeButTags
   simp only [hi,abt_same T A B d]
theorem held_same (T:Tables) (A B:Array Func) (t:TypeId):Program.stoodInHeld ⟨T,A⟩ t=Program.stoodInHeld ⟨T,B⟩ t:=by
 have hu:∀t,Program.underlying ⟨T,A⟩ t=Program.underlying ⟨T,B⟩ t:=fun _=>rfl
 have hi:∀t,Program.underlyingId ⟨T,A⟩ t=Program.underlyingId ⟨T,B⟩ t:=fun _=>rfl
 have hd:Program.depth ⟨T,A⟩=Program.depth ⟨T,B⟩:=rfl
 unfold Program.stoodInHeld Program.stoodInAs
 simp only [hu,hi,hd,abt_same T A B]
theorem sm_of (T:Tables) (A B:Array Func):Sm ⟨T,A⟩ ⟨T,B⟩:=
 ⟨fun _=>rfl,fun _=>rfl,rfl,fun t=>eqg_same T A B _ t,held_same T A B,fun _=>rfl,rfl,rfl,fun e o=>boc_same T A B _ e o,fun _=>rfl,fun e n o k=>cab_same T A B _ e n o k,fun _=>rfl,rfl⟩
def dead' (f : Func) : Func := { f with body := some (.refuse ""), name := "" }
def pickF (kn:List Nat) (sp:Nat) (g:Func) (i:Nat) (f:Func):Func:=if i=sp then g else if kn.contains i then f else dead' f
def mask (R:Program) (kn:List Nat) (sp:Nat) (g:Func):Program:=⟨R.toTables,(R.funcs.toList.mapIdx (pickF kn sp g)).toArray⟩
theorem mask_get (R:Program) (kn:List Nat) (sp:Nat) (g:Func) (f:FuncId):(mask R kn sp g).funcs[f]? =(R.funcs[f]?).map (pickF kn sp g f):=by
 simp [mask]
def chk (S:Program) (kn:List Nat) (sp:Nat):List Func→Nat→Bool
 | [],_=>true
 | fn :: r, i => (i == sp || !(kn.contains i) || (fn.name != "runtime.NumGoroutine" && (match fn.body with | none => false | some c => codeOk S c))) && chk S kn sp r (i + 1)
theorem chk_get {S : Program} {kn : List Nat} {sp : Nat} : ∀ (l : List Func) (i j : Nat) (fn : Func), chk S kn sp l i = true → l[j]? = some fn → i + j ≠ sp → kn.contains (i + j) = true → fn.name ≠ "runtime.NumGoroutine" ∧ ∃ c, fn.body = some c ∧ codeOk S c = true
 | [],_,_,_,_,h,_,_=>by simp at h
 | g::r,i,0,fn,h,hg,hs,hk=>by
   simp only [List.getElem?_cons_zero,Option.some.injEq] at hg
   subst hg
   rw [Nat.add_zero] at hs hk
   have h1:=(Bool.and_eq_true _ _▸h:_∧_).1
   rw [hk] at h1
   have hs' :(i==sp)=false:=by simpa using hs
   rw [hs'] at h1
   simp only [Bool.not_true,Bool.or_false,Bool.false_or,Bool.and_eq_true] at h1
   obtain ⟨h1,h2⟩:=h1
   refine ⟨by simpa using h1,?_⟩
   cases hb:g.body with
   | none=>rw [hb] at h2;cases h2
   | some c=>rw [hb] at h2;exact ⟨c,rfl,h2⟩
 | g::r,i,j+1,fn,h,hg,hs,hk=>by
   have h1:=(Bool.and_eq_true _ _▸h:_∧_).2
   exact chk_get r (i+1) j fn h1 (by simpa using hg) (by omega) (by rwa [show i+1+j=i+(j+1) from by omega])
theorem mask_fine {R : Program} {kn : List Nat} {sp : Nat} {g : Func} (h : chk (mask R kn sp g) kn sp R.funcs.toList 0 = true) (hg : g.name ≠ "runtime.NumGoroutine") (hb : ∃ c, g.body = some c ∧ codeOk (mask R kn sp g) c = true)
   (hk : kn.contains sp = true) (hlt : ∀ f, kn.contains f = true → f < R.funcs.size) {fR : Func} (hR : R.funcs[sp]? = some fR) (hRb : fR.body.isSome = true) (hRn : fR.name ≠ "runtime.NumGoroutine") :
   Fine (mask R kn sp g) R (fun f=>kn.contains f) sp∧Own (mask R kn sp g):=by
 have all : ∀ (f : FuncId) (fn : Func), (mask R kn sp g).funcs[f]? = some fn → fn.name ≠ "runtime.NumGoroutine" ∧ ∃ c, fn.body = some c ∧ codeOk (mask R kn sp g) c = true := by
   intro f fn hf
   rw [mask_get] at hf
   obtain ⟨f0,h0,rfl⟩:=Option.map_eq_some_iff.1 hf
   unfold pickF
   split
   · exact ⟨hg,hb⟩
   · rename_i hne
     split
     · rename_i hc
       exact chk_get _ 0 f f0 h (by simpa using h0) (by rw [Nat.zero_add];exact hne) (by rw [Nat.zero_add];exact hc)
     · exact ⟨by simp [dead'],_,rfl,rfl⟩
 refine ⟨⟨sm_of R.toTables _ _,all,fun f hf=> ?_,fun f fn hf h1=> ?_⟩,⟨sm_of R.toTables _ _,all,fun f hf=> ?_,fun f fn hf h1=> ?_⟩⟩
 · have hl:=hlt f hf
   have e:R.funcs[f]? =some R.funcs[f]:=Array.getElem?_eq_getElem hl
   by_cases hs:f=sp
   · subst hs
     rw [hR] at e
     exact ⟨g,fR,by rw [mask_get,hR];simp [pickF],hR,fun h=>absurd rfl h,hRb,hRn⟩
   · have hp:pickF kn sp g f R.funcs[f]=R.funcs[f]:=by
       unfold pickF
       rw [if_neg hs,if_pos hf]
     have h1:(mask R kn sp g).funcs[f]? =some R.funcs[f]:=by rw [mask_get,e];simp [hp]
     obtain ⟨h2,c,h3,_⟩:=all f _ h1
     exact ⟨_,_,h1,e,fun _=>rfl,by rw [h3];rfl,h2⟩
 · rw [mask_get] at h1
   obtain ⟨f0,h0,rfl⟩:=Option.map_eq_some_iff.1 h1
   have hs:f≠sp:=fun e=>by subst e;rw [hk] at hf;cases hf
   unfold pickF
   rw [if_neg hs,if_neg (by rw [hf];simp)]
   exact ⟨_,rfl⟩
 · have hl:f<(mask R kn sp g).funcs.size:=of_decide_eq_true hf
   have e:(mask R kn sp g).funcs[f]? =some (mask R kn sp g).funcs[f]:=Array.getElem?_eq_getElem hl
   obtain ⟨h2,c,h3,_⟩:=all f _ e
   exact ⟨_,_,e,e,fun _=>rfl,by rw [h3];rfl,h2⟩
 · have hl:f<(mask R kn sp g).funcs.size:=(Array.getElem?_eq_some_iff.1 h1).1
   exact absurd hl (of_decide_eq_false hf)
end Lo
end Go.Proofs.YtfphigmeppdocaaGreat
namespace Go.Proofs.YtfphigmeppdocaaGreat
namespace Lo
def op1 (d : Option Nat) (o : Op) (t : TypeId) : Oper := { dst := d, op := o, type := t, pos := "", after := #[], guard := none }
def agg0:Operand:= .const (.agg #[])
def oS0:Oper:=op1 (some 8) (.move (.const (.bool true))) 4
def oS1:Oper:={op1 none (.load 3 (.const (.bool true))) 3 with guard:=some (0,true) }
def oS2:Oper:=op1 (some 7) (.makeFunc (.func 77) #[.tmp 0,.tmp 1,.tmp 2,.tmp 3,.tmp 4,.tmp 5,.tmp 6,.tmp 7] #[]) 3
def opsS0:Array Oper:=#[oS0,oS1,oS2]
def oB1:Oper:=op1 (some 6) (.move (.const (.bool true))) 4
def oB0:Oper:=op1 (some 6) (.move (.const (.bool false))) 4
def opsS1:Array Oper:=#[oB1,oB0]
def oX0:Oper:=op1 none (.box 3 (.tmp 7)) 3
def oX1:Oper:=op1 none (.nilCheck (.const (.pointer none))) 3
def opsS3:Array Oper:=#[oX0,oX1]
def opsS4:Array Oper:=#[op1 none (.box 99 agg0) 3,op1 none (.box 101 agg0) 3,op1 none (.box 3 agg0) 3,op1 (some 3) (.makeSlice 104 (.tmp 2) (.tmp 2)) 104,
 op1 none (.box 104 agg0) 3,op1 none (.box 141 agg0) 3,op1 none (.box 3 agg0) 3,
 op1 (some 4) (.call {callee:= .value (.func 77),args:=#[.tmp 0,.tmp 1,.const (.int .i64 0),.const (.int .i64 1)],argTypes:=#[99,101,3,3] }) 99,
 op1 (some 5) (.indexAddr 104 (.tmp 3) (.const (.int .i64 0))) 3,op1 none (.store 99 (.tmp 5) (.tmp 4)) 3]
def bodyS:Code:= .seq (.region 0 opsS0 false) (.seq (.region 1 opsS1 true) (.cond (.tmp 6) (.region 3 opsS3 false) (.seq (.region 4 opsS4 false) .ret)))
noncomputable def fS:Func:={Tryz.f52 with ntmps:=8,results:=#[.tmp 3],body:=some bodyS }
def kn:List Nat:=[3,4,5,6,7,8,9,10,11,12,13,14,15,16,17,18,19,20,21,22,23,24,25,26,27,28,29,30,31,32,33,34,35,36,37,38,39,40,41,42,43,44,45,46,47,48,49,50,51,52,53,54,55,56,57,58,59,60,61,62,63,64,65,66,67,68,69,70,71,72,73,76,77,79,80,81,82,83,84,85,86,87,88,89,96,97,99,100,103,106,109,110,111,112,113,114,115,116,117,118,119,124,126,127,128,129,130,131,132,133,134,135,136,137,138,139,140,141,142,143,144,145,146,147,148,149,150,151]
noncomputable def Seq.prog:Program:=mask Tryz.prog kn 52 fS
theorem kn_chk:chk Seq.prog kn 52 Tryz.prog.funcs.toList 0=true:=by kernel_rfl
theorem kn_lt:kn.all (fun f=>decide (f<Tryz.prog.funcs.size))=true:=by kernel_rfl
theorem seq_fine:Fine Seq.prog Tryz.prog (fun f=>kn.contains f) 52∧Own Seq.prog:=
 mask_fine kn_chk (by show Tryz.f52.name≠_;decide+kernel) ⟨bodyS,rfl,by kernel_rfl⟩ (by kernel_rfl) (fun f hf=>of_decide_eq_true (List.all_eq_true.1 kn_lt f (List.contains_iff_mem.1 hf))) Tryz.func52 (by kernel_rfl) (by decide+kernel)
theorem seq_sp:Seq.prog.funcs[52]? =some fS:=by
 show (mask _ _ _ _).funcs[52]? =_
 rw [mask_get,Tryz.func52]
 rfl
end Lo
end Go.Proofs.YtfphigmeppdocaaGreat
namespace Go.Proofs.YtfphigmeppdocaaGreat
namespace Lo
section
variable {S:Program}
theorem giter_end:∀(n m:Nat) {fs f1 f2:List Frame} {s s1 s2 t t' :World} {h h' :Halt},giter S n fs s=some (f1,s1) -> (gsem S f1).run S s1= .halt h t -> giter S m fs s=some (f2,s2) -> (gsem S f2).run S s2= .halt h' t' -> f1=f2 /\ s1=s2
 | 0,0,fs,f1,f2,s,s1,s2,t,t',h,h',a,b,c,d=>by
   simp only [giter,Option.some.injEq,Prod.mk.injEq] at a c
   exact ⟨a.1.symm.trans c.1,a.2.symm.trans c.2⟩
 | 0,m+1,fs,f1,f2,s,s1,s2,t,t',h,h',a,b,c,d=>by
   simp only [giter,Option.some.injEq,Prod.mk.injEq] at a
   obtain ⟨rfl,rfl⟩:=a
   simp only [giter,b] at c
   cases c
 | n+1,0,fs,f1,f2,s,s1,s2,t,t',h,h',a,b,c,d=>by
   simp only [giter,Option.some.injEq,Prod.mk.injEq] at c
   obtain ⟨rfl,rfl⟩:=c
   simp only [giter,d] at a
   cases a
 | n+1,m+1,fs,f1,f2,s,s1,s2,t,t',h,h',a,b,c,d=>by
   simp only [giter] at a c
   cases hr:(gsem S fs).run S s with
   | halt x y=>rw [hr] at a;cases a
   | ok fs3 s3=>
     rw [hr] at a c
     exact giter_end n m a b c d
theorem ret_halt {fr:Frame} (hm:fr.mode= .returning) (s:World):∃why,(gsem S [fr]).run S s= .halt (.stuck why) s:=by
 unfold gsem
 simp only [hm]
 cases S.funcs[fr.fn]? with
 | none=>exact ⟨_,rfl⟩
 | some fn=>exact ⟨_,rfl⟩
theorem die_calls (F:Own S) {f:FuncId} {x:Array Value} {s:World} (hwf:WF S [Frame.enter S f x .normal] s) {A:Ending -> World -> Prop} {P:Array Obj -> Prop} (hA:∀e w',A e w' -> (∃v,e= .returned v) \/ ∃ch,e= .panicked ch /\ P w'.heap)
   {τ:Nat -> Question -> Nat} {d:Nat} (hC:Calls S f x (tp s τ d) A) {fs:List Frame} {s1:World} {n:Nat} (hg:giter S n [Frame.enter S f x .normal] (tp s τ d)=some (fs,s1)) {v:Value} {s2:World} (hh:(gsem S fs).run S s1= .halt (.panic v) s2):P s2.heap:=by
 obtain ⟨e,w',fr,hR,hcome,_,hl⟩:=hC [catcher S]
 rcases hA e w' hR with ⟨v1,rfl⟩ | ⟨ch,rfl,hP⟩
 · obtain ⟨m,hm⟩:=hcome
   obtain ⟨hm1,_⟩:=hl
   obtain ⟨k,hk⟩:=grun_of F hm1 m _ [] (tp s τ d) (hwf.tp τ d).all (hwf.tp τ d).sh hm
   obtain ⟨why,hs⟩:=ret_halt (S:=S) hm1 w'
   obtain ⟨rfl,rfl⟩:=giter_end n k hg hh hk hs
   cases hs.symm.trans hh
 · obtain ⟨m,hm⟩:=hcome
   obtain ⟨hm1,_⟩:=hl
   obtain ⟨fs1,s1',v1,⟨k,hk⟩,h2⟩:=gdie_of F hm1 m _ [] (tp s τ d) (hwf.tp τ d).all (hwf.tp τ d).sh hm
   obtain ⟨rfl,rfl⟩:=giter_end n k hg hh hk h2
   cases h2.symm.trans hh
   exact hP
theorem own_at (F:Own S) (sp:FuncId):Fine S S (known S) sp:=
 ⟨F.sm,F.all,fun f hf=>by
   obtain ⟨fn,fn',h1,h2,h3,h4,h5⟩:=F.same f hf
   have hl:f<S.funcs.size:=of_decide_eq_true hf
   exact ⟨fn,fn',h1,h2,fun _=>h3 (Nat.ne_of_lt hl),h4,h5⟩,F.dead⟩
theorem gsem_z (F:Own S) {sp:FuncId} {f:Frame} {cs:List Frame} (h:All S (f::cs)) (hs:f.fn≠sp):Okk sp S S no Eq (gsem S (f::cs)) (gsem S (f::cs)):=by
 have hf:=(all_cons.1 h).1
 have hz:=hf.size
 have G:=gsem_ok (SB:=no) (own_at F sp) h (by simp [known,hz]) hs
 refine fun s hv=>⟨(G s hv).1,fun fs s' hr=> ?_⟩
 obtain ⟨k,v,hd⟩:=(G s hv).2 fs s' hr
 rcases hd with ⟨hA,g,x,hg,rfl⟩ | ⟨_,hw⟩
 · have hl:g<S.funcs.size:=(all_cons.1 hA).1.size
   exact absurd hl (of_decide_eq_false hg)
 · refine ⟨k,v,⟨_,rfl⟩,fun w es hwr hag=> ?_⟩
   obtain ⟨b,w',u,r,⟨_,q⟩,g⟩:=hw w es hwr hag
   rcases q with ⟨rfl,_⟩ | ⟨x,rfl,rfl⟩
   · exact ⟨_,w',u,r,rfl,g⟩
   · exact ⟨_,w',u,r,rfl,g⟩
def zqs (sp:FuncId):Question -> Bool
 | .order f _=>f==sp
 | _=>false
def zf (sp:FuncId) (τ:Nat -> Question -> Nat):Nat -> Question -> Nat:=fun i q=>if zqs sp q=true then 0 else τ i q
theorem zf_zt (sp:FuncId) (τ:Nat -> Question -> Nat):Zt (zqs sp) (zf sp τ):=fun i q h=>by simp [zf,h]
theorem zf_agr (sp:FuncId) (τ:Nat -> Question -> Nat) (i:Nat) (q:Question) (h:∀j,q≠ .order sp j):zf sp τ i q=τ i q:=by
 unfold zf
 rw [if_neg]
 intro hq
 cases q with
 | order f j=>
   have e:f=sp:=by simpa [zqs] using hq
   subst e
   exact h j rfl
 | _=>cases hq
theorem Okk.localZ {sp:FuncId} {α:Type} {x:Sem α} (h:Okk sp S S no Eq x x) {s:World} (hs:Sh no s) {a:α} {s' :World} (hr:x.run S s= .ok a s'):
   ∃d',x.run S (tp s (zf sp s.tape) s.drawn)= .ok a (tp s' (zf sp s.tape) d'):=by
 obtain ⟨k,v,_,hw⟩:=(h s hs).2 a s' hr
 obtain ⟨b,w',u,r,e,g⟩:=hw (tp s (zf sp s.tape) s.drawn) #[] (wr_self hs _ _) fun i q hz _=>zf_agr sp s.tape _ q hz
 subst e
 rw [Sem.runT_eq] at r
 have r1:=congrArg Prod.fst r
 simp only at r1
 refine ⟨w'.drawn,?_⟩
 rw [r1]
 congr 1
 obtain ⟨_,v',_⟩:=(h (tp s (zf sp s.tape) s.drawn) (hs.tp _ _)).2 a w' r1
 have hh:w'.heap=s'.heap:=by
   apply Array.ext_getElem?
   intro b
   rcases g.wr.same b (fun h=>h) with ⟨e,_⟩ | ⟨t,a,e1,e2⟩ | ⟨o,e1,e2,e3⟩
   · exact e.symm
   · have:=v'.dv _ _ _ e2
     subst this
     rw [e1,e2]
   · rcases e3 with ⟨l,rfl⟩ | ⟨c,t,rfl⟩
     · exact absurd e2 (v'.nl.1 _ _)
     · exact absurd e2 (v'.nl.2 _ _ _)
 have h2:=g.kept.tape
 have h3:=g.kept.os
 have h4:=g.kept.out
 have k3:=k.os
 have k4:=k.out
 obtain ⟨a1,a2,a3,a4,a5⟩:=w'
 obtain ⟨b1,b2,b3,b4,b5⟩:=s'
 simp only [tp] at*
 simp only [World.mk.injEq]
 exact ⟨hh,h2,trivial,h3.trans k3.symm,h4.trans k4.symm⟩
structure Kq (S:Program) (zq:Question -> Bool) (K:List Frame -> World -> Prop):Prop where
 next:∀{fs fs1:List Frame} {s s1:World} {τ:Nat -> Question -> Nat} {d:Nat},K fs s -> Zt zq τ -> (gsem S fs).run S (Lo.tp s τ d)= .ok fs1 s1 -> K fs1 s1
 tp:∀{fs:List Frame} {s:World} {τ:Nat -> Question -> Nat} {d:Nat},K fs (Lo.tp s τ d) -> K fs s
theorem kq_bar {zq:Question -> Bool} {E:List Frame -> World -> Prop} (hE:EndsOk S E):Kq S zq (BarZ S zq E):=⟨fun h hz hr=>h.next hE hz hr,fun h=>BarZ.of_tp hE h⟩
theorem Kq.and {zq:Question -> Bool} {K K' :List Frame -> World -> Prop} (h:Kq S zq K) (h' :Kq S zq K'):Kq S zq fun fs s=>K fs s /\ K' fs s:=⟨fun k hz hr=>⟨h.next k.1 hz hr,h'.next k.2 hz hr⟩,fun k=>⟨h.tp k.1,h'.tp k.2⟩⟩
theorem kq_rec (F:Own S) (zq:Question -> Bool) {fs0:List Frame} {s0:World} (hwf:WF S fs0 s0):Kq S zq (Rec S fs0 s0):=⟨fun h _ hr=>h.step F hwf hr,fun h=>h⟩
inductive DescZ (S:Program) (zq:Question -> Bool) (fs0:List Frame) (s0:World):List Frame -> World -> Prop
 | one {fs1:List Frame} {s1:World} {τ:Nat -> Question -> Nat} {d:Nat}:Zt zq τ -> (gsem S fs0).run S (Lo.tp s0 τ d)= .ok fs1 s1 -> DescZ S zq fs0 s0 fs1 s1
 | more {fs fs1:List Frame} {s s1:World} {τ:Nat -> Question -> Nat} {d:Nat}:DescZ S zq fs0 s0 fs s -> Zt zq τ -> (gsem S fs).run S (Lo.tp s τ d)= .ok fs1 s1 -> DescZ S zq fs0 s0 fs1 s1
 | tp {fs:List Frame} {s:World} {τ:Nat -> Question -> Nat} {d:Nat}:DescZ S zq fs0 s0 fs (Lo.tp s τ d) -> DescZ S zq fs0 s0 fs s
theorem DescZ.from_tp {zq:Question -> Bool} {fs0 fs:List Frame} {s0 s:World} {τ:Nat -> Question -> Nat} {d:Nat} (h:DescZ S zq fs0 s0 fs s):DescZ S zq fs0 (Lo.tp s0 τ d) fs s:=by
 induction h with
 | one hz hr=>exact .one hz (by rw [tp_tp];exact hr)
 | more _ hz hr ih=>exact .more ih hz hr
 | tp _ ih=>exact .tp ih
theorem barZ_ind {zq:Question -> Bool} {E:List Frame -> World -> Prop} (hE:EndsOk S E) {P:List Frame -> World -> Prop} (hP:∀fs s,BarZ S zq E fs s -> (∀fs' s',DescZ S zq fs s fs' s' -> P fs' s') -> P fs s) {fs:List Frame} {s:World} (h:BarZ S zq E fs s):P fs s:=by
 have key:∀{fs:List Frame} {s:World},BarZ S zq E fs s -> ∀fs' s',DescZ S zq fs s fs' s' -> P fs' s':=by
   intro fs s h
   induction h with
   | @stop fs s he=>
     intro fs' s' hd
     exfalso
     induction hd with
     | one _ h=>exact hE.stuck _ _ he _ _ ⟨_,_,h⟩
     | more _ _ _ ih=>exact ih
     | tp _ ih=>exact ih
   | @step fs s h1 h2 ih=>
     intro fs' s' hd
     have:∃τ d fs1 s1,Zt zq τ /\ (gsem S fs).run S (Lo.tp s τ d)= .ok fs1 s1 /\ ((fs' =fs1 /\ ∃τ' d',Lo.tp s' τ' d' =s1) \/ DescZ S zq fs1 s1 fs' s'):=by
       clear ih h1 h2
       induction hd with
       | one hz h=>exact ⟨_,_,_,_,hz,h,.inl ⟨rfl,_,_,rfl⟩⟩
       | @more fsa fsb sa sb τa da _ hz h ih=>
         obtain ⟨τ,d,fs1,s1,k1,k2,k3⟩:=ih
         refine ⟨τ,d,fs1,s1,k1,k2,.inr ?_⟩
         rcases k3 with ⟨rfl,τ',d',rfl⟩ | k3
         · exact .one (τ:=τa) (d:=da) hz (by rw [tp_tp];exact h)
         · exact .more k3 hz h
       | @tp fsa sa τa da _ ih=>
         obtain ⟨τ,d,fs1,s1,k1,k2,k3⟩:=ih
         refine ⟨τ,d,fs1,s1,k1,k2,?_⟩
         rcases k3 with ⟨rfl,τ',d',e⟩ | k3
         · exact .inl ⟨rfl,τ',d',e⟩
         · exact .inr (.tp k3)
     obtain ⟨τ,d,fs1,s1,k1,k2,k3⟩:=this
     rcases k3 with ⟨rfl,τ',d',rfl⟩ | k3
     · exact hP _ _ (BarZ.of_tp hE (h2 τ d _ _ k1 k2)) fun fs2 s2 hd2=>ih τ d _ _ k1 k2 _ _ hd2.from_tp
     · exact ih τ d _ _ k1 k2 _ _ k3
 exact hP fs s h fun fs' s' hd=>key h fs' s' hd
theorem rc_zero (F:Own S) {sp:FuncId} {E K:List Frame -> World -> Prop} (hE:EndsOk S E) (hK:Kq S (zqs sp) K) (hno:∀x cs s,Bar S E (Frame.enter S sp x .normal::cs) s -> False) {fs0 fs:List Frame} {s0 s:World}
   (hwf:WF S fs0 s0) (h0:∀f∈fs0,f.fn≠sp) (hB:Bar S E fs0 s0) (hr:Rc S fs0 s0 fs s):
   (∀f∈fs,f.fn≠sp) /\ WF S fs s /\ ∀base,K (fs0++base) s0 -> K (fs++base) s:=by
 induction hr with
 | refl=>exact ⟨h0,hwf,fun _ h=>h⟩
 | @step fs1 fs2 s1 s2 τ d hr h1 ih=>
   obtain ⟨a1,a2,a3⟩:=ih
   have hB2:=(Rc.bar hE hB hr).next hE h1
   cases fs1 with
   | nil=>exact absurd h1 (gsem_nil _ _ _)
   | cons f cs=>
     refine ⟨?_,⟨((a2.tp τ d).local F h1).1.all,((a2.tp τ d).local F h1).1.sh⟩,fun base hb=> ?_⟩
     · rcases gsem_top h1 with ht | ⟨g,y,rfl⟩
       · intro fr hfr
         obtain ⟨f0,h2,e⟩:=ht fr hfr
         rw [e];exact a1 f0 h2
       · intro fr hfr
         rcases List.mem_cons.1 hfr with rfl | hfr
         · intro e
           have e' :g=sp:=e
           subst e'
           exact hno _ _ _ hB2
         · exact a1 fr hfr
     · obtain ⟨d',h2⟩:=(gsem_z F (sp:=sp) a2.all (a1 f List.mem_cons_self)).localZ (a2.tp τ d).sh h1
       rw [tp_tp] at h2
       exact hK.tp (hK.next (a3 base hb) (zf_zt sp _) (gsem_app h2 base))
end
end Lo
end Go.Proofs.YtfphigmeppdocaaGreat
namespace Go.Proofs.YtfphigmeppdocaaGreat
namespace Lo
def fr (T:Array Value) (k:List Item):Frame:={fn:=52,tmps:=T,todo:=k,defers:=[],mode:= .run,kind:= .normal,roundOf:=none }
theorem enterS (x:Array Value):Frame.enter Seq.prog 52 x .normal=fr (x++Array.replicate (8-x.size) undef) [.code bodyS]:=by
 simp [Frame.enter,seq_sp,fr,fS]
section
variable {T:Array Value} {k:List Item} {cs:List Frame} {s s' :World} {ops:Array Oper} {o:Oper} {i:Nat} {l:List Nat} {v:Value}
theorem s_seq {a b:Code}:(gsem Seq.prog (fr T (.code (.seq a b)::k)::cs)).run Seq.prog s= .ok (fr T (.code a:: .code b::k)::cs) s:=rfl
theorem s_reg {id:Nat}:(gsem Seq.prog (fr T (.code (.region id ops false)::k)::cs)).run Seq.prog s= .ok (fr T (.inRegion ops (List.range ops.size)::k)::cs) s:=rfl
theorem s_end:(gsem Seq.prog (fr T (.inRegion ops []::k)::cs)).run Seq.prog s= .ok (fr T k::cs) s:=rfl
theorem s_ret:(gsem Seq.prog (fr T (.code .ret::k)::cs)).run Seq.prog s= .ok ({fr T (.code .ret::k) with mode:= .returning }::cs) s:=rfl
theorem s_cond {c:Operand} {a b:Code} {x:Bool} (h:(fr T (.code (.cond c a b)::k)).eval c= .bool x):(gsem Seq.prog (fr T (.code (.cond c a b)::k)::cs)).run Seq.prog s= .ok (fr T (.code (if x then a else b)::k)::cs) s:=by
 have:gsem Seq.prog (fr T (.code (.cond c a b)::k)::cs)=pure (fr T (.code (if x then a else b)::k)::cs):=by
   unfold gsem
   show (match (fr T (.code (.cond c a b)::k)).eval c with | .bool x=>_ | _=>_)=_
   rw [h]
   rfl
 rw [this]
 rfl
theorem s_draw {id:Nat}:(gsem Seq.prog (fr T (.code (.region id ops true)::k)::cs)).run Seq.prog s= .ok (fr T (.inRegion ops (Region.schedule (Seq.prog.follows .mixedOrders) ops (s.tape s.drawn (.order 52 id)))::k)::cs) {s with drawn:=s.drawn+1 }:=by
 show (Sem.choose (.order 52 id) fun t=>Sem.pure (fr T (.inRegion ops (Region.schedule (Seq.prog.follows .mixedOrders) ops t)::k)::cs)).run Seq.prog s=_
 simp [Sem.run,Question.forced,Question.cut]
def putS (T:Array Value):Option Nat→Value→Array Value
 | some d,v=>T.setIfInBounds d v
 | none,_=>T
theorem fin_fr (ho:ops[i]? =some o):(fr T (.inRegion ops (i::l)::k)).finish v=fr (putS T o.dst v) (.inRegion ops l::k):=by
 unfold Frame.finish fr
 simp only [ho,Option.bind_some]
 cases o.dst<;>rfl
def evS (T:Array Value):Operand→Value:=(fr T []).eval
theorem ev_fr:(fr T k).eval=evS T:=funext fun x=>by cases x<;>rfl
theorem s_val (ho:ops[i]? =some o) (hg:o.guard=none) (hr:(execOp (evS T) o).run Seq.prog s= .ok (.value v) s'):(gsem Seq.prog (fr T (.inRegion ops (i::l)::k)::cs)).run Seq.prog s= .ok (fr (putS T o.dst v) (.inRegion ops l::k)::cs) s':=by
 have hw:Region.wanted o (yielded ops T)=true:=by simp [Region.wanted,hg]
 have:gsem Seq.prog (fr T (.inRegion ops (i::l)::k)::cs)=(execOp (evS T) o).bind fun n=>afterOp Seq.prog (fr T (.inRegion ops (i::l)::k)) cs n:=by
   unfold gsem
   show (match ops[i]? with | some o=>(if Region.wanted o (yielded ops T) then _ else _) | none=>_)=_
   rw [ho]
   simp only [hw,if_true,ev_fr]
   rfl
 rw [this,Sem.run_bind',hr]
 show Result.ok (_::cs) s' =_
 rw [fin_fr ho]
theorem s_skip (ho:ops[i]? =some o) (hg:o.guard=none) (hr:(execOp (evS T) o).run Seq.prog s= .ok .skip s'):(gsem Seq.prog (fr T (.inRegion ops (i::l)::k)::cs)).run Seq.prog s= .ok (fr (putS T o.dst undef) (.inRegion ops l::k)::cs) s':=by
 have hw:Region.wanted o (yielded ops T)=true:=by simp [Region.wanted,hg]
 have:gsem Seq.prog (fr T (.inRegion ops (i::l)::k)::cs)=(execOp (evS T) o).bind fun n=>afterOp Seq.prog (fr T (.inRegion ops (i::l)::k)) cs n:=by
   unfold gsem
   show (match ops[i]? with | some o=>(if Region.wanted o (yielded ops T) then _ else _) | none=>_)=_
   rw [ho]
   simp only [hw,if_true,ev_fr]
   rfl
 rw [this,Sem.run_bind',hr]
 show Result.ok (_::cs) s' =_
 rw [fin_fr ho]
theorem s_unw (ho:ops[i]? =some o) (hw:Region.wanted o (yielded ops T)=false):(gsem Seq.prog (fr T (.inRegion ops (i::l)::k)::cs)).run Seq.prog s= .ok (fr (putS T o.dst undef) (.inRegion ops l::k)::cs) s:=by
 have:gsem Seq.prog (fr T (.inRegion ops (i::l)::k)::cs)=pure (fr (putS T o.dst undef) (.inRegion ops l::k)::cs):=by
   unfold gsem
   show (match ops[i]? with | some o=>(if Region.wanted o (yielded ops T) then _ else _) | none=>_)=_
   rw [ho]
   simp only [hw,Bool.false_eq_true,if_false]
   rw [fin_fr ho]
 rw [this]
 rfl
theorem s_halt {h:Halt} (ho:ops[i]? =some o) (hw:Region.wanted o (yielded ops T)=true) (hr:(execOp (evS T) o).run Seq.prog s= .halt h s'):(gsem Seq.prog (fr T (.inRegion ops (i::l)::k)::cs)).run Seq.prog s= .halt h s':=by
 have:gsem Seq.prog (fr T (.inRegion ops (i::l)::k)::cs)=(execOp (evS T) o).bind fun n=>afterOp Seq.prog (fr T (.inRegion ops (i::l)::k)) cs n:=by
   unfold gsem
   show (match ops[i]? with | some o=>(if Region.wanted o (yielded ops T) then _ else _) | none=>_)=_
   rw [ho]
   simp only [hw,if_true,ev_fr]
   rfl
 rw [this,Sem.run_bind',hr]
 rfl
end
section
variable {E:List Frame→World→Prop} {zq:Question→Bool}
theorem bar_ok (hR:∀f cs s,f.mode= .run→¬E (f::cs) s) {f:Frame} {cs:List Frame} {s:World} (h:BarZ Seq.prog zq E (f::cs) s) (hm:f.mode= .run) {τ:Nat→Question→Nat} (hz:Zt zq τ) (d:Nat):∃fs1 s1,(gsem Seq.prog (f::cs)).run Seq.prog (tp s τ d)= .ok fs1 s1:=by
 cases h with
 | stop he=>exact absurd he (hR _ _ _ hm)
 | step h1 _=>exact h1 τ d hz
theorem mixedS:Seq.prog.follows .mixedOrders=true:=by kernel_rfl
theorem sched1:Region.schedule (Seq.prog.follows .mixedOrders) opsS1 1=[1,0]:=by rw [mixedS];decide+kernel
theorem sched0:Region.schedule (Seq.prog.follows .mixedOrders) opsS1 0=[0,1]:=by rw [mixedS];decide+kernel
def rest2:Code:= .cond (.tmp 6) (.region 3 opsS3 false) (.seq (.region 4 opsS4 false) .ret)
def rest1:Code:= .seq (.region 1 opsS1 true) rest2
structure Kl (K:List Frame→World→Prop):Prop where
 next:∀{fs fs1:List Frame} {s s1:World} {τ:Nat→Question→Nat} {d:Nat},K fs s→(gsem Seq.prog fs).run Seq.prog (tp s τ d)= .ok fs1 s1→K fs1 s1
 tp:∀{fs:List Frame} {s:World} {τ:Nat→Question→Nat} {d:Nat},K fs (tp s τ d)→K fs s
theorem kl_bar (hE:EndsOk Seq.prog E):Kl (BarZ Seq.prog (fun _=>false) E):=⟨fun h hr=>h.next hE (zt_no _) hr,fun h=>BarZ.of_tp hE h⟩
structure Kz (K:List Frame→World→Prop):Prop where
 next:∀{fs fs1:List Frame} {s s1:World} {d:Nat},K fs s→(gsem Seq.prog fs).run Seq.prog (tp s (fun _ _=>0) d)= .ok fs1 s1→K fs1 s1
 tp:∀{fs:List Frame} {s:World} {τ:Nat→Question→Nat} {d:Nat},K fs (tp s τ d)→K fs s
theorem Kl.z {K:List Frame→World→Prop} (h:Kl K):Kz K:=⟨fun k hr=>h.next k hr,h.tp⟩
theorem kz_q {K:List Frame→World→Prop} (h:Kq Seq.prog zq K):Kz K:=⟨fun k hr=>h.next k (zt_0 _) hr,h.tp⟩
theorem few (hE:EndsOk Seq.prog E) (hR:∀f cs s,f.mode= .run→¬E (f::cs) s) {x:Array Value} {cs:List Frame} {s:World} (h:BarZ Seq.prog zq E (Frame.enter Seq.prog 52 x .normal::cs) s):x.size≤8:=by
 rw [enterS] at h
 have h1:=h.next hE (τ:=fun _ _=>0) (d:=0) (zt_0 zq) s_seq
 have h2:=h1.next hE (τ:=fun _ _=>0) (d:=0) (zt_0 zq) s_reg
 have h3:=h2.next hE (τ:=fun _ _=>0) (d:=0) (zt_0 zq) (s_val (o:=oS0) rfl rfl rfl)
 apply Nat.le_of_not_lt
 intro hlt
 obtain ⟨fs1,s1,hr⟩:=bar_ok hR h3 rfl (zt_0 zq) 0
 have hx := s_halt (T := (x ++ Array.replicate (8 - x.size) undef).setIfInBounds 8 (.bool true)) (ops := opsS0) (i := 1) (l := [2]) (k := [.code rest1]) (cs := cs) (s := tp s (fun _ _ => 0) 0) (s' := tp s (fun _ _ => 0) 0) (h := .stuck "an address expected (no nilCheck in front?)") (o := oS1) rfl (by
   show (yielded opsS0 ((x++Array.replicate (8-x.size) undef).setIfInBounds 8 (.bool true)) 0==some true)=true
   have:((x++Array.replicate (8-x.size) undef).setIfInBounds 8 (.bool true))[8]? =some (.bool true):=by
     rw [Array.getElem?_setIfInBounds_self_of_lt (by simp;omega)]
   show ((match ((x++Array.replicate (8-x.size) undef).setIfInBounds 8 (.bool true))[8]? with | some (Value.bool b)=>some b | _=>none)==some true)=true
   rw [this]
   rfl) rfl
 cases hr.symm.trans hx
def T1 (x:Array Value):Array Value:=x++Array.replicate (8-x.size) undef
def T2 (x:Array Value):Array Value:=(T1 x).setIfInBounds 7 (.func (.func 77) ((#[.tmp 0,.tmp 1,.tmp 2,.tmp 3,.tmp 4,.tmp 5,.tmp 6,.tmp 7]:Array Operand).map (evS (T1 x))) ((#[]:Array Operand).map (evS (T1 x))))
theorem t1_size {x:Array Value} (hsz:x.size≤8):(T1 x).size=8:=by simp [T1];omega
theorem t2_size {x:Array Value} (hsz:x.size≤8):(T2 x).size=8:=by simp [T2,t1_size hsz]
theorem to_bit {K:List Frame→World→Prop} (hK:Kz K) {x:Array Value} (hsz:x.size≤8) {cs:List Frame} {s:World} (h:K (Frame.enter Seq.prog 52 x .normal::cs) s):K (fr (T2 x) [.code rest1]::cs) s:=by
 rw [enterS] at h
 have h1:=hK.next (d:=0) h s_seq
 have h2:=hK.next (d:=0) h1 s_reg
 have h3:=hK.next (d:=0) h2 (s_val (o:=oS0) rfl rfl rfl)
 have hT:(x++Array.replicate (8-x.size) undef).size=8:=by simp;omega
 have hset:(x++Array.replicate (8-x.size) undef).setIfInBounds 8 (.bool true)=x++Array.replicate (8-x.size) undef:=by
   apply Array.ext_getElem?
   intro i
   by_cases e:i=8
   · subst e
     rw [Array.getElem?_eq_none (by simp [hT]),Array.getElem?_eq_none (by omega)]
   · rw [Array.getElem?_setIfInBounds_ne (Ne.symm e)]
 have h3' :K (fr (x++Array.replicate (8-x.size) undef) (.inRegion opsS0 [1,2]::[.code rest1])::cs) (tp s (fun _ _=>0) 0):=by
   have:putS (x++Array.replicate (8-x.size) undef) oS0.dst (.bool true)=x++Array.replicate (8-x.size) undef:=hset
   rw [←this]
   exact h3
 have h4:=hK.next (d:=0) h3' (s_unw (o:=oS1) rfl (by
   show (yielded opsS0 (x++Array.replicate (8-x.size) undef) 0==some true)=false
   show ((match (x++Array.replicate (8-x.size) undef)[8]? with | some (Value.bool b)=>some b | _=>none)==some true)=false
   rw [Array.getElem?_eq_none (by omega)]
   rfl))
 have h5:=hK.next (d:=0) h4 (s_val (o:=oS2) rfl rfl rfl)
 have h6:=hK.next (d:=0) h5 s_end
 exact hK.tp h6
end
end Lo
end Go.Proofs.YtfphigmeppdocaaGreat
namespace Go.Proofs.YtfphigmeppdocaaGreat
namespace Lo
theorem die_at {T:Array Value} {cs:List Frame} (s:World):∃v,(gsem Seq.prog (fr T [.inRegion opsS3 [1]]::cs)).run Seq.prog s= .halt (.panic v) s:=by
 refine ⟨_,s_halt (o:=oX1) rfl rfl rfl⟩
section
variable {E:List Frame -> World -> Prop}
theorem bit_one {K:List Frame -> World -> Prop} (hK:Kl K) {T:Array Value} (hT:T.size=8) {cs:List Frame} {s:World} (h:K (fr T [.code rest1]::cs) s):
   ∃T' s',K (fr T' [.inRegion opsS3 [1]]::cs) s' /\ s'.heap=s.heap.push (.cells (T.getD 7 undef).cells 3):=by
 have h1:=hK.next (τ:=fun _ _=>1) (d:=0) h s_seq
 have h2:=hK.next (τ:=fun _ _=>1) (d:=0) h1 s_draw
 rw [show Region.schedule (Seq.prog.follows .mixedOrders) opsS1 ((tp (tp s (fun _ _=>1) 0) (fun _ _=>1) 0).tape (tp (tp s (fun _ _=>1) 0) (fun _ _=>1) 0).drawn (.order 52 1))=[1,0] from sched1] at h2
 have h3:=hK.next (τ:=fun _ _=>1) (d:=0) h2 (s_val (o:=oB0) rfl rfl rfl)
 have h4:=hK.next (τ:=fun _ _=>1) (d:=0) h3 (s_val (o:=oB1) rfl rfl rfl)
 have h5:=hK.next (τ:=fun _ _=>1) (d:=0) h4 s_end
 have hb:((T.setIfInBounds 6 (.bool false)).setIfInBounds 6 (.bool true)).getD 6 undef= .bool true:=by
   simp [Array.getD_eq_getD_getElem?]
   intro h6
   omega
 have h6:=hK.next (τ:=fun _ _=>1) (d:=0) h5 (s_cond (x:=true) hb)
 have h7:=hK.next (τ:=fun _ _=>1) (d:=0) h6 s_reg
 have h8:=hK.next (τ:=fun _ _=>1) (d:=0) h7 (s_val (o:=oX0) rfl rfl rfl)
 have e7:((T.setIfInBounds 6 (.bool false)).setIfInBounds 6 (.bool true)).getD 7 undef=T.getD 7 undef:=by
   simp [Array.getD_eq_getD_getElem?,Array.getElem?_setIfInBounds_ne]
 refine ⟨_,_,h8,?_⟩
 rw [<- e7]
 rfl
theorem no_sp {Q:Value -> Array Obj -> Prop} {x:Array Value} {cs:List Frame} {s:World} (h:Bar Seq.prog (RetQ Seq.prog Q) (Frame.enter Seq.prog 52 x .normal::cs) s):False:=by
 have hR:∀(f:Frame) cs s,f.mode= .run -> ¬RetQ Seq.prog Q (f::cs) s:=by
   rintro f cs s hm ⟨fr,e,hm',_⟩
   cases e
   rw [hm] at hm';cases hm'
 have hx:=few (retQ_ok _ _) hR (h.toZ (zq:=fun _=>false))
 obtain ⟨T',s',h2,_⟩:=bit_one (kl_bar (retQ_ok _ _)) (t2_size hx) (to_bit (kl_bar (retQ_ok _ _)).z hx h.toZ)
 obtain ⟨fs1,s1,hr⟩:=bar_ok hR h2 rfl (zt_no s'.tape) s'.drawn
 obtain ⟨v,hv⟩:=die_at (T:=T') (cs:=cs) (tp s' s'.tape s'.drawn)
 cases hr.symm.trans hv
end
end Lo
end Go.Proofs.YtfphigmeppdocaaGreat
namespace Go.Proofs.YtfphigmeppdocaaGreat
namespace Lo
set_option maxRecDepth 20000 in
theorem made0 {T:Array Value} {o:Oper} {w:World} (hop:o.op= .makeSlice 104 (.tmp 2) (.tmp 2)) (h2:evS T (.tmp 2)= .int .i64 1):
   (execOp (evS T) o).run Seq.prog w= .ok (.value (.slice (some ⟨w.heap.size,0,none⟩) 1 1)) (w.alloc (.cells (madeCells #[.slice none 0 0] 1) 99)):=by
 have eb:Tryz.t99.bytes=24:=by kernel_rfl
 have hm:=run_make (P:=Seq.prog) w 104 99 Tryz.t99 (.slice none 0 0) Tryz.underlying104 Tryz.type99 (by kernel_rfl) .i64 .i64 (1:Int) (1:Int) (by omega) (by omega) (by rw [eb];omega) (by omega)
 have es:Tryz.t99.size=1:=by kernel_rfl
 rw [es] at hm
 unfold execOp
 simp only [hop,h2]
 simp [go_sem,hm,Value.cells]
theorem seq_send:Seq.prog.funcs[77]? =some Tryz.f77:=by
 show (mask _ _ _ _).funcs[77]? =_
 rw [mask_get,Tryz.func77]
 rfl
theorem s_enter {T:Array Value} {k:List Item} {cs:List Frame} {s s' :World} {ops:Array Oper} {o:Oper} {i:Nat} {l:List Nat} {f:FuncId} {x:Array Value} (ho:ops[i]? =some o) (hg:o.guard=none) (hr:(execOp (evS T) o).run Seq.prog s= .ok (.enter f x) s'):
   (gsem Seq.prog (fr T (.inRegion ops (i::l)::k)::cs)).run Seq.prog s= .ok (Frame.enter Seq.prog f x .normal::fr T (.inRegion ops (i::l)::k)::cs) s':=by
 have hw:Region.wanted o (yielded ops T)=true:=by simp [Region.wanted,hg]
 have:gsem Seq.prog (fr T (.inRegion ops (i::l)::k)::cs)=(execOp (evS T) o).bind fun n=>afterOp Seq.prog (fr T (.inRegion ops (i::l)::k)) cs n:=by
   unfold gsem
   show (match ops[i]? with | some o=>(if Region.wanted o (yielded ops T) then _ else _) | none=>_)=_
   rw [ho]
   simp only [hw,if_true,ev_fr]
   rfl
 rw [this,Sem.run_bind',hr]
 rfl
theorem call_send {T:Array Value} {o:Oper} {w:World} {args:Array Operand} {ts:Array TypeId} (hop:o.op= .call {callee:= .value (.func 77),args:=args,argTypes:=ts }):
   (execOp (evS T) o).run Seq.prog w= .ok (.enter 77 (args.map (evS T))) w:=by
 have he:evS T=(⟨T,[]⟩:Act).eval:=funext fun x=>by cases x<;>rfl
 rw [he]
 exact Go.Conc.run_call_body (P:=Seq.prog) (a:=⟨T,[]⟩) hop seq_send (by kernel_rfl) (by kernel_rfl)
section
variable {E:List Frame -> World -> Prop} {zq:Question -> Bool}
theorem set6 {T:Array Value} {a b:Value} {j:Nat} (hj:j≠6):evS ((T.setIfInBounds 6 a).setIfInBounds 6 b) (.tmp j)=evS T (.tmp j):=by
 show ((T.setIfInBounds 6 a).setIfInBounds 6 b).getD j undef=T.getD j undef
 simp [Array.getD_eq_getD_getElem?,Array.getElem?_setIfInBounds_ne (Ne.symm hj)]
theorem bit_zero {K:List Frame -> World -> Prop} (hK:Kz K) {T:Array Value} (hT:T.size=8) (h2:evS T (.tmp 2)= .int .i64 1) {cs:List Frame} {s:World} (h:K (fr T [.code rest1]::cs) s):
   ∃T' s0,K (Frame.enter Seq.prog 77 #[evS T (.tmp 0),evS T (.tmp 1),.int .i64 0,.int .i64 1] .normal::fr T' [.inRegion opsS4 [7,8,9],.code .ret]::cs) s0 /\ T'.size=8 /\ evS T' (.tmp 3)= .slice (some ⟨s.heap.size+3,0,none⟩) 1 1 /\
     s0.heap=((((((s.heap.push (.cells #[] 99)).push (.cells #[] 101)).push (.cells #[] 3)).push (.cells (madeCells #[.slice none 0 0] 1) 99)).push (.cells #[] 104)).push (.cells #[] 141)).push (.cells #[] 3):=by
 have h1:=hK.next (d:=0) h s_seq
 have h2':=hK.next (d:=0) h1 s_draw
 rw [show Region.schedule (Seq.prog.follows .mixedOrders) opsS1 ((tp (tp s (fun _ _=>0) 0) (fun _ _=>0) 0).tape (tp (tp s (fun _ _=>0) 0) (fun _ _=>0) 0).drawn (.order 52 1))=[0,1] from sched0] at h2'
 have h3:=hK.next (d:=0) h2' (s_val (o:=oB1) rfl rfl rfl)
 have h4:=hK.next (d:=0) h3 (s_val (o:=oB0) rfl rfl rfl)
 have h5:=hK.next (d:=0) h4 s_end
 have hb:((T.setIfInBounds 6 (.bool true)).setIfInBounds 6 (.bool false)).getD 6 undef= .bool false:=by
   simp [Array.getD_eq_getD_getElem?]
   intro h6
   omega
 have h6:=hK.next (d:=0) h5 (s_cond (x:=false) hb)
 have h7:=hK.next (d:=0) h6 s_seq
 have h8:=hK.next (d:=0) h7 s_reg
 have h9:=hK.next (d:=0) h8 (s_val rfl rfl rfl)
 have h10:=hK.next (d:=0) h9 (s_val rfl rfl rfl)
 have h11:=hK.next (d:=0) h10 (s_val rfl rfl rfl)
 have h12:=hK.next (d:=0) h11 (s_val rfl rfl (made0 rfl ((set6 (T:=T) (by decide)).trans h2)))
 have h13:=hK.next (d:=0) h12 (s_val rfl rfl rfl)
 have h14:=hK.next (d:=0) h13 (s_val rfl rfl rfl)
 have h15:=hK.next (d:=0) h14 (s_val rfl rfl rfl)
 have h16:=hK.next (d:=0) h15 (s_enter rfl rfl (call_send rfl))
 have ex:∀v:Value,(#[.tmp 0,.tmp 1,.const (.int .i64 0),.const (.int .i64 1)]:Array Operand).map (evS (((T.setIfInBounds 6 (.bool true)).setIfInBounds 6 (.bool false)).setIfInBounds 3 v))=#[evS T (.tmp 0),evS T (.tmp 1),.int .i64 0,.int .i64 1]:=by
   intro v
   have e:∀j,j≠3 -> j≠6 -> evS (((T.setIfInBounds 6 (.bool true)).setIfInBounds 6 (.bool false)).setIfInBounds 3 v) (.tmp j)=evS T (.tmp j):=fun j h3 h6=>by
     rw [<- set6 (T:=T) (a:= .bool true) (b:= .bool false) h6]
     show (((T.setIfInBounds 6 (.bool true)).setIfInBounds 6 (.bool false)).setIfInBounds 3 v).getD j undef=((T.setIfInBounds 6 (.bool true)).setIfInBounds 6 (.bool false)).getD j undef
     simp [Array.getD_eq_getD_getElem?,Array.getElem?_setIfInBounds_ne (Ne.symm h3)]
   rw [<- e 0 (by decide) (by decide),<- e 1 (by decide) (by decide)]
   simp only [List.map_toArray,List.map_cons,List.map_nil]
   rfl
 refine ⟨_,_,ex _▸h16,?_,?_,rfl⟩
 · simp [putS,opsS4,op1,oB0,oB1,hT]
 · show ((((T.setIfInBounds 6 (.bool true)).setIfInBounds 6 (.bool false)).setIfInBounds 3 _).getD 3 undef)=_
   simp [Array.getD_eq_getD_getElem?,hT,tp]
end
end Lo
end Go.Proofs.YtfphigmeppdocaaGreat
namespace Go.Proofs.YtfphigmeppdocaaGreat
namespace Crw
open Go.Conc Go.ConcN
open Go.ConcR (KK wgBlock WgAt stA smA rd wr mk Payload DC0)
def lowT (B:Nat) (x:MemAct):Prop:=∀a,x.touch? =some a -> a.loc.low B
theorem lowT.mono {B B' :Nat} (h:B <= B') {x:MemAct} (hx:lowT B x):lowT B' x:=fun a ha=>Loc.low_mono h (hx a ha)
theorem seenT {B:Nat} {t u:Trace} (h:∀op∈t,lowT B op.act) (hu:∀op∈u,lowT B op.act):∀op∈t++u,lowT B op.act:=fun op hop=>(Array.mem_append.1 hop).elim (h op) (hu op)
theorem lowT_none {B:Nat} {x:MemAct} (h:x.touch? =none):lowT B x:=fun a ha=>by rw [h] at ha;cases ha
theorem touch_op {t:Trace} {i:Nat} {a:Touch} (h:touchAt t i=some a):∃op,t[i]? =some op /\ op.act.touch? =some a:=touch_of h
section
variable {Sh Sh' :Loc -> Prop} {Own Own' Rd Rd' :Nat -> Loc -> Prop} {t u:Trace} {j J B:Nat}
theorem ct_grow (h:CT Sh Own Rd t j) (hS:∀l,Sh l -> Sh' l) (hS' :∀i a,touchAt t i=some a -> Sh' a.loc -> Sh a.loc)
   (hO:∀k,1 <= k -> k <= j -> ∀l,Own' k l -> Own k l \/ ∀i a,touchAt t i=some a -> a.loc≠l) (hR:∀k,1 <= k -> k <= j -> ∀l,Rd' k l -> Rd k l)
   (hO' :∀k,1 <= k -> k <= j -> ∀l,Own k l -> Own' k l) (hR' :∀k,1 <= k -> k <= j -> ∀l,Rd k l -> Rd' k l):CT Sh' Own' Rd' t j:=by
 refine ⟨fun i op x ho hx hs=>h.quiet i op x ho hx (hS' i x (by rw [touchAt_of ho];exact hx) hs),fun k k1 kj l hl=> ?_,fun k k1 kj l hl=>h.rd k k1 kj l (hR k k1 kj l hl),
   fun l hs hl=>h.free l (fun x=>hs (hS l x)) fun k k1 kj=>⟨fun x=>(hl k k1 kj).1 (hO' k k1 kj l x),fun x=>(hl k k1 kj).2 (hR' k k1 kj l x)⟩,
   fun l hs hl=>h.mine l (fun x=>hs (hS l x)) fun k k1 kj x=>hl k k1 kj (hO' k k1 kj l x),h.nr,h.gs⟩
 rcases hO k k1 kj l hl with h1 | h1
 · exact h.own k k1 kj l h1
 · exact fun i a ha e=>absurd e (h1 i a ha)
structure Tr (Sh:Loc -> Prop) (Own Rd:Nat -> Loc -> Prop) (J j B:Nat) (t:Trace):Prop where
 ct:CT Sh Own Rd t j
 kn:∀i x g,t.g? i=some g -> g≠0 -> g <= J -> touchAt t i=some x -> ¬Sh x.loc -> Knows t 0 i
 ov:∀i g,t.g? i=some g -> g≠0 -> g <= J -> t.counts i -> ∃q,t.g? q=some 0 /\ HappensBefore t i q
 seen:∀op∈t,lowT B op.act
theorem Tr.mono {B' :Nat} (h:Tr Sh Own Rd J j B t) (hB:B <= B'):Tr Sh Own Rd J j B' t:=⟨h.ct,h.kn,h.ov,fun op hop=>(h.seen op hop).mono hB⟩
theorem Tr.fresh (h:Tr Sh Own Rd J j B t) {i:Nat} {a:Touch} (ha:touchAt t i=some a):a.loc.low B:=by
 obtain ⟨op,ho,hx⟩:=touch_op ha
 exact h.seen op (mem_of_getElem? ho) a hx
theorem Tr.grow (h:Tr Sh Own Rd J j B t) (hS:∀l,Sh l -> Sh' l) (hS' :∀i a,touchAt t i=some a -> Sh' a.loc -> Sh a.loc)
   (hO:∀k,1 <= k -> k <= j -> ∀l,Own' k l -> Own k l \/ ∀i a,touchAt t i=some a -> a.loc≠l) (hR:∀k,1 <= k -> k <= j -> ∀l,Rd' k l -> Rd k l)
   (hO' :∀k,1 <= k -> k <= j -> ∀l,Own k l -> Own' k l) (hR' :∀k,1 <= k -> k <= j -> ∀l,Rd k l -> Rd' k l):Tr Sh' Own' Rd' J j B t:=
 ⟨ct_grow h.ct hS hS' hO hR hO' hR',fun i x g h1 h2 h3 h4 h5=>h.kn i x g h1 h2 h3 h4 fun y=>h5 (hS _ y),h.ov,h.seen⟩
theorem kn_app (h:∀i x g,t.g? i=some g -> g≠0 -> g <= J -> touchAt t i=some x -> ¬Sh x.loc -> Knows t 0 i) (hu:∀op∈u,op.g=0 \/ J<op.g \/ op.act.touch? =none):
   ∀i x g,(t++u).g? i=some g -> g≠0 -> g <= J -> touchAt (t++u) i=some x -> ¬Sh x.loc -> Knows (t++u) 0 i:=by
 intro i x g hg hne hJ hx hs
 obtain ⟨op,ho,hox⟩:=touch_op hx
 rcases getElem?_append_cases ho with ⟨hi,ho'⟩ | ⟨_,hou⟩
 · exact (h i x g (by rw [<- g?_old (u:=u) hi];exact hg) hne hJ (by rw [touchAt_of ho'];exact hox) hs).app u
 · have hgo:op.g=g:=by simpa [Trace.g?,ho] using hg
   rcases hu op hou with h0 | h0 | h0
   · omega
   · omega
   · rw [h0] at hox;cases hox
theorem ov_app (h:∀i g,t.g? i=some g -> g≠0 -> g <= J -> t.counts i -> ∃q,t.g? q=some 0 /\ HappensBefore t i q) (hu:∀op∈u,op.g=0 \/ J<op.g \/ op.act.touch? =none):
   ∀i g,(t++u).g? i=some g -> g≠0 -> g <= J -> (t++u).counts i -> ∃q,(t++u).g? q=some 0 /\ HappensBefore (t++u) i q:=by
 intro i g hg hne hJ hc
 obtain ⟨x,hx,hx2⟩:=hc
 obtain ⟨op,ho,hox⟩:=touch_of hx
 rcases getElem?_append_cases ho with ⟨hi,ho'⟩ | ⟨_,hou⟩
 · obtain ⟨q,hq,hb⟩:=h i g (by rw [<- g?_old (u:=u) hi];exact hg) hne hJ ((counts_old hi).1 ⟨x,hx,hx2⟩)
   have hql:q<t.size:=by
     unfold Trace.g? at hq
     obtain ⟨z,hz,_⟩:=Option.map_eq_some_iff.1 hq
     exact lt_size_of_getElem? hz
   exact ⟨q,by rw [g?_old hql];exact hq,hb_app u hb⟩
 · have hgo:op.g=g:=by simpa [Trace.g?,ho] using hg
   rcases hu op hou with h0 | h0 | h0
   · omega
   · omega
   · rw [h0] at hox;cases hox
theorem Tr.app0 (A:Apart Sh Own Rd) (h:Tr Sh Own Rd J j B t) (hu:∀op∈u,Ok0 Sh Own Rd j op) (hl:∀op∈u,lowT B op.act):Tr Sh Own Rd J j B (t++u):=
 ⟨h.ct.app0 A hu,kn_app h.kn fun op hop=> .inl (hu op hop).1,ov_app h.ov fun op hop=> .inl (hu op hop).1,seenT h.seen hl⟩
theorem Tr.appW (A:Apart Sh Own Rd) (h:Tr Sh Own Rd J j B t) {k:Nat} (k1:J<k) (kj:k <= j) (hu:∀op∈u,OkW Sh Own Rd k op) (hl:∀op∈u,lowT B op.act):Tr Sh Own Rd J j B (t++u):=
 ⟨h.ct.appW A (by omega) kj hu,kn_app h.kn fun op hop=> .inr (.inl (by rw [(hu op hop).1];exact k1)),ov_app h.ov fun op hop=> .inr (.inl (by rw [(hu op hop).1];exact k1)),seenT h.seen hl⟩
theorem Tr.mute (A:Apart Sh Own Rd) (h:Tr Sh Own Rd J j B t) {k:Nat} (k1:1 <= k) (kj:k <= j) (hg:∀op∈u,op.g=k) (hn:∀op∈u,op.act.touch? =none):Tr Sh Own Rd J j B (t++u):=
 ⟨h.ct.appW A k1 kj fun op hop=>⟨hg op hop,fun x hx=>by rw [hn op hop] at hx;cases hx⟩,kn_app h.kn fun op hop=> .inr (.inr (hn op hop)),ov_app h.ov fun op hop=> .inr (.inr (hn op hop)),seenT h.seen fun op hop=>lowT_none (hn op hop)⟩
theorem Tr.fork (A:Apart Sh Own Rd) (h:Tr Sh Own Rd J j B t) {x y:MemOp} (hx:x.g=0 /\ x.act= .go (j+1)) (hy:y.g=j+1 /\ y.act= .start) (h0:Deaf t 0=0):Tr Sh Own Rd J (j+1) B (t++#[x,y]):=by
 have hn:∀op∈#[x,y],op.act.touch? =none:=by
   intro op hop
   simp only [List.mem_toArray,List.mem_cons,List.not_mem_nil,or_false] at hop
   rcases hop with rfl | rfl
   · rw [hx.2];rfl
   · rw [hy.2];rfl
 exact ⟨h.ct.fork A hx hy h0,kn_app h.kn fun op hop=> .inr (.inr (hn op hop)),ov_app h.ov fun op hop=> .inr (.inr (hn op hop)),seenT h.seen fun op hop=>lowT_none (hn op hop)⟩
structure Rel (Sh:Loc -> Prop) (a:Addr) (t:Trace) (k r:Nat):Prop where
 by_:RelBy a t k r
 late:∀i x,r<i -> t.g? i=some k -> touchAt t i=some x -> Sh x.loc
theorem Rel.app {a:Addr} {k r:Nat} (h:Rel Sh a t k r) (hr:RelBy a (t++u) k r) (hu:∀op∈u,op.g=k -> ∀x,op.act.touch? =some x -> Sh x.loc):Rel Sh a (t++u) k r:=by
 refine ⟨hr,fun i x hi hg hx=> ?_⟩
 obtain ⟨op,ho,hox⟩:=touch_op hx
 rcases getElem?_append_cases ho with ⟨hlt,ho'⟩ | ⟨_,hou⟩
 · exact h.late i x hi (by rw [<- g?_old (u:=u) hlt];exact hg) (by rw [touchAt_of ho'];exact hox)
 · exact hu op hou (by simpa [Trace.g?,ho] using hg) x hox
theorem Tr.back (h:Tr Sh Own Rd J j B t) {a:Addr} {q T0:Nat} (hn:∀i,T0 <= i -> t.act? i≠some (.mark (.release a))) (hq:t.act? q=some (.mark (.acquire a))) (hg:t.g? q=some 0) (hh:t.heard q)
   (hr:∀k,J<k -> k <= j -> ∃r,T0 <= r /\ Rel Sh a t k r /\ r<q):Tr Sh (fun _ _=>False) (fun _ _=>False) j j B t:=by
 have edge:∀k r,T0 <= r -> Rel Sh a t k r -> r<q -> HappensBefore t r q:=fun k r h0 hr hrq=> .single (.inr ⟨.marked hrq (.inr hr.by_.act) hq (fun k hk _=>hn k (by omega)),hr.by_.heard,hh⟩)
 obtain ⟨zq,hzq,hzg⟩:∃z,t[q]? =some z /\ z.g=0:=by
   unfold Trace.g? at hg
   obtain ⟨z,hz,e⟩:=Option.map_eq_some_iff.1 hg
   exact ⟨z,hz,e⟩
 have before:∀i k r,T0 <= r -> Rel Sh a t k r -> r<q -> t.g? i=some k -> i <= r -> HappensBefore t i q:=by
   intro i k r h0 hr hrq hgi hle
   rcases Nat.lt_or_ge i r with hlt | hge
   · exact .trans (.single (.inl ⟨hlt,k,hgi,hr.by_.g⟩)) (edge k r h0 hr hrq)
   · obtain rfl:i=r:=by omega
     exact edge k i h0 hr hrq
 have all:∀i x,touchAt t i=some x -> ¬Sh x.loc -> Knows t 0 i:=by
   intro i x hx hs
   obtain ⟨op,ho,hox⟩:=touch_op hx
   have hgi:t.g? i=some op.g:=by simp [Trace.g?,ho]
   by_cases h0:op.g=0
   · have:=knows_own ho;rwa [h0] at this
   · by_cases hJ:op.g <= J
     · exact h.kn i x op.g hgi h0 hJ hx hs
     · obtain ⟨r,h0r,hr,hrq⟩:=hr op.g (by omega) (h.ct.gs i op ho)
       have hle:i <= r:=Nat.le_of_not_lt fun hlt=>hs (hr.late i x hlt hgi hx)
       exact ⟨q,zq,hzq,hzg,.inr (before i op.g r h0r hr hrq hgi hle)⟩
 refine ⟨⟨h.ct.quiet,fun k _ _ l hl=>hl.elim,fun k _ _ l hl=>hl.elim,fun l hs _ i x hx e=>all i x hx (e▸hs),fun l hs _ i x hx e _=>all i x hx (e▸hs),h.ct.nr,h.ct.gs⟩,fun i x g _ _ _ hx hs=>all i x hx hs,fun i g hgi hne hj hc=> ?_,h.seen⟩
 by_cases hJ:g <= J
 · exact h.ov i g hgi hne hJ hc
 · obtain ⟨r,h0r,hr,hrq⟩:=hr g (by omega) hj
   have hle:i <= r:=Nat.le_of_not_lt fun hlt=>hr.by_.after i hlt hgi hc
   exact ⟨q,hg,before i g r h0r hr hrq hgi hle⟩
theorem Tr.start (h:Tr Sh (fun _ _=>False) (fun _ _=>False) j j B t):t.HandedOver:=fun i g hg hne hc=>by
 refine h.ov i g hg hne ?_ hc
 obtain ⟨x,hx,_⟩:=hc
 obtain ⟨op,ho,_⟩:=touch_of hx
 have:op.g=g:=by simpa [Trace.g?,ho] using hg
 have:=h.ct.gs i op ho
 omega
theorem apart_none:Apart Sh (fun _ _=>False) (fun _ _=>False):=⟨fun _ _ _ h=>h.elim,fun _ _ _ h=>h.elim,fun _ _ h=>h.elim,fun _ _ h=>h.elim⟩
theorem Tr.nil (Sh:Loc -> Prop) (B:Nat):Tr Sh (fun _ _=>False) (fun _ _=>False) 0 0 B #[]:=
 ⟨⟨fun i op x h=>by simp at h,fun _ _ _ _ h=>h.elim,fun _ _ _ _ h=>h.elim,fun l _ _ i a ha=>by simp [touchAt,Trace.act?] at ha,fun l _ _ i a ha=>by simp [touchAt,Trace.act?] at ha,
   fun said=>by rintro ⟨i,j,_,⟨a,b,ha,_⟩,_⟩;simp [Trace.act?] at ha,fun i op h=>by simp at h⟩,fun i x g hg=>by simp [Trace.g?] at hg,fun i g hg=>by simp [Trace.g?] at hg,by simp⟩
end
end Crw
end Go.Proofs.YtfphigmeppdocaaGreat
namespace Go.Proofs.YtfphigmeppdocaaGreat
namespace Crw
open Go.Conc Go.ConcN
open Go.ConcR (KK wgBlock WgAt stA smA rd wr mk Payload DC0 deafBehind_cons deafBehind_one)
def ShS (SB:Nat -> Prop):Loc -> Prop:=fun l=>∃a,l= .cell a /\ SB a.block
def Ends (P:Program) (Post:Value -> World -> Prop) (m:Machine) (t:Trace):Prop:=
 ∃N last o w' t',runNT P (N+1) m t=(.ended o w',t') /\ runN P N m= .next last /\ step P last= .ended o w' /\ Good P Post last o w' t'
theorem Ends.step {P:Program} {Post:Value -> World -> Prop} {m m' :Machine} {t:Trace} {ops:Array MemOp} (hs:stepT P m=(.next m',ops)) (h:Ends P Post m' (t++ops)):Ends P Post m t:=by
 obtain ⟨N,last,o,w',t',h1,h2,h3,h4⟩:=h
 refine ⟨N+1,last,o,w',t',?_,?_,h3,h4⟩
 · rw [runNT];simp only [hs];exact h1
 · rw [runN];simp only [Go.step,hs];exact h2
structure Fr (P:Program) (SB:Nat -> Prop) (gs:Array Goroutine) (q:Nat -> Nat) (w:World) (t:Trace):Prop where
 lv:∀i g,0<i -> gs[i]? =some g -> QuitsD P (q i) (Deaf t i) g
 above:∀j,gs.size <= j -> Deaf t j=0
 tr:Tr (ShS SB) (fun _ _=>False) (fun _ _=>False) (gs.size- 1) (gs.size- 1) w.heap.size t
 hears:Deaf t 0=0
 sb:∀b,SB b -> b<w.heap.size
def EvF (SB:Nat -> Prop) (B:Nat) (e:Event):Prop:=(∀x,(MemAct.ofEvent e).touch? =some x -> ¬ShS SB x.loc) /\ e.loc≠ .mark .disable /\ e.loc≠ .mark .enable /\ lowT B (MemAct.ofEvent e)
def DF (SB:Nat -> Prop) (w w' :World) (es:Array Event):Prop:=w.heap.size <= w'.heap.size /\ ∀e∈es,EvF SB w'.heap.size e
section
variable {P:Program} {SB:Nat -> Prop} {gs:Array Goroutine} {q:Nat -> Nat} {w w' :World} {t:Trace} {a a' :Goroutine} {sl:Option (Nat×Nat)} {es:Array Event}
theorem ofEvents_g {g:Nat} {fn:FuncId} {pos:String} {es:Array Event}:∀op∈MemOp.ofEvents g fn pos es,op.g=g:=fun op hop=>by obtain ⟨e,_,rfl⟩:=Go.Conc.mem_ofEvents hop;rfl
theorem Fr.at (h:Fr P SB gs q w t) (d:Nat):Fr P SB gs q (w.at d) t:=⟨h.lv,h.above,h.tr,h.hears,h.sb⟩
theorem fr_pick (h0:gs[0]? =some a) (hr:a.status= .running) (h:Fr P SB gs q w t) (sl:Option (Nat×Nat)):
   (∃d sl',stepT P (crowd gs w sl)=runT P (crowd gs (w.at d) sl') 0) \/
   ∃gs' q' d sl' ops,stepT P (crowd gs w sl)=(.next (crowd gs' (w.at d) sl'),ops) /\ gs'[0]? =some a /\ gs'.size=gs.size /\ Fr P SB gs' q' (w.at d) (t++ops) /\ sumTo gs.size q' <sumTo gs.size q:=by
 have haw:∀g∈gs,awake g:=by
   intro g hg
   obtain ⟨i,hi,rfl⟩:=Array.mem_iff_getElem.1 hg
   rcases Nat.eq_zero_or_pos i with rfl | hpos
   · have:gs[0]=a:=by simpa [Array.getElem?_eq_getElem hi] using h0
     rw [this];exact awake_of (.inl hr)
   · exact awake_of ((h.lv i _ hpos (Array.getElem?_eq_getElem hi)).status.elim .inl fun x=> .inr (.inr x))
 obtain ⟨i,g,d,sl',hi,hg,hst⟩:=crowd_pick (P:=P) (w:=w) (sl:=sl) haw ⟨0,a,h0,hr⟩
 rcases Nat.eq_zero_or_pos i with rfl | hpos
 · exact .inl ⟨d,sl',hst⟩
 · right
   have hq:=h.lv i g hpos hi
   have hi0:(i==0)=false:=by simp;omega
   have hlt:i<gs.size:=(Array.getElem?_eq_some_iff.1 hi).1
   cases hqi:q i with
   | zero=>rw [hqi] at hq;rw [hq.1] at hg;cases hg
   | succ k=>
     rw [hqi] at hq
     rcases hq with ⟨hf,_⟩ | ⟨_,g',es,hm,hstp,hq'⟩
     · rw [hf] at hg;cases hg
     have hrunT:=runT_crowd_go (P:=P) (sl:=sl') (i:=i) hi (by rw [hi0];exact hstp (w.at d))
     have hsz:((gs.map (woken P g g' (w.at d))).setIfInBounds i g').size=gs.size:=by simp
     have hsum:sumTo gs.size (upd q i k)+(k+1)=sumTo gs.size q+k:=by
       have:=sumTo_upd q k id hlt
       simpa [hqi] using this
     have hmem:∀op∈MemOp.ofEvents i g.frame.fn g.frame.place es,op.act.touch? =none:=by
       intro op hop
       obtain ⟨e,he,rfl⟩:=Go.Conc.mem_ofEvents hop
       exact touch_mute (hm e he)
     refine ⟨_,upd q i k,d,sl',_,hst.trans hrunT,?_,hsz,⟨fun j x hj hx=> ?_,fun j hj=> ?_,?_,?_,h.sb⟩,by omega⟩
     · have hne:i≠0:=by omega
       rw [Array.getElem?_setIfInBounds_ne hne,Array.getElem?_map,h0]
       simp [woken_run hr]
     · by_cases hji:i=j
       · subst hji
         rw [Array.getElem?_setIfInBounds_self_of_lt (by simpa using hlt)] at hx
         obtain rfl:=Option.some.inj hx
         rw [upd_same,Deaf_own]
         exact hq'
       · rw [Array.getElem?_setIfInBounds_ne hji,Array.getElem?_map] at hx
         obtain ⟨y,hy,rfl⟩:=Option.map_eq_some_iff.1 hx
         have hqj:=h.lv j y hj hy
         rw [woken_quitsD hqj,upd_ne q k (Ne.symm hji),Deaf_other t hji _ ofEvents_g]
         exact hqj
     · rw [hsz] at hj
       rw [Deaf_other t (g':=i) (by omega) _ ofEvents_g]
       exact h.above j hj
     · rw [hsz]
       exact h.tr.mute apart_none hpos (by omega) ofEvents_g hmem
     · rw [Deaf_other t (g':=i) (by omega) _ ofEvents_g]
       exact h.hears
theorem fr_go (h0:gs[0]? =some a) (h:Fr P SB gs q w t) (hgo:stepG P true a w= .go a' w' es) (hd:DF SB w w' es) (sl:Option (Nat×Nat)):
   ∃gs' ops,runT P (crowd gs w sl) 0=(.next (crowd gs' w' sl),ops) /\ gs'[0]? =some a' /\ gs'.size=gs.size /\ Fr P SB gs' q w' (t++ops):=by
 have hrunT:=runT_crowd_go (P:=P) (sl:=sl) (i:=0) h0 (show stepG P (0==0) a w=_ from hgo)
 have hsz:((gs.map (woken P a a' w')).setIfInBounds 0 a').size=gs.size:=by simp
 have hlt:0<gs.size:=(Array.getElem?_eq_some_iff.1 h0).1
 refine ⟨_,_,hrunT,by simp [hlt],hsz,⟨fun j x hj hx=> ?_,fun j hj=> ?_,?_,?_,fun b hb=>Nat.lt_of_lt_of_le (h.sb b hb) hd.1⟩⟩
 · have hne:0≠j:=by omega
   rw [Array.getElem?_setIfInBounds_ne hne,Array.getElem?_map] at hx
   obtain ⟨y,hy,rfl⟩:=Option.map_eq_some_iff.1 hx
   have hqj:=h.lv j y hj hy
   rw [woken_quitsD hqj,Deaf_other t (by omega) _ ofEvents_g]
   exact hqj
 · rw [hsz] at hj
   rw [Deaf_other t (g':=0) (by omega) _ ofEvents_g]
   exact h.above j hj
 · rw [hsz]
   refine (h.tr.mono hd.1).app0 apart_none (fun op hop=> ?_) (fun op hop=> ?_)
   · obtain ⟨e,he,rfl⟩:=Go.Conc.mem_ofEvents hop
     exact ⟨rfl,fun x hx=> .inr ⟨(hd.2 e he).1 x hx,fun _ _ _ hf=>hf,fun _ _ _ _ hf=>hf⟩⟩
   · obtain ⟨e,he,rfl⟩:=Go.Conc.mem_ofEvents hop
     exact (hd.2 e he).2.2.2
 · rw [Deaf_own,deafBehind_still (fun e he=>⟨(hd.2 e he).2.1,(hd.2 e he).2.2.1⟩)]
   exact h.hears
theorem step_fr {Post:Value -> World -> Prop} (hr:a.status= .running)
   (hstep:∀d,∃a' w' es,stepG P true a (w.at d)= .go a' w' es /\ DF SB (w.at d) w' es /\
     ∀gs' q' sl' t',gs'[0]? =some a' -> gs'.size=gs.size -> Fr P SB gs' q' w' t' -> Ends P Post (crowd gs' w' sl') t'):
   ∀(M:Nat) (gs1:Array Goroutine) (q:Nat -> Nat) (d:Nat) (sl:Option (Nat×Nat)) (t:Trace),sumTo gs1.size q <= M -> gs1[0]? =some a -> gs1.size=gs.size -> Fr P SB gs1 q (w.at d) t -> Ends P Post (crowd gs1 (w.at d) sl) t:=by
 intro M
 induction M with
 | zero=>
   intro gs1 q d sl t hM h0 hsz h
   rcases fr_pick h0 hr h sl with ⟨d',sl',hst⟩ | ⟨gs',q',d',sl',ops,_,_,_,_,hlt⟩
   · obtain ⟨a',w',es,hgo,hd,hk⟩:=hstep d'
     obtain ⟨gs',ops,hrun,h0',hs',hF'⟩:=fr_go h0 (h.at d') hgo hd sl'
     exact .step (hst.trans hrun) (hk gs' q sl' _ h0' (hs'.trans hsz) hF')
   · omega
 | succ M ih=>
   intro gs1 q d sl t hM h0 hsz h
   rcases fr_pick h0 hr h sl with ⟨d',sl',hst⟩ | ⟨gs',q',d',sl',ops,hst,h0',hs',hF',hlt⟩
   · obtain ⟨a',w',es,hgo,hd,hk⟩:=hstep d'
     obtain ⟨gs',ops,hrun,h0',hs',hF'⟩:=fr_go h0 (h.at d') hgo hd sl'
     exact .step (hst.trans hrun) (hk gs' q sl' _ h0' (hs'.trans hsz) hF')
   · exact .step hst (ih gs' q' d' sl' _ (by rw [hs'];omega) h0' (hs'.trans hsz) hF')
theorem walk_fr {Post:Value -> World -> Prop} {Stop:Goroutine -> World -> Prop}:∀(n:Nat) (gs:Array Goroutine) (a:Goroutine) (q:Nat -> Nat) (w:World) (sl:Option (Nat×Nat)) (t:Trace),
   gs[0]? =some a -> Fr P SB gs q w t -> Goes P true AtRel (DF SB) Stop n a w ->
   (∀gs' a' q' w' sl' t',gs'[0]? =some a' -> gs'.size=gs.size -> Fr P SB gs' q' w' t' -> Stop a' w' -> Ends P Post (crowd gs' w' sl') t') -> Ends P Post (crowd gs w sl) t:=by
 intro n
 induction n with
 | zero=>exact fun gs a q w sl t h0 hF hG hk=>hk gs a q w sl t h0 rfl hF (hG w (atRel_refl w))
 | succ n ih=>
   intro gs a q w sl t h0 hF hG hk
   rcases hG with hstop | ⟨hr,hstep⟩
   · exact hk gs a q w sl t h0 rfl hF (hstop w (atRel_refl w))
   · refine step_fr (w:=w) (gs:=gs) hr (fun d=> ?_) (sumTo gs.size q) gs q w.drawn sl t (Nat.le_refl _) h0 rfl hF
     have hs:=hstep (w.at d) ⟨d,rfl⟩
     cases hgo:stepG P true a (w.at d) with
     | go a' w' es=>
       rw [hgo,goes_go] at hs
       exact ⟨a',w',es,rfl,hs.1,fun gs' q' sl' t' h0' hs' hF' =>ih gs' a' q' w' sl' t' h0' hF' hs.2 fun gs2 a2 q2 w2 sl2 t2 x1 x2 x3 x4=>hk gs2 a2 q2 w2 sl2 t2 x1 (x2.trans hs') x3 x4⟩
     | _=>rw [hgo] at hs;exact hs.elim
end
theorem fr_first (P:Program) (a:Goroutine) (w:World):Fr P (fun _=>False) #[a] (fun _=>0) w #[]:=
 ⟨fun i g hi hg=>by
   have:i<1:=by simpa using (Array.getElem?_eq_some_iff.1 hg).1
   omega,fun _ _=>rfl,Tr.nil _ _,rfl,fun _ h=>h.elim⟩
end Crw
end Go.Proofs.YtfphigmeppdocaaGreat
namespace Go.Proofs.YtfphigmeppdocaaGreat
namespace Crw
open Go.Conc Go.ConcN
open Go.ConcR (KK wgBlock WgAt stA smA rd wr mk Payload DC0 Bk g_of_ofEvents again_blocked)
def noP:Nat -> Loc -> Prop:=fun _ _=>False
structure Stay (Wg:Nat) (w w₁:World):Prop where
 same:∀b,b≠Wg -> w₁.heap[b]? =w.heap[b]?
 size:w₁.heap.size=w.heap.size
section
variable [Payload]
structure StayC (Wg C:Nat) (w w₁:World):Prop where
 same:∀b,b≠Wg -> b≠C -> w₁.heap[b]? =w.heap[b]?
 size:w₁.heap.size=w.heap.size
 pay:PayAt C 1 w -> PayAt C 1 w₁
theorem Stay.c {Wg C:Nat} {w w₁:World} (h:Stay Wg w w₁) (hC:C≠Wg):StayC Wg C w w₁:=⟨fun b h1 _=>h.same b h1,h.size,fun ⟨cs,h1,h2⟩=>⟨cs,(h.same C hC).trans h1,h2⟩⟩
structure WEff (Wg:Nat) (w w' :World):Prop where
 out:w'.os=w.os /\ w'.output=w.output /\ w'.tape=w.tape
 size:w.heap.size <= w'.heap.size
 wg:w'.heap[Wg]? =w.heap[Wg]?
structure EvO (SB:Nat -> Prop) (Wg B:Nat) (e:Event):Prop where
 tch:∀x,(MemAct.ofEvent e).touch? =some x -> ¬ShS SB x.loc
 dis:e.loc≠ .mark .disable
 en:e.loc≠ .mark .enable
 rel:e.loc≠ .mark (.release (stA Wg))
 low:lowT B (MemAct.ofEvent e)
structure WSpec (P:Program) (SB:Nat -> Prop) (ty:TypeId) (Wg C Low:Nat) where
 X:Type
 lt:X -> X -> Prop
 Sit:X -> Goroutine -> World -> Prop
 Fin:Value -> World -> Prop
 acc:∀{x g w},Sit x g w -> Acc lt x
 run:∀{x g w},Sit x g w -> g.status= .running
 stay:∀{x g w w₁},Sit x g w -> Stay Wg w w₁ -> RW ty Wg C 1 Low 0 w w₁ -> Sit x g w₁
 fins:∀{v w w₁},Fin v w -> StayC Wg C w w₁ -> Fin v w₁
 go:∀{x g w},Sit x g w -> WgLive ty Wg w -> ∃g' w' es,stepG P false g w= .go g' w' es /\ WEff Wg w w' /\ (∀e∈es,EvO SB Wg w'.heap.size e) /\
   ((∃x',lt x' x /\ Sit x' g' w') \/ ∃v m,Fin v w' /\ Goes P false (RW ty Wg C 1 Low 0) (DWs Wg noP noP C 1 1) (AtR0 P ty Wg C 1 Low 1 v) m g' w')
def R0 (ty:TypeId) (Wg:Nat) (w w₁:World):Prop:=WgLive ty Wg w -> WgLive ty Wg w₁
def Ev1 (Wg:Nat) (e:Event):Prop:=
 (∀x,(MemAct.ofEvent e).touch? =some x -> (∃a,x.loc= .cell a /\ a.block=Wg) /\ x.kind≠ .plain) /\ e.loc≠ .mark .disable /\ e.loc≠ .mark .enable /\ e.loc≠ .mark (.release (stA Wg))
def D0 (Wg:Nat) (w w' :World) (es:Array Event):Prop:=w' =w /\ ∀e∈es,Ev1 Wg e
end
section
theorem R0.refl (ty:TypeId) (Wg:Nat) (w:World):R0 ty Wg w w:=id
end
section
variable [Payload]
end
section
theorem R0.tr (ty:TypeId) (Wg:Nat):∀a b c,R0 ty Wg a b -> R0 ty Wg b c -> R0 ty Wg a c:=fun _ _ _ h h' =>h' ∘h
end
section
variable [Payload]
section
variable (P:Program) (ty:TypeId) (Wg:Nat) (AnchW:Goroutine -> World -> Prop) (Out:Goroutine -> Prop)
def AtAcq (g:Goroutine) (w:World):Prop:=g.status= .running /\ ∃g',stepG P true g w= .go g' w #[mk (.acquire (stA Wg))] /\ Out g'
def AtKe (g:Goroutine) (w:World):Prop:=g.status= .running /\ ∃g',stepG P true g w= .go g' w #[mk .enable] /\ ∃m,(Goes P true (R0 ty Wg) (D0 Wg)) (AtAcq P Wg Out) m g' w
def AtW4 (g:Goroutine) (w:World):Prop:=g.status= .running /\ (WgAt ty Wg w 0 0 -> ∃g',stepG P true g w= .go g' w #[rd (stA Wg)] /\ ∃m,(Goes P true (R0 ty Wg) (D0 Wg)) (AtKe P ty Wg Out) m g' w)
def AtW3 (g:Goroutine) (w:World):Prop:=
 g.status= .running /\ g.offers=none /\ ((∃st,WgAt ty Wg w st 0) -> stepG P true g w= .go {g with status:= .blocked } w #[]) /\
   (WgAt ty Wg w 0 1 -> ∃g',stepG P true g w= .go g' (w.setCell (smA Wg) (.int .u32 0)) (semEvents (smA Wg)) /\ ∃m,(Goes P true (R0 ty Wg) (D0 Wg)) (AtW4 P ty Wg Out) m g' (w.setCell (smA Wg) (.int .u32 0)))
def AtW2 (vs:Nat) (g:Goroutine) (w:World):Prop:=
 g.status= .running /\ ∀v:Nat,v<2147483648 -> WgAt ty Wg w (v*KK) 0 ->
   (v=vs -> ∃g',stepG P true g w= .go g' (w.setCell (stA Wg) (.int .u64 (v*KK+1))) #[rd (stA Wg),wr (stA Wg)] /\ ∃m,(Goes P true (R0 ty Wg) (D0 Wg)) (AtW3 P ty Wg Out) m g' (w.setCell (stA Wg) (.int .u64 (v*KK+1)))) /\
   (v≠vs -> ∃g',stepG P true g w= .go g' w #[rd (stA Wg)] /\ ∃m,(Goes P true (R0 ty Wg) (D0 Wg)) AnchW m g' w)
def AtW1 (g:Goroutine) (w:World):Prop:=
 g.status= .running /\ ∀v:Nat,v<2147483648 -> WgAt ty Wg w (v*KK) 0 -> ∃g',stepG P true g w= .go g' w #[rd (stA Wg)] /\
   (v=0 -> ∃m,(Goes P true (R0 ty Wg) (D0 Wg)) (AtKe P ty Wg Out) m g' w) /\ (v≠0 -> ∃m,(Goes P true (R0 ty Wg) (D0 Wg)) (AtW2 P ty Wg AnchW Out v) m g' w)
def AtKd (g:Goroutine) (w:World):Prop:=g.status= .running /\ ∃g',stepG P true g w= .go g' w #[mk .disable] /\ ∃m,(Goes P true (R0 ty Wg) (D0 Wg)) AnchW m g' w
variable {SB:Nat -> Prop} {C Low:Nat} (W:WSpec P SB ty Wg C Low) (w0:World) (o0 o1:Obj) (v1:Value)
def AtGoS (Next:Goroutine -> World -> Prop) (g:Goroutine) (w:World):Prop:=
 g.status= .running /\ ∃g' child,stepG P true g w= .spawn g' child w #[] /\ Next g' w /\
   (w.heap[Low]? =some o1 -> (∀b,b<Low -> b≠Wg -> w.heap[b]? =w0.heap[b]?) -> w.heap.size=Low+1 -> WgLive ty Wg w -> ∃x,W.Sit x child w)
def AtKeS (Next:Goroutine -> World -> Prop) (g:Goroutine) (w:World):Prop:=
 g.status= .running /\ ∃g',stepG P true g w= .go g' w #[mk .enable] /\ ∃m,(Goes P true (R0 ty Wg) (D0 Wg)) (AtGoS P ty Wg W w0 o1 Next) m g' w
def AtA1 (Next:Goroutine -> World -> Prop) (g:Goroutine) (w:World):Prop:=
 g.status= .running /\ ∀v:Nat,v<2147483647 -> WgAt ty Wg w (v*KK) 0 ->
   ∃g',stepG P true g w= .go g' (w.setCell (stA Wg) (.int .u64 ((v+1)*KK))) #[rd (stA Wg),wr (stA Wg)] /\ ∃m,(Goes P true (R0 ty Wg) (D0 Wg)) (AtKeS P ty Wg W w0 o1 Next) m g' (w.setCell (stA Wg) (.int .u64 ((v+1)*KK)))
def AtKdS (Next:Goroutine -> World -> Prop) (g:Goroutine) (w:World):Prop:=
 g.status= .running /\ ∃g',stepG P true g w= .go g' w #[mk .disable] /\ ∃m,(Goes P true (R0 ty Wg) (D0 Wg)) (AtA1 P ty Wg W w0 o1 Next) m g' w
def AtPut (Next:Goroutine -> World -> Prop) (g:Goroutine) (w:World):Prop:=
 g.status= .running /\ (w.heap[Low]? =some o0 -> ∃g',stepG P true g w= .go g' (w.setCell ⟨Low,0,none⟩ v1) #[⟨.cell ⟨Low,0,none⟩,true,false⟩] /\ (w.setCell ⟨Low,0,none⟩ v1).heap[Low]? =some o1 /\ ∃m,(Goes P true (R0 ty Wg) (D0 Wg)) (AtKdS P ty Wg W w0 o1 Next) m g' (w.setCell ⟨Low,0,none⟩ v1))
def AtNew (Next:Goroutine -> World -> Prop) (g:Goroutine) (w:World):Prop:=
 g.status= .running /\ (w.heap.size=Low -> ∃g',stepG P true g w= .go g' {w with heap:=w.heap.push o0 } #[] /\ ∃m,(Goes P true (R0 ty Wg) (D0 Wg)) (AtPut P ty Wg W w0 o0 o1 v1 Next) m g' {w with heap:=w.heap.push o0 })
def Starts (g:Goroutine) (w:World):Prop:=∃m,(Goes P true (R0 ty Wg) (D0 Wg)) (AtKd P ty Wg AnchW) m g w
inductive CS:CTag -> Nat -> Nat -> Nat -> Option Obj -> Goroutine -> World -> Prop
 | snew {m:Nat} {g:Goroutine} {w:World}:(Goes P true (R0 ty Wg) (D0 Wg)) (AtNew P ty Wg W w0 o0 o1 v1 (Starts P ty Wg AnchW)) m g w -> CS (.sp 0 7) 0 m 0 none g w
 | sput {m:Nat} {g:Goroutine} {w:World}:(Goes P true (R0 ty Wg) (D0 Wg)) (AtPut P ty Wg W w0 o0 o1 v1 (Starts P ty Wg AnchW)) m g w -> CS (.sp 0 6) 0 m 0 (some o0) g w
 | skd {m:Nat} {g:Goroutine} {w:World}:(Goes P true (R0 ty Wg) (D0 Wg)) (AtKdS P ty Wg W w0 o1 (Starts P ty Wg AnchW)) m g w -> CS (.sp 0 5) 0 m 0 (some o1) g w
 | sa1 {m:Nat} {g:Goroutine} {w:World}:(Goes P true (R0 ty Wg) (D0 Wg)) (AtA1 P ty Wg W w0 o1 (Starts P ty Wg AnchW)) m g w -> CS (.sp 0 4) 0 m 1 (some o1) g w
 | ske {m:Nat} {g:Goroutine} {w:World}:(Goes P true (R0 ty Wg) (D0 Wg)) (AtKeS P ty Wg W w0 o1 (Starts P ty Wg AnchW)) m g w -> CS (.sp 0 3) 0 m 1 (some o1) g w
 | sgo {m:Nat} {g:Goroutine} {w:World}:(Goes P true (R0 ty Wg) (D0 Wg)) (AtGoS P ty Wg W w0 o1 (Starts P ty Wg AnchW)) m g w -> CS (.sp 0 2) 0 m 0 (some o1) g w
 | kd {m:Nat} {g:Goroutine} {w:World}:(Goes P true (R0 ty Wg) (D0 Wg)) (AtKd P ty Wg AnchW) m g w -> CS .kd 1 m 0 none g w
 | anch {m:Nat} {g:Goroutine} {w:World}:(Goes P true (R0 ty Wg) (D0 Wg)) AnchW m g w -> CS .anch 1 m 1 none g w
 | w1 {m:Nat} {g:Goroutine} {w:World}:(Goes P true (R0 ty Wg) (D0 Wg)) (AtW1 P ty Wg AnchW Out) m g w -> CS .w1 1 m 1 none g w
 | w2 {vs m:Nat} {g:Goroutine} {w:World}:(Goes P true (R0 ty Wg) (D0 Wg)) (AtW2 P ty Wg AnchW Out vs) m g w -> CS (.w2 vs) 1 m 1 none g w
 | w3 {m:Nat} {g:Goroutine} {w:World}:(Goes P true (R0 ty Wg) (D0 Wg)) (AtW3 P ty Wg Out) m g w -> CS .w3 1 (m+1) 1 none g w
 | blk {g:Goroutine} {w:World}:(∀w₁,R0 ty Wg w w₁ -> AtW3 P ty Wg Out g w₁) -> CS .blk 1 0 1 none {g with status:= .blocked } w
 | w4 {m:Nat} {g:Goroutine} {w:World}:(Goes P true (R0 ty Wg) (D0 Wg)) (AtW4 P ty Wg Out) m g w -> CS .w4 1 m 1 none g w
 | ke {m:Nat} {g:Goroutine} {w:World}:(Goes P true (R0 ty Wg) (D0 Wg)) (AtKe P ty Wg Out) m g w -> CS .ke 1 m 1 none g w
 | acq {m:Nat} {g:Goroutine} {w:World}:(Goes P true (R0 ty Wg) (D0 Wg)) (AtAcq P Wg Out) m g w -> CS .acq 1 m 0 none g w
end
section
variable {P:Program} {ty:TypeId} {Wg:Nat} {AnchW:Goroutine -> World -> Prop} {Out:Goroutine -> Prop} {SB:Nat -> Prop} {C Low:Nat} {W:WSpec P SB ty Wg C Low} {w0:World} {o0 o1:Obj} {v1:Value}
 {tag:CTag} {j f d:Nat} {nbo:Option Obj} {a:Goroutine} {w w' :World}
theorem CS.rely (h:CS P ty Wg AnchW Out W w0 o0 o1 v1 tag j f d nbo a w) (hr:R0 ty Wg w w'):CS P ty Wg AnchW Out W w0 o0 o1 v1 tag j f d nbo a w':=by
 cases h with
 | snew h=>exact .snew (Goes.rely (R0.tr _ _) h hr)
 | sput h=>exact .sput (Goes.rely (R0.tr _ _) h hr)
 | skd h=>exact .skd (Goes.rely (R0.tr _ _) h hr)
 | sa1 h=>exact .sa1 (Goes.rely (R0.tr _ _) h hr)
 | ske h=>exact .ske (Goes.rely (R0.tr _ _) h hr)
 | sgo h=>exact .sgo (Goes.rely (R0.tr _ _) h hr)
 | kd h=>exact .kd (Goes.rely (R0.tr _ _) h hr)
 | anch h=>exact .anch (Goes.rely (R0.tr _ _) h hr)
 | w1 h=>exact .w1 (Goes.rely (R0.tr _ _) h hr)
 | w2 h=>exact .w2 (Goes.rely (R0.tr _ _) h hr)
 | w3 h=>exact .w3 (Goes.rely (R0.tr _ _) h hr)
 | blk h=>exact .blk (fun w₂ h₂=>h w₂ (h₂∘hr))
 | w4 h=>exact .w4 (Goes.rely (R0.tr _ _) h hr)
 | ke h=>exact .ke (Goes.rely (R0.tr _ _) h hr)
 | acq h=>exact .acq (Goes.rely (R0.tr _ _) h hr)
theorem CS.status (hAr:∀g w,AnchW g w -> g.status= .running) (h:CS P ty Wg AnchW Out W w0 o0 o1 v1 tag j f d nbo a w):(a.status= .running /\ tag≠ .blk) \/ (a.status= .blocked /\ tag= .blk):=by
 have run:∀{Stop:Goroutine -> World -> Prop} {m:Nat} {g:Goroutine},(∀g w,Stop g w -> g.status= .running) -> Goes P true (R0 ty Wg) (D0 Wg) Stop m g w -> g.status= .running:=fun hs h=>Goes.running hs w (R0.refl ty Wg w) h
 cases h with
 | snew h=>exact .inl ⟨run (fun _ _ x=>x.1) h,by simp⟩
 | sput h=>exact .inl ⟨run (fun _ _ x=>x.1) h,by simp⟩
 | skd h=>exact .inl ⟨run (fun _ _ x=>x.1) h,by simp⟩
 | sa1 h=>exact .inl ⟨run (fun _ _ x=>x.1) h,by simp⟩
 | ske h=>exact .inl ⟨run (fun _ _ x=>x.1) h,by simp⟩
 | sgo h=>exact .inl ⟨run (fun _ _ x=>x.1) h,by simp⟩
 | kd h=>exact .inl ⟨run (fun _ _ x=>x.1) h,by simp⟩
 | anch h=>exact .inl ⟨run hAr h,by simp⟩
 | w1 h=>exact .inl ⟨run (fun _ _ x=>x.1) h,by simp⟩
 | w2 h=>exact .inl ⟨run (fun _ _ x=>x.1) h,by simp⟩
 | w3 h=>exact .inl ⟨run (fun _ _ x=>x.1) h,by simp⟩
 | blk h=>exact .inr ⟨rfl,rfl⟩
 | w4 h=>exact .inl ⟨run (fun _ _ x=>x.1) h,by simp⟩
 | ke h=>exact .inl ⟨run (fun _ _ x=>x.1) h,by simp⟩
 | acq h=>exact .inl ⟨run (fun _ _ x=>x.1) h,by simp⟩
theorem CS.bound (h:CS P ty Wg AnchW Out W w0 o0 o1 v1 tag j f d nbo a w):j+pend tag <= 1:=by
 cases h<;>simp only [pend]<;>(try simp)<;>omega
theorem CS.wokenBy (hAr:∀g w,AnchW g w -> g.status= .running) (h:CS P ty Wg AnchW Out W w0 o0 o1 v1 tag j f d nbo a w) (hr:R0 ty Wg w w') (g g' :Goroutine):
   ∃tag' f',CS P ty Wg AnchW Out W w0 o0 o1 v1 tag' j f' d nbo (woken P g g' w' a) w' /\ f' <= f+1 /\ (tag' =tag \/ (tag= .blk /\ tag' = .w3)) /\ (mayWake P g=true -> g'.status= .running -> tag' ≠ .blk):=by
 have h':=h.rely hr
 unfold Go.Conc.woken
 split
 · rcases h'.status hAr with ⟨hs,hne⟩ | ⟨_,rfl⟩
   · exact ⟨tag,f,by rw [again_running _ (.inl hs)];exact h',by omega,.inl rfl,fun _ _=>hne⟩
   · cases h' with
     | blk hb=>
       have h3:=hb w' (R0.refl ty Wg w')
       exact ⟨.w3,0+1,by rw [again_blocked h3.1 h3.2.1];exact .w3 (Goes.stop hb),by omega,.inr ⟨rfl,rfl⟩,fun _ _=>by simp⟩
 · rename_i hc
   exact ⟨tag,f,h',by omega,.inl rfl,fun h1 h2=>absurd (by simp [h1,h2]) hc⟩
end
end
end Crw
end Go.Proofs.YtfphigmeppdocaaGreat
namespace Go.Proofs.YtfphigmeppdocaaGreat
namespace Crw
open Go.Conc Go.ConcN
open Go.ConcR (KK wgBlock WgAt stA smA rd wr mk Payload DC0 Bk g_of_ofEvents again_blocked)
def OwnF (base:Nat) (SB:Nat -> Prop) (k:Nat) (l:Loc):Prop:=k=base+1 /\ ¬ShS SB l
theorem norel_app {t u:Trace} {T0:Nat} {a:Addr} (h:∀i,T0 <= i -> t.act? i≠some (.mark (.release a))) (hu:∀op∈u,op.act≠ .mark (.release a)):∀i,T0 <= i -> (t++u).act? i≠some (.mark (.release a)):=by
 intro i hi e
 obtain ⟨op,ho,hoa⟩:=Option.map_eq_some_iff.1 e
 rcases getElem?_append_cases ho with ⟨_,ho'⟩ | ⟨_,hou⟩
 · exact h i hi (by rw [act?_of ho',hoa])
 · exact hu op hou hoa
theorem tsz_app {t u:Trace} {T0:Nat} (h:T0 <= t.size):T0 <= (t++u).size:=by simp;omega
structure Geom (SB:Nat -> Prop) (Wg C Low:Nat):Prop where
 hW:Wg<Low
 hC:C<Low
 hCW:C≠Wg
 sbW:SB Wg
 sbL:∀b,SB b -> b<Low
theorem apartF {SB:Nat -> Prop} {base:Nat}:Apart (ShS SB) (OwnF base SB) noP:=
 ⟨fun _ _ _ h h' =>h.1.trans h'.1.symm,fun _ _ _ _ h=>h,fun _ _ h hs=>h.2 hs,fun _ _ h=>h.elim⟩
theorem Stay.at (Wg:Nat) (w:World) (d:Nat):Stay Wg w (w.at d):=⟨fun _ _=>rfl,rfl⟩
section
variable [Payload]
inductive Stt (X:Type) where
 | at_ (x:X)
 | done (v:Value)
def Stt.lt {X:Type} (r:X -> X -> Prop):Stt X -> Stt X -> Prop
 | .at_ x',.at_ x=>r x' x
 | .done _,.at_ _=>True
 | _,_=>False
section
variable (P:Program) {SB:Nat -> Prop} (ty:TypeId) (Wg:Nat) {C Low:Nat} (W:WSpec P SB ty Wg C Low)
inductive WS (d:WD):Stt W.X -> Goroutine -> World -> Prop
 | work {x:W.X} {g:Goroutine} {w:World}:d.stage=7 -> d.deaf=0 -> W.Sit x g w -> WS d (.at_ x) g w
 | done {v:Value} {g:Goroutine} {w:World}:WSit P ty Wg C 1 noP noP Low 1 v d.stage d.fuel d.deaf g w -> WS d (.done v) g w
variable (base T0:Nat) (w0:World)
structure PI (gs:Array Goroutine) (w:World) (t:Trace) (j:Nat) (D:WD) (Y:Stt W.X) (q:Nat -> Nat) (d0:Nat) (nbo:Option Obj):Prop where
 size:gs.size=base+1+j
 le:j <= 1
 lv:∀i g,0<i -> i <= base -> gs[i]? =some g -> QuitsD P (q i) (Deaf t i) g
 above:∀k,gs.size <= k -> Deaf t k=0
 wk:j=1 -> ∃g,gs[base+1]? =some g /\ WS P ty Wg W D Y g w
 fin:∀v,j=1 -> Y= .done v -> W.Fin v w /\ (D.stage <= 6 -> Has C 0 v w)
 tr:Tr (ShS SB) (OwnF base SB) noP base (base+j) w.heap.size t
 norel:∀i,T0 <= i -> t.act? i≠some (.mark (.release (stA Wg)))
 tsz:T0 <= t.size
 deaf0:Deaf t 0=d0
 deafW:j=1 -> Deaf t (base+1)=D.deaf
 rel:j=1 -> D.stage <= 6 -> ∃r,T0 <= r /\ Rel (ShS SB) (stA Wg) t (base+1) r
 old:j=0 -> ∀b,b<Low -> b≠Wg -> w.heap[b]? =w0.heap[b]?
 nob:j=0 -> nbo=none -> w.heap.size=Low
 nb:∀o,nbo=some o -> j=0 /\ w.heap.size=Low+1 /\ w.heap[Low]? =some o
 lo:Low <= w.heap.size
 out:w.os=w0.os /\ w.output=w0.output /\ w.tape=w0.tape
end
section
variable {P:Program} {SB:Nat -> Prop} {ty:TypeId} {Wg C Low:Nat} {W:WSpec P SB ty Wg C Low} {base T0:Nat} {w0:World}
 {gs:Array Goroutine} {w w' :World} {t:Trace} {j:Nat} {D:WD} {Y:Stt W.X} {q:Nat -> Nat} {d0:Nat} {nbo:Option Obj} {fn:FuncId} {pos:String} {es:Array Event}
theorem WS.stay {d:WD} {y:Stt W.X} {g:Goroutine} (h:WS P ty Wg W d y g w) (hs:Stay Wg w w') (hr:RW ty Wg C 1 Low 0 w w'):WS P ty Wg W d y g w':=by
 cases h with
 | work h1 h2 h3=>exact .work h1 h2 (W.stay h3 hs hr)
 | done h1=>exact .done (h1.rely hr)
theorem WS.status {d:WD} {y:Stt W.X} {g:Goroutine} (h:WS P ty Wg W d y g w):g.status= .running \/ g.status= .finished:=by
 cases h with
 | work h1 h2 h3=>exact .inl (W.run h3)
 | done h1=>exact h1.status
theorem WS.woken {d:WD} {y:Stt W.X} {g:Goroutine} (h:WS P ty Wg W d y g w) (a a' :Goroutine) (w1:World):woken P a a' w1 g=g:=by
 unfold Go.Conc.woken
 split
 · exact again_running _ h.status
 · rfl
theorem PI.at (h:PI P ty Wg W base T0 w0 gs w t j D Y q d0 nbo) (d:Nat):PI P ty Wg W base T0 w0 gs (w.at d) t j D Y q d0 nbo:=
 ⟨h.size,h.le,h.lv,h.above,fun hj=>let ⟨g,hg,hs⟩:=h.wk hj;⟨g,hg,hs.stay (Stay.at _ w d) (RW.at w d)⟩,fun v hj hy=>⟨W.fins (h.fin v hj hy).1 ⟨fun _ _ _=>rfl,rfl,id⟩,fun hs=>(h.fin v hj hy).2 hs⟩,h.tr,h.norel,h.tsz,h.deaf0,h.deafW,h.rel,h.old,h.nob,h.nb,h.lo,h.out⟩
theorem rw_of_stay (hs:Stay Wg w w') (hC:C≠Wg) (hl:WgLive ty Wg w'):RW ty Wg C 1 Low 0 w w':=
 ⟨fun b _ h1 _=>hs.same b h1,fun _=>hl,fun ⟨cs,h1,h2⟩=>⟨cs,(hs.same C hC).trans h1,h2⟩,cell_of_block (hs.same C hC) 0⟩
theorem PI.stepW (h:PI P ty Wg W base T0 w0 gs w t j D Y q d0 nbo) (hj:j=1) {g g' :Goroutine} {d' :WD} {y' :Stt W.X}
   (hout:w'.os=w.os /\ w'.output=w.output /\ w'.tape=w.tape) (hsize:w.heap.size <= w'.heap.size)
   (hs' :WS P ty Wg W d' y' g' w') (hfin:∀v,y' = .done v -> W.Fin v w' /\ (d'.stage <= 6 -> Has C 0 v w'))
   (hok:∀op∈MemOp.ofEvents (base+1) fn pos es,OkW (ShS SB) (OwnF base SB) noP (base+1) op) (hlow:∀op∈MemOp.ofEvents (base+1) fn pos es,lowT w'.heap.size op.act)
   (hnr:∀e∈es,e.loc≠ .mark (.release (stA Wg))) (hdeaf:deafBehind D.deaf es=d'.deaf)
   (hrel:d'.stage <= 6 -> ∃r,T0 <= r /\ Rel (ShS SB) (stA Wg) (t++MemOp.ofEvents (base+1) fn pos es) (base+1) r):
   PI P ty Wg W base T0 w0 ((gs.map (woken P g g' w')).setIfInBounds (base+1) g') w' (t++MemOp.ofEvents (base+1) fn pos es) j d' y' q d0 nbo:=by
 have hsz:=h.size
 have hlo:=h.lo
 refine ⟨by simp [hsz],h.le,fun k x hk hk' hx=> ?_,fun k hk=> ?_,fun _=> ?_,fun v _ hy=>hfin v hy,?_,norel_app h.norel (norel_of hnr),tsz_app h.tsz,by rw [Deaf_other t (by omega) _ g_of_ofEvents,h.deaf0],fun _=>by rw [Deaf_own,h.deafW hj];exact hdeaf,fun _ hst=>hrel hst,by omega,by omega,fun o ho=> ?_,Nat.le_trans hlo hsize,
   ⟨hout.1.trans h.out.1,hout.2.1.trans h.out.2.1,hout.2.2.trans h.out.2.2⟩⟩
 · rw [get_map_set _ _ _ _ (by omega)] at hx
   obtain ⟨y,hy,rfl⟩:=Option.map_eq_some_iff.1 hx
   have hq:=h.lv k y hk hk' hy
   rw [woken_quitsD hq,Deaf_other t (by omega) _ g_of_ofEvents]
   exact hq
 · simp only [Array.size_setIfInBounds,Array.size_map] at hk
   rw [Deaf_other t (by omega) _ g_of_ofEvents]
   exact h.above k hk
 · exact ⟨g',get_map_set_same _ _ _ (by rw [hsz];omega),hs'⟩
 · exact Tr.appW apartF (h.tr.mono hsize) (by omega) (by omega) hok hlow
 · have:=(h.nb o ho).1;omega
theorem PI.step0 (G:Geom SB Wg C Low) (h:PI P ty Wg W base T0 w0 gs w t j D Y q d0 nbo) {a a' :Goroutine} {nbo' :Option Obj}
   (hout:w'.os=w.os /\ w'.output=w.output /\ w'.tape=w.tape) (hsize:w.heap.size <= w'.heap.size) (hlive:WgLive ty Wg w') (hst:j=1 -> Stay Wg w w')
   (hold:j=0 -> ∀b,b<Low -> b≠Wg -> w'.heap[b]? =w.heap[b]?)
   (hok:∀op∈MemOp.ofEvents 0 fn pos es,Ok0 (ShS SB) (OwnF base SB) noP (base+j) op) (hlow:∀op∈MemOp.ofEvents 0 fn pos es,lowT w'.heap.size op.act) (hnr:∀e∈es,e.loc≠ .mark (.release (stA Wg)))
   (hn0:j=0 -> nbo' =none -> w'.heap.size=Low) (hnb:∀o,nbo' =some o -> j=0 /\ w'.heap.size=Low+1 /\ w'.heap[Low]? =some o):
   PI P ty Wg W base T0 w0 ((gs.map (woken P a a' w')).setIfInBounds 0 a') w' (t++MemOp.ofEvents 0 fn pos es) j D Y q (deafBehind d0 es) nbo':=by
 have hsz:=h.size
 have hlo:=h.lo
 refine ⟨by simp [hsz],h.le,fun k x hk hk' hx=> ?_,fun k hk=> ?_,fun hj=> ?_,fun v hj hy=> ?_,Tr.app0 apartF (h.tr.mono hsize) hok hlow,norel_app h.norel (norel_of hnr),tsz_app h.tsz,by rw [Deaf_own,h.deaf0],fun hj=> ?_,fun hj hst' => ?_,
   fun hj b hb h1=>(hold hj b hb h1).trans (h.old hj b hb h1),hn0,hnb,Nat.le_trans hlo hsize,⟨hout.1.trans h.out.1,hout.2.1.trans h.out.2.1,hout.2.2.trans h.out.2.2⟩⟩
 · rw [get_map_set _ _ _ _ (by omega)] at hx
   obtain ⟨y,hy,rfl⟩:=Option.map_eq_some_iff.1 hx
   have hq:=h.lv k y hk hk' hy
   rw [woken_quitsD hq,Deaf_other t (by omega) _ g_of_ofEvents]
   exact hq
 · simp only [Array.size_setIfInBounds,Array.size_map] at hk
   rw [Deaf_other t (by omega) _ g_of_ofEvents]
   exact h.above k hk
 · obtain ⟨x,hx,hsx⟩:=h.wk hj
   exact ⟨x,by rw [get_map_set _ _ _ _ (by omega),hx,Option.map_some,hsx.woken],hsx.stay (hst hj) (rw_of_stay (hst hj) G.hCW hlive)⟩
 · obtain ⟨h1,h2⟩:=h.fin v hj hy
   exact ⟨W.fins h1 ((hst hj).c G.hCW),fun hs=>(rw_of_stay (hst hj) G.hCW hlive:RW ty Wg C 1 Low 0 w w').cell.trans (h2 hs)⟩
 · rw [Deaf_other t (by omega) _ g_of_ofEvents,h.deafW hj]
 · obtain ⟨r,hr0,hr⟩:=h.rel hj hst'
   exact ⟨r,hr0,hr.app (hr.by_.appOther g_of_ofEvents (by omega)) fun op hop hg=>by have:=ofEvents_g op hop;omega⟩
theorem PI.stepL (h:PI P ty Wg W base T0 w0 gs w t j D Y q d0 nbo) {k q' :Nat} (hk:0<k) (hkb:k <= base) {g g' :Goroutine} (hm:∀e∈es,e.mute=true) (hq' :QuitsD P q' (deafBehind (Deaf t k) es) g'):
   PI P ty Wg W base T0 w0 ((gs.map (woken P g g' w)).setIfInBounds k g') w (t++MemOp.ofEvents k fn pos es) j D Y (upd q k q') d0 nbo:=by
 have hsz:=h.size
 have hmem:∀op∈MemOp.ofEvents k fn pos es,op.act.touch? =none:=by
   intro op hop
   obtain ⟨e,he,rfl⟩:=Go.Conc.mem_ofEvents hop
   exact touch_mute (hm e he)
 have hnr:∀e∈es,e.loc≠ .mark (.release (stA Wg)):=fun e he hl=>by
   have:=hm e he
   obtain ⟨loc,wr,sy⟩:=e
   simp only at hl
   subst hl
   cases this
 refine ⟨by simp [hsz],h.le,fun k1 x hk1 hk' hx=> ?_,fun k1 hk1=> ?_,fun hj=> ?_,h.fin,h.tr.mute apartF hk (by omega) ofEvents_g hmem,norel_app h.norel (norel_of hnr),tsz_app h.tsz,by rw [Deaf_other t (by omega) _ g_of_ofEvents,h.deaf0],fun hj=> ?_,fun hj hst=> ?_,h.old,h.nob,h.nb,h.lo,h.out⟩
 · by_cases e:k=k1
   · subst e
     rw [get_map_set_same _ _ _ (by omega)] at hx
     cases hx
     rw [upd_same,Deaf_own]
     exact hq'
   · rw [get_map_set _ _ _ _ e] at hx
     obtain ⟨y,hy,rfl⟩:=Option.map_eq_some_iff.1 hx
     have hq:=h.lv k1 y hk1 hk' hy
     rw [woken_quitsD hq,upd_ne q _ (Ne.symm e),Deaf_other t e _ g_of_ofEvents]
     exact hq
 · simp only [Array.size_setIfInBounds,Array.size_map] at hk1
   rw [Deaf_other t (by omega) _ g_of_ofEvents]
   exact h.above k1 hk1
 · obtain ⟨x,hx,hsx⟩:=h.wk hj
   exact ⟨x,by rw [get_map_set _ _ _ _ (by omega),hx,Option.map_some,hsx.woken],hsx⟩
 · rw [Deaf_other t (by omega) _ g_of_ofEvents,h.deafW hj]
 · obtain ⟨r,hr0,hr⟩:=h.rel hj hst
   exact ⟨r,hr0,hr.app (hr.by_.appOther g_of_ofEvents (by omega)) fun op hop hg=>by have:=ofEvents_g op hop;omega⟩
theorem PI.spawn {o:Obj} (h:PI P ty Wg W base T0 w0 gs w t 0 D Y q 0 (some o)) {a' child:Goroutine} {x y:MemOp} (hx:x.g=0 /\ x.act= .go (base+1)) (hy:y.g=base+1 /\ y.act= .start) {x0:W.X}
   (hs:W.Sit x0 child w):PI P ty Wg W base T0 w0 ((gs.setIfInBounds 0 a').push child) w (t++#[x,y]) 1 ⟨7,0,0⟩ (.at_ x0) q 0 none:=by
 have hsz:=h.size
 have hm:∀op∈#[x,y],op=x \/ op=y:=by intro op hop;simpa using hop
 have hst:∀op∈#[x,y],op.act≠ .mark .disable /\ op.act≠ .mark .enable:=by
   intro op hop
   rcases hm op hop with rfl | rfl
   · rw [hx.2];exact ⟨by simp,by simp⟩
   · rw [hy.2];exact ⟨by simp,by simp⟩
 refine ⟨by simp [hsz],Nat.le_refl _,fun k g hk hk' hg=> ?_,fun k hk=> ?_,fun _=> ?_,fun v _ hy' =>(by cases hy'),?_,norel_app h.norel fun op hop=> ?_,tsz_app h.tsz,by rw [Deaf_still t 0 _ hst,h.deaf0],fun _=> ?_,fun _ hs=> ?_,fun hj=>(by omega),fun hj=>(by omega),fun o ho=>(by cases ho),h.lo,h.out⟩
 · rw [Array.getElem?_push_lt (by simp [hsz];omega),<- Array.getElem?_eq_getElem,Array.getElem?_setIfInBounds_ne (by omega)] at hg
   rw [Deaf_still t _ _ hst]
   exact h.lv k g hk hk' hg
 · rw [Deaf_still t _ _ hst]
   simp only [Array.size_push,Array.size_setIfInBounds] at hk
   exact h.above k (by omega)
 · exact ⟨child,by rw [show base+1=(gs.setIfInBounds 0 a').size by simp [hsz],Array.getElem?_push_size],.work rfl rfl hs⟩
 · exact h.tr.fork apartF ⟨hx.1,by rw [hx.2]⟩ ⟨by rw [hy.1],hy.2⟩ h.deaf0
 · rcases hm op hop with rfl | rfl
   · rw [hx.2];simp
   · rw [hy.2];simp
 · rw [Deaf_still t _ _ hst]
   exact h.above _ (by omega)
 · simp at hs
end
end
end Crw
end Go.Proofs.YtfphigmeppdocaaGreat
