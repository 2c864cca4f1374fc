/-
  Several texts in one.
-/
import Derived.Calls
import Derived.Conc.Own
import Derived.Conc.Events
import Derived.KernelRfl
import Derived.WalkKit
import Derived.Conc.Own3
import Derived.Test.YtfphigmeppdocaaGreatDoorRows
import Derived.Laws.MakeOwn
import Derived.Conc.Own4
import Derived.Conc.CrowdStepW
import Derived.Conc.Beside
import Derived.Conc.CrowdStepC2
namespace Go.Proofs.YtfphigmeppdocaaGreatDoor
abbrev ς:=@if_neg
abbrev χ:=@if_pos
abbrev kC:=@decide_eq_true_eq
abbrev dF:=@if_true
abbrev fh:=@if_false
abbrev jM:=@congrArg
abbrev CP:=@decide_eq_false_iff_not
abbrev AF:=@of_decide_eq_true
abbrev wJ:=@forall_congr'
abbrev AG:=@decide_eq_false
abbrev CQ:=@and_congr_right
abbrev wK:=@beq_iff_eq
abbrev CR:=@decide_eq_true
abbrev Jn:=@not_true_eq_false
abbrev NP:=@of_decide_eq_false
abbrev yE:=@true_and
abbrev NQ:=@not_false_eq_true
abbrev CS:=@and_true
abbrev Fq:=@or_false
end Go.Proofs.YtfphigmeppdocaaGreatDoor
open Array renaming getElem?_eq_some_iff->ξ,replicate->Δ,getElem?_setIfInBounds_ne->lZ,getElem?_eq_none->gx,getElem?_push->iV,getD_eq_getD_getElem?->oZ,getElem?_eq_getElem->qT,append_empty->nF,getElem?_setIfInBounds_self_of_lt->CU,getElem?_setIfInBounds->wL,size_setIfInBounds->yF,all_eq_true_iff_forall_mem->Fs,mem_of_getElem?->Ft,ext_getElem?->Jo,push_eq_append->Fu,append_assoc->NR,forIn_toList->Jp,getElem?_map->NS,size_map->CV,mem_append->Jq,mapM_eq_mapM_toList->VR
open Bool renaming true->ν,false->ο
open Classical renaming choose_spec->l5,choose->mP,byContradiction->wM
open Except renaming bind->AH
open Go renaming World->υ,TypeId->Θ,Value->ay,execOp->aL,stepG->bh,Question->dM,underlying->gR,madeCells->fo,Addr->bP,callFunc->gX,step_lone_ended->r9,yielded->jv,Event->eU,cellAtBytes->uY,stuck->oz,byteOfCell->tI,Trace->gS,lone->eZ,zeroValue->tJ,step_lone_go->AJ,typeInfo->se,unwind->nH,HappensBefore->Fv,sizeOf->qU,isAgg->nI,fieldPlace->CW,runN->jN,eqGuard->wN,Item->kD,newObj->uZ,getObj->u0,resolve->Fw,viewAt->wO,seenCells->Fx,plainCell->Fy,markStringish->NT,movedPointer->NU,nilAhead->Fz,Result->FA,loadBytes->Jr,samePointer->NV,movedNumber->NW,followBlind->NX,variablesAt->NY,cellHolding->NZ,cellsIn->FB,liesAt->FC,setObj->CX,strVal->CY,receiverAt->N0,globalAddr->N1,callMethod->N2,cellOfByte->N3,sameLayout->N4,stringish->N5,loadVar->Js,byteOf->FD,exitTo->FE,shape->CZ
open Go.Conc renaming mem_ofEvents->kE,Deaf_other->l6,crowd->dG,G->gY,woken_quitsD->wP,runT_crowd_go->yG,touchAt->qV,Deaf_own->FF,woken->sg,touchAt_of->N6,Deaf->wQ
open Go.ConcN renaming WgLive->dy,sumTo->dN,get_map_set->wR,Deaf_still->Jt,Apart->C0
open Go.ConcR renaming g_of_ofEvents->o3,Payload->u5,WgAt->jO
open Go.Conv renaming unsafePointer->yI,seenAt->AK,stringToBytes->N7,bytesToString->N8,floatToFloat->N9
open Go.Extern renaming find->tK,findNext->Ju
open Go.Extern.AbiNoEscape renaming same->C1
open Go.Extern.BytealgCount renaming count->Oa
open Go.Extern.BytealgIndex renaming index->Ob,maxLen->VS
open Go.Extern.BytealgIndexByte renaming indexByte->Oc
open Go.Extern.BytealgMakeNoZero renaming makeNoZero->Jv
open Go.Extern.Bytes renaming loadBytes->Od,bytesOf->Oe,asByte->Of
open Go.FloatKind renaming bytes->VT
open Go.GStep renaming after->yJ
open Go.Instr renaming sureAddr->tL,fieldAt->tM,mapUpdate->C2,loadAt->AL,extract->AM,makeInterface->Og,keyThatStays->Oh,sliceBounds->Oi,storeAt->Jw,sliceBound->Oj,buildSlice->Ol,findAsking->Om,lookup->On,makeSlice->Oo,checkKey->Oq,indexAt->Ot,sliceAt->Ou,makeMap->Ov,findKey->Ow,field->Ox,index->Oy,slice->Oz,build->OA,range->OB,next->OC
open Go.IntKind renaming bits->u6
open Go.MemAct renaming ofEvent->si
open Go.Mode renaming atomic->sj,plain->sr
open Go.Op renaming equalIn->FG,floatArith->OD,eqGuardIn->OE,equal->FH,twoPlaces->OG,complexOp->OH,stringOp->OI,floatCmp->OJ,intArith->OK,addrMod->OL,intBits->OM,intDiv->OO,intCmp->OP
open Go.Op.Complex renaming quotient->OQ,arith->OS,conv->OT
open Go.Question renaming forced->yK,cut->AO
open Go.Region renaming wanted->cF,schedule->kY
open Go.Result renaming andThen->qW,ok->qX
open Go.Result.ok renaming injEq->l7
open Go.Sem renaming run_bind'->fq,run->jw,runT->nJ,pure->o4,runT_bind'->FI,runT_eq->AP,choose->C3
open Go.Stepped.next renaming injEq->AQ
open Go.Trace renaming g?->su,act?->OU
open Go.Value renaming int->bM,bool->sw,pointer->AR
open Go.World renaming cell?->c7,setCell->eV,frozen?->qY,shape?->wS,farLoad->FJ,noCell->FK,farStore->Jx,viewStore->OV,seen->Jy
open Go.stepG renaming exec->iW,apply->C4
open Ne renaming symm->jx
open Option renaming none->η,some->θ,map_eq_some_iff->kZ,map_some->nK,isNone_iff_eq_none->AU,bind_some->C5,isNone_none->OW
open Option.some renaming injEq->Γ,inj->jP
open Prod.mk renaming injEq->l8
open Pure renaming pure->Jz
open Std.Legacy.Range renaming forIn_eq_forIn_range'->OX
set_option maxRecDepth 20000
namespace Go.Proofs.YtfphigmeppdocaaGreatDoor
namespace Lo
variable{k:bP}{m:Bool}{e:eU}{h:Halt}{B C x:Nat}{r:Nat×ay×List (Nat×Nat×List UInt8)}{o:Obj}{p:Program}{u:Unsupported}{v:ay}{s w:υ}
structure aE(S R:Program):Prop where
 info:∀t,S.info? t=R.info? t
 under:∀t,S.underlying t=R.underlying t
 depth:S.depth=R.depth
 eqg:∀t,S.eqGuardType S.depth t=R.eqGuardType R.depth t
 held:∀t,S.stoodInHeld t=R.stoodInHeld t
 follows:∀d,S.follows d=R.follows d
 acs:S.globals=R.globals
 types:S.types=R.types
 boc:∀e o,tI S S.depth e o=tI R R.depth e o
 cellsOf:∀e,S.cellsOf e=R.cellsOf e
 cab:∀e n o k,uY S S.depth e n o k=uY R R.depth e n o k
 bytesOf:∀e,S.bytesOf e=R.bytesOf e
 str:S.rt=R.rt
 seen:∀(w:υ) at_ u k m,w.seen S at_ u k m=w.seen R at_ u k m
 tight:∀u,Go.tight S S.depth u=Go.tight R R.depth u
 lies:∀e c o u n,FC S S.depth e c o u n=FC R R.depth e c o u n
 holds:∀e,S.holdsStoodIn S.depth e=R.holdsStoodIn R.depth e
def yL(o:Obj):Prop:=(∀l,o≠.loop l)/\∀c t,o≠.pending c t
def JA(o:Obj):Prop:=(∃l,o=.loop l)\/∃c t,o=.pending c t
theorem JA.np(h:JA o):¬yL o:=by
 rintro⟨h1,h2⟩;rcases h with⟨l,e⟩|⟨c,t,e⟩
 .exact h1 l e
 .exact h2 c t e
def Pl(o:Obj):Prop:=(∀l,o≠.loop l)/\(∀c t,o≠.pending c t)/\o≠.coro η
theorem Pl.pl(h:Pl o):yL o:=⟨h.1,h.2.1⟩
structure cV where
 p:Nat->Prop
 v:Nat->Option Obj
instance:CoeFun cV (λ_=>Nat->Prop):=⟨cV.p⟩
def eW(x y:Option Obj):Prop:=(x=y/\∀o,x=θ o->yL o)\/∃o,x=θ (.coro η)/\y=θ o/\JA o
structure di(ag:cV)(s w:υ):Prop where
 size:s.heap.size=w.heap.size
 same:∀b,¬ag b->eW s.heap[b]? w.heap[b]?
 bad:∀b,ag b->∃t c,s.heap[b]?=θ (.cells #[] t)/\w.heap[b]?=θ (.cells c t)
 old:∀b o v,¬ag b->s.heap[b]?=θ o->¬Pl o->ag.v b=θ v->w.heap[b]?=θ v
def C6(ag:cV)(B:Nat)(e:eU):Prop:=
 (∃m,(m=.noRoom\/∃f,m=.extern f)/\e=⟨.mark m,ο,ν⟩)\/(∃a wr,e=⟨.cell a,wr,ο⟩/\a.block<B/\¬ag a.block)\/∃r wr sy,e=⟨.obj r,wr,sy⟩/\r<B
theorem C6.mono{ag}(h:B<=C):C6 ag B e->C6 ag C e:=by
 rintro(⟨m,hm,rfl⟩|⟨a,wr,rfl,h1,h2⟩|⟨r,wr,sy,rfl,h1⟩)
 .exact .inl ⟨m,hm,rfl⟩
 .exact .inr (.inl ⟨a,wr,rfl,by omega,h2⟩)
 .exact .inr (.inr ⟨r,wr,sy,rfl,by omega⟩)
structure Kept(s s':υ):Prop where
 dr:s.drawn<=s'.drawn
 tape:s'.tape=s.tape
 os:s'.os=s.os
 out:s'.output=s.output
 size:s.heap.size<=s'.heap.size
theorem Kept.refl s:Kept s s:=⟨Nat.le_refl _,rfl,rfl,rfl,Nat.le_refl _⟩
theorem Kept.trans{a b c}(h:Kept a b)(h':Kept b c):Kept a c:=⟨Nat.le_trans h.dr h'.dr,h'.tape.trans h.tape,h'.os.trans h.os,h'.out.trans h.out,Nat.le_trans h.size h'.size⟩
def FL(av:FuncId)(s s' w:υ):Prop:=∀i q,(∀j,q≠.order av j)->i<s'.drawn-s.drawn->w.tape (w.drawn+i) q=s.tape (s.drawn+i) q
structure u7(ag:cV)(s s' w w':υ)(u:Array eU):Prop where
 wr:di ag s' w'
 dr:w'.drawn=w.drawn+(s'.drawn-s.drawn)
 kept:Kept w w'
 bad:∀b,ag b->w'.heap[b]?=w.heap[b]?
 ev:∀e∈u,C6 ag w'.heap.size e
def VU(s:υ):Prop:=(∀(b:Nat) (l:Loop),s.heap[b]?≠θ (Obj.loop l))/\∀(b:Nat) (c:Array ay) (t:Θ),s.heap[b]?≠θ (Obj.pending c t)
def l9:Halt->Prop
 | .panic _ | .stuck _=>True
 | .unsupported (.initOrder _)=>False
 | .unsupported _=>True
 |_=>False
structure Sh(ag:cV)(s:υ):Prop where
 nl:VU s
 bad:∀b,ag b->∃t,s.heap[b]?=θ (.cells #[] t)
def aG(av:FuncId)(S R:Program)(ag:cV){α β:Type}(Q:α->β->Prop)(x:Sem α)(y:Sem β):Prop:=
 ∀s,Sh ag s->(∀h s',x.run S s=.halt h s'->l9 h)/\∀a s',x.run S s=.ok a s'->Kept s s'/\Sh ag s'/\(∃b,Q a b)/\∀w es,di ag s w->FL av s s' w->∃b w' u,y.runT R w es=(.ok b w',es++u)/\Q a b/\u7 ag s s' w w' u
section
variable {av:FuncId}{S R:Program}{ag:cV}{α β γ δ:Type}{Q:α->β->Prop}{Q':γ->δ->Prop}
theorem aG.bind{x:Sem α}{y:Sem β}{f:α->Sem γ}{g:β->Sem δ}(h:aG av S R ag Q x y)(hk:∀a b,Q a b->aG av S R ag Q' (f a) (g b)):aG av S R ag Q' (x >>= f) (y >>= g):=by
 intro s hv;refine⟨λhl s' hr=>?_,λc s' hr=>?_⟩
 .have hr':(x.bind f).run S s=.halt hl s':=hr;rw[fq]at hr';cases hx:x.run S s with
  |halt z s1=>rw[hx]at hr';cases hr';exact(h s hv).1 _ _ hx
  |ok a s1=>
   rw[hx]at hr';obtain⟨_,v1,⟨b0,hb0⟩,_⟩:=(h s hv).2 a s1 hx;exact(hk a b0 hb0 s1 v1).1 _ _ hr'
 have hr':(x.bind f).run S s=.ok c s':=hr;rw[fq]at hr';cases hx:x.run S s with
 |halt z s1=>rw[hx]at hr';cases hr'
 |ok a s1=>
  rw[hx]at hr';obtain⟨k1,v1,⟨b0,hb0⟩,h1⟩:=(h s hv).2 a s1 hx;obtain⟨k2,v2,hd,_⟩:=(hk a b0 hb0 s1 v1).2 c s' hr';refine⟨k1.trans k2,v2,hd,λw es hw hA=>?_⟩;have d1:=k1.dr;have d2:=k2.dr;obtain⟨b,w1,u,r1,q1,g1⟩:=h1 w es hw λi q hz hi=>hA i q hz (by omega);obtain⟨_,_,_,h2⟩:=(hk a b q1 s1 v1).2 c s' hr';obtain⟨d,w',u',r2,q2,g2⟩:=h2 w1 (es++u) g1.wr λi q hz hi=>by have:=hA (s1.drawn-s.drawn+i) q hz (by omega);rw[g1.kept.tape,g1.dr,Nat.add_assoc,this,k1.tape,show s.drawn+(s1.drawn-s.drawn+i)=s1.drawn+i by omega]
  refine⟨d,w',u++u',?_,q2,g2.wr,?_,g1.kept.trans g2.kept,λb hb=>(g2.bad b hb).trans (g1.bad b hb),λe he=>?_⟩
  .show (y.bind g).runT R w es=_;rw[FI,r1];simp only[r2,NR]
  .rw[g2.dr,g1.dr];omega
  .rcases Jq.1 he with he|he
   .exact(g1.ev e he).mono g2.kept.size
   .exact g2.ev e he
theorem aG.on{x:Sem α}{f:α->Sem γ}{g:α->Sem δ}(h:aG av S R ag Eq x x)(hk:∀a,aG av S R ag Q' (f a) (g a)):aG av S R ag Q' (x >>= f) (x >>= g):=h.bind λa b e=>by subst e;exact hk a
theorem u7.refl(h:di ag s w):u7 ag s s w w #[]:=⟨h,by omega,.refl w,λ_ _=>rfl,by simp⟩
theorem gZ{a:α}{b:β}(h:Q a b):aG av S R ag Q (pure a) (pure b):=by
 intro s hv;refine⟨λ_ _ hr=>(by cases hr),λa' s' hr=>?_⟩;cases hr
 exact⟨.refl s,hv,⟨b,h⟩,λw es hw _=>⟨b,w,#[],by simp only[nF];rfl,h,.refl hw⟩⟩
theorem az(a:α):aG av S R ag Eq (pure a) (pure a):=gZ rfl
theorem OY{y:Sem β}(hh:l9 h):aG av S R ag Q (.halt h) y:=λs _=>⟨λh' s' hr=>(by cases hr;exact hh),λa s' hr=>by cases hr⟩
theorem aZ{why}{y:Sem β}:aG av S R ag Q (stuck why) y:=OY trivial
theorem dH{y:Sem β}(h:l9 (.unsupported u):=by trivial):aG av S R ag Q (unsupported u) y:=OY h
def qZ(S:Program)(ag:cV){α:Type}(x:Sem α):Prop:=∀s,Sh ag s->(∀h s',x.run S s=.halt h s'->l9 h)/\∀a s',x.run S s=.ok a s'->Sh ag s'
theorem aG.un{x:Sem α}{y:Sem β}(h:aG 0 S R ag Q x y):qZ S ag x:=λs hv=>⟨(h s hv).1,λa s' hr=>((h s hv).2 a s' hr).2.1⟩
theorem qZ.bind{x:Sem α}{f:α->Sem γ}(h:qZ S ag x)(hk:∀a,qZ S ag (f a)):qZ S ag (x >>= f):=by
 intro s hv;have e:(x >>= f).run S s=(x.bind f).run S s:=rfl;rw[e,fq];cases hx:x.run S s with
 |halt z s1=>exact⟨λh' s' hr=>by cases hr;exact(h s hv).1 _ _ hx,λa s' hr=>by cases hr⟩
 |ok a s1=>exact hk a s1 ((h s hv).2 a s1 hx)
def dw(S:Program)(ag:cV){α:Type}(x:Sem α):Prop:=∀s,Sh ag s->∃h s',x.run S s=.halt h s'/\l9 h
theorem dw.k3{x:Sem α}{y:Sem β}(h:dw S ag x):aG av S R ag Q x y:=λs hv=>by obtain⟨z,s1,h1,h2⟩:=h s hv;exact⟨λh' s' hr=>by rw[h1]at hr;cases hr;exact h2,λa s' hr=>by rw[h1]at hr;cases hr⟩
theorem iX h(hh:l9 h:=by trivial):dw S ag (.halt h:Sem α):=λs _=>⟨h,s,rfl,hh⟩
theorem dw.bind{x:Sem α}{f:α->Sem γ}(hx:qZ S ag x)(h:∀a,dw S ag (f a)):dw S ag (x >>= f):=by
 intro s hv;have e:(x >>= f).run S s=(x.bind f).run S s:=rfl;rw[e,fq];cases hr:x.run S s with
 |halt z s1=>exact⟨z,s1,rfl,(hx s hv).1 _ _ hr⟩
 |ok a s1=>exact h a s1 ((hx s hv).2 a s1 hr)
theorem dw.left{x:Sem α}{f:α->Sem γ}(h:dw S ag x):dw S ag (x >>= f):=by intro s hv;obtain⟨z,s1,h1,h2⟩:=h s hv;have e:(x >>= f).run S s=(x.bind f).run S s:=rfl;rw[e,fq,h1];exact⟨z,s1,rfl,h2⟩
theorem iY:aG av S R ag (λp q=>p=S/\q=R) program program:=by
 intro s hv;refine⟨λ_ _ hr=>(by cases hr),λa s' hr=>?_⟩;cases hr
 exact⟨.refl s,hv,⟨R,rfl,rfl⟩,λw es hw _=>⟨R,w,#[],by simp only[nF];rfl,⟨rfl,rfl⟩,.refl hw⟩⟩
theorem di.cell(h:di ag s w){a}(hc:s.cell? a=θ v):¬ag a.block/\w.heap[a.block]?=s.heap[a.block]?/\w.cell? a=θ v:=by
 have hb:¬ag a.block:=λhb=>by obtain⟨t,c,h1,_⟩:=h.bad _ hb;simp[c7,h1]at hc
 rcases h.same _ hb with⟨h1,_⟩|⟨l,h1,_⟩
 .exact⟨hb,h1.symm,by rw[c7,<- h1];exact hc⟩
 .simp[c7,h1]at hc
theorem OZ{a}(hc:s.cell? a=θ v):a.block<s.heap.size:=by
 rcases Nat.lt_or_ge a.block s.heap.size with h|h
 .exact h
 .simp[c7,gx h]at hc
theorem di.nl(h:di ag s w):VU s:=by
 have key:∀(b:Nat) (o:Obj),s.heap[b]?=θ o->(∀c t z,o≠.cells c t z)->(∀c,o≠.coro c)->yL o:=by
  intro b o hb h1 h3;by_cases hs:ag b
  .obtain⟨_,_,e,_⟩:=h.bad b hs;rw[hb]at e;cases e;exact absurd rfl (h1 _ _ _)
  .rcases h.same b hs with⟨_,e⟩|⟨_,e,_⟩
   .exact e o hb
   .rw[hb]at e;cases e;exact absurd rfl (h3 _)
 exact⟨λb l hb=>(key b _ hb (by simp) (by simp)).1 l rfl,λb c t hb=>(key b _ hb (by simp) (by simp)).2 c t rfl⟩
theorem di.sh(h:di ag s w):Sh ag s:=⟨h.nl,λb hb=>let ⟨t,_,h1,_⟩:=h.bad b hb;⟨t,h1⟩⟩
theorem di.get(h:di ag s w){b}(hb:¬ag b)(ho:s.heap[b]?=θ o)(hc:o≠.coro η):w.heap[b]?=θ o:=by
 rcases h.same b hb with⟨e,_⟩|⟨l,e,_⟩
 .rw[<-e];exact ho
 .rw[ho]at e;cases e;exact absurd rfl hc
theorem afW{bs}(h:v.bytes?=θ bs):bs.length≠0:=by
 cases v<;>simp only[Value.bytes?,Γ,reduceCtorEq]at h
 .subst h;simp
 .rename_i k n;subst h;cases k<;>simp[u6,leBytes]
 .rename_i k n;subst h;cases k<;>simp[VT,leBytes]
 .rename_i k n m;subst h;cases k<;>simp[VT,leBytes]
theorem seen_cells{e:Θ}{f stop}(h:x<stop):∃z,Fx p #[] e f x stop=.error z:=by
 cases f with
 |zero=>exact⟨_,rfl⟩
 |succ f=>
  unfold Fx;rw[ς (by omega)];dsimp only;split
  .exact⟨_,rfl⟩
  .split
   .exact⟨_,rfl⟩
   .split
    .exact⟨_,rfl⟩
    .rename_i h;simp at h
theorem O0{a}{u t:Θ}{z}(h:s.heap[a.block]?=θ (.cells #[] t z)):∃e,s.seen p a u k m=.error e:=by
 unfold Jy;simp only[h,bind,AH];split
 .exact⟨_,rfl⟩
 cases h1:Fy p p.depth u k.off with
 |none=>exact⟨_,rfl⟩
 |some like=>
  dsimp only;cases h2:like.bytes? with
  |none=>exact⟨_,rfl⟩
  |some bs=>
   have hb:=afW h2;dsimp only[nK];cases h3:tI p p.depth u k.off with
   |none=>exact⟨_,rfl⟩
   |some β=>
    dsimp only;split
    .exact⟨_,rfl⟩
    .cases h4:tI p p.depth t (a.off%p.cellsOf t)with
     |none=>exact⟨_,rfl⟩
     |some b0=>
      dsimp only;obtain⟨z,hz⟩:=seen_cells (p:=p) (e:=t) (f:=bs.length+1) (x:=a.off/p.cellsOf t*p.bytesOf t+b0+β) (stop:=a.off/p.cellsOf t*p.bytesOf t+b0+β+bs.length) (by omega);rw[hz];exact⟨_,rfl⟩
theorem afX{a}{u:Θ}(h:s.heap[a.block]?=w.heap[a.block]?):s.seen p a u k m=w.seen p a u k m:=by unfold Jy;rw[h]
theorem O1{a}{u e:Θ}{c}{z}(h:s.seen p a u k m=.ok (c,e,z,r)):s.heap[a.block]?=θ (.cells c e z):=by
 unfold Jy at h;simp only[bind,AH]at h;split at h
 .cases h
 cases h1:Fy p p.depth u k.off with
 |none=>rw[h1]at h;cases h
 |some like=>
  rw[h1]at h;dsimp only at h;cases h2:like.bytes? with
  |none=>rw[h2]at h;cases h
  |some bs=>
   rw[h2]at h;dsimp only[nK]at h;cases h3:tI p p.depth u k.off with
   |none=>rw[h3]at h;cases h
   |some β=>
    rw[h3]at h;dsimp only at h;cases h5:s.heap[a.block]? with
    |none=>rw[h5]at h;cases h
    |some o=>
     rw[h5]at h;(cases o<;>first|(cases h;done)|skip);dsimp only at h;split at h
     .cases h
     .split at h
      .split at h
       .cases h
       .split at h
        .split at h
         .split at h
          .cases h
          .cases h;rfl
         .cases h
        .cases h;rfl
      .cases h
theorem di.seen(H:aE S R)(hw:di ag s w){a}{u e:Θ}{c}{z}(h:s.seen S a u k m=.ok (c,e,z,r)):¬ag a.block/\s.heap[a.block]?=θ (.cells c e z)/\w.heap[a.block]?=θ (.cells c e z)/\w.seen R a u k m=.ok (c,e,z,r):=by
 have h1:=O1 h;have hb:¬ag a.block:=λhb=>by obtain⟨t,_,h2,_⟩:=hw.bad _ hb;obtain⟨e,he⟩:=O0 (p:=S) (u:=u) (k:=k) (m:=m) h2;rw[he]at h;cases h
 have h2:=hw.get hb h1 (by simp);exact⟨hb,h1,h2,by rw[<-H.seen,<- afX (h1.trans h2.symm),h]⟩
end
variable{h:Array Obj}{c':Array ay}{m:Mark}{b':Nat}{o:Obj}{p:Program}{v:ay}{s w:υ}
section
variable {av:FuncId}{S R:Program}{ag:cV}{α β γ δ:Type}
theorem afY(H:aE S R)(hv:Sh ag s)a m:(∀e,s.farLoad S a m=.error e→l9 e)∧∀r,s.farLoad S a m=.ok r→∀w,di ag s w→w.cell? a=η∧w.farLoad R a m=.ok r∧∀x∈r.2,x.block<w.heap.size∧¬ag x.block:=by
 cases hb:s.heap[a.block]? with
 |none=>
  have e1 : s.farLoad S a m = .error (s.noCell a "load: no such cell") := by unfold FJ; rw [hb]
  rw[e1];exact⟨λe he=>by cases he;simp[FK,hb,l9],λr hr=>by cases hr⟩
 |some o=>
  cases o with
  |view at_ u=>
   have e1:∀(p:Program) (w:υ),w.heap[a.block]?=θ (.view at_ u)→w.farLoad p a m=match w.viewLoad p at_ u a m with
    | .ok r=>.ok r
    | .error why=>.error (.unsupported (.unsafePointer why)):=λp w hw=>by unfold FJ;rw[hw];rfl
   rw[e1 _ _ hb];cases hl:s.viewLoad S at_ u a m with
   |error why=>exact⟨λe he=>(by cases he;trivial),λr hr=>by cases hr⟩
   |ok r=>
    (refine⟨λe he=>(by cases he),λr' hr w hw=>?_⟩;(cases hr);have hnb:¬ag a.block:=λh=>by obtain⟨t,_,h2,_⟩:=hw.bad _ h;rw[hb]at h2;cases h2);have hb':=hw.get hnb hb (by simp);rw[e1 _ _ hb'];refine⟨by simp[c7,hb'],?_⟩;unfold World.viewLoad at hl ⊢;cases hs:s.seen S at_ u a m with
    |error why=>rw[hs]at hl;cases hl
    |ok q=>
     obtain⟨c,e,z,q⟩:=q;obtain⟨g1,g2,g3,g4⟩:=hw.seen H hs;rw[hs]at hl;rw[g4];dsimp only[bind,AH]at hl ⊢;rw[hl];refine⟨rfl,λx hx=>?_⟩;have hx':x.block=at_.block:=by
      split at hl
      ·(cases hl);obtain⟨y,_,rfl⟩:=List.mem_map.1 hx;rfl
      .cases hl
     rw[hx'];exact⟨(ξ.1 g3).1,g1⟩
  |pending c t=>exact absurd hb (hv.nl.2 _ _ _)
  |_=>
   have e1 : s.farLoad S a m = .error (s.noCell a "load: no such cell") := by unfold FJ; rw [hb]
   rw[e1];exact⟨λe he=>by cases he;simp[FK,hb,l9],λr hr=>by cases hr⟩
theorem FM(H:aE S R)a:aG av S R ag Eq (load a) (load a):=by
 intro s hv;simp only[load,jw];cases hc:s.cell? a with
 |none=>
  obtain⟨h1,h2⟩:=afY H hv a (sr==sj);cases hf:s.farLoad S a (sr==sj)with
  |error e=>
   simp only;exact⟨λh s' hr=>(by cases hr;exact h1 _ hf),λv s' hr=>by cases hr⟩
  |ok r=>
   simp only;refine⟨λh s' hr=>(by cases hr),λv s' hr=>?_⟩;(cases hr);refine⟨.refl s,hv,⟨_,rfl⟩,λw es hw _=>?_⟩;obtain⟨c1,c2,c3⟩:=h2 r hf w hw;refine⟨r.1,w,r.2.toArray.map (⟨.cell ·,ο,sr==sj⟩),?_,rfl,hw,by omega,.refl w,λ_ _=>rfl,λe he=>?_⟩
   .simp only[nJ,c1,c2]
   .obtain⟨x,hx,rfl⟩:=Array.mem_map.1 he;have:=c3 x (by simpa using hx);exact .inr (.inl ⟨x,ο,rfl,this.1,this.2⟩)
 |some u=>
  refine⟨λh s' hr=>(by cases hr),λv s' hr=>?_⟩;cases hr
  refine⟨.refl s,hv,⟨_,rfl⟩,λw es hw _=>?_⟩;obtain⟨hb,_,dV⟩:=hw.cell hc;refine⟨u,w,#[⟨.cell a,ο,ο⟩],?_,rfl,hw,by omega,.refl w,λ_ _=>rfl,λe he=>?_⟩
  .simp only[nJ,dV];rw[show (sr==sj)=ο from rfl,Fu]
  .simp at he;subst he;exact .inr (.inl ⟨a,ο,rfl,OZ dV,hb⟩)
def O2:ay→Prop
 | .agg _ | .tuple _=>False
 |_=>True
theorem run_store{α:Type}p(hv:O2 v)m a(k:Sem α)w:(Sem.store m a v k).run p w=match w.cell? a with
  | θ _ => if w.frozen? a then .halt (.unsupported (.unsafePointer "a write to bytes that a string shares")) w else k.run p (w.setCell a v)
  |none=>match w.farStore p a v (m== .atomic)with
   | .ok (w,_)=>k.run p w
   | .error h=>.halt h w:=by
 cases v<;>first|exact hv.elim|rfl
theorem VV{α:Type}p(hv:O2 v)m a(k:Sem α)w es:(Sem.store m a v k).runT p w es=match w.cell? a with
  |some _=>
   if w.frozen? a then (.halt (.unsupported (.unsafePointer "a write to bytes that a string shares")) w, es)
   else k.runT p (w.setCell a v) (es.push ⟨.cell a,ν,m== .atomic⟩)
  |none=>match w.farStore p a v (m== .atomic)with
   | .ok (w,touched)=>k.runT p w (es++touched.toArray.map (⟨.cell ·,ν,m== .atomic⟩))
   | .error h=>(.halt h w,es):=by
 cases v<;>first|exact hv.elim|rfl
theorem wT{b}{f:Obj→Obj}:(h.modify b f)[b']?=if b=b' then h[b']?.map f else h[b']?:=by rw[Array.getElem?_modify]
def C7(f:Obj→Obj):Prop:=∀o:Obj,f o=o∨∃c t z c' t' z',o=.cells c t z∧f o=.cells c' t' z'
theorem di.modify(h:di ag s w){b}(hb:¬ag b){f:Obj→Obj}(hf:C7 f):di ag {s with heap:=s.heap.modify b f } {w with heap:=w.heap.modify b f }:=by
 refine⟨by simp[h.size],λb' hb'=>?_,λb' hb'=>?_,λb' o v hb' hs hp hv=>?_⟩
 .simp only[wT];by_cases e:b=b'
  .subst e;simp only[χ];rcases h.same b hb with⟨h1,h2⟩|⟨o,h1,h2,h3⟩
   .rw[←h1];cases hx:s.heap[b]? with
    |none=>exact .inl ⟨rfl,by simp⟩
    |some o=>
     simp only[nK];rcases hf o with e|⟨_,_,_,_,_,_,_,e⟩
     .rw[e];exact .inl ⟨rfl,λp hp=>by cases hp;exact h2 _ hx⟩
     .rw[e];exact .inl ⟨rfl,λp hp=>by cases hp;exact⟨by simp,by simp⟩⟩
   .rw[h1,h2];simp only[nK];rcases hf (.coro η)with e|⟨_,_,_,_,_,_,e,_⟩
    .rcases hf o with e'|⟨_,_,_,_,_,_,e',_⟩
     .rw[e,e'];exact .inr ⟨_,rfl,rfl,h3⟩
     .subst e';exact absurd ⟨by simp,by simp⟩ h3.np
    .cases e
  .simp only[ς e];exact h.same b' hb'
 .have e:b≠b':=λe=>hb (e▸hb');simp only[wT,ς e];exact h.bad b' hb'
 .simp only[wT]at hs ⊢;by_cases e:b=b'
  .subst e;rw[χ rfl]at hs ⊢;cases hx:s.heap[b]? with
   |none=>rw[hx]at hs;cases hs
   |some o1=>
    rw[hx]at hs;simp only[nK,Γ]at hs;have e1:f o1=o1:=by
     rcases hf o1 with e|⟨_,_,_,_,_,_,_,e⟩
     .exact e
     .rw[←hs,e]at hp;exact absurd ⟨by simp,by simp,by simp⟩ hp
    rw[e1]at hs;subst hs;have hw:=h.old b o1 v hb hx hp hv;rw[hw];have au:(∀c t z,v≠.cells c t z)→(θ v).map f=θ v:=λh=>by
     rcases hf v with e|⟨_,_,_,_,_,_,e,_⟩
     .simp[e]
     .exact absurd e (h _ _ _)
    rcases h.same b hb with⟨h1,h2⟩|⟨o,h1,h2,h3⟩
    .rw[hx,hw]at h1;(cases h1);simp[e1]
    ·(rw[hw]at h2;cases h2);exact au λc t z e=>h3.np (by subst e;exact⟨by simp,by simp⟩)
  .rw[ς e]at hs ⊢;exact h.old b' o v hb' hs hp hv
theorem O3(h:Sh ag s){b}(hb:¬ag b){f:Obj→Obj}(hf:C7 f):Sh ag {s with heap:=s.heap.modify b f }:=by
 have key:∀(b':Nat) (o:Obj),(∀c t z,o≠.cells c t z)→(s.heap.modify b f)[b']?=θ o→s.heap[b']?=θ o:=by
  intro b' o ho hb';rw[wT]at hb';split at hb'
  .cases hx:s.heap[b']? with
   |none=>rw[hx]at hb';cases hb'
   |some p=>
    rw[hx]at hb';simp only[nK,Γ]at hb';rcases hf p with e|⟨_,_,_,_,_,_,_,e⟩
    .rw[e]at hb';rw[hb']
    .rw[e]at hb';exact absurd hb'.symm (ho _ _ _)
  .exact hb'
 exact⟨⟨λb' l hb'=>h.nl.1 b' l (key b' _ (by simp) hb'),λb' c t hb'=>h.nl.2 b' c t (key b' _ (by simp) hb')⟩,λb' hb'=>by
  simp only[wT];rw[ς (λe:b=b'=>hb (e▸hb'))];exact h.bad b' hb'⟩
theorem Sh.cell(h:Sh ag s){a}(hc:s.cell? a=θ v):¬ag a.block:=λhb=>by obtain⟨t,h1⟩:=h.bad _ hb;simp[c7,h1]at hc
def mb(c:Array ay)(e:Θ)(z:Nat×Nat)(o:Obj):Obj:=match o with | .cells _ _ _=>.cells c e z|o=>o
theorem VW c(e:Θ)z:C7 (mb c e z):=by intro o;cases o<;>first|exact .inl rfl|exact .inr ⟨_,_,_,_,_,_,rfl,rfl⟩
theorem VX{b}{c}{e:Θ}{z}(hb:h[b]?=θ (.cells c e z)):h.setIfInBounds b (.cells c' e z)=h.modify b (mb c' e z):=by
 apply Jo;intro i;rw[wL,wT];by_cases e:b=i
 .subst e;have:=(ξ.1 hb).1;simp only[dF,this,hb,nK,mb]
 .simp only[e,fh]
theorem afZ(H:aE S R)(hv:Sh ag s)a v m:(∀e,s.farStore S a v m=.error e→l9 e)∧∀s' l,s.farStore S a v m=.ok (s',l)→∃(b:Nat) (c:Array ay) (e:Θ) (z:Nat×Nat),¬ag b∧s'={s with heap:=s.heap.modify b (mb c e z) }∧
   ∀w,di ag s w→w.cell? a=η∧w.farStore R a v m=.ok ({w with heap:=w.heap.modify b (mb c e z) },l)∧∀x∈l,x.block<w.heap.size∧¬ag x.block:=by
 cases hb:s.heap[a.block]? with
 |none=>
  have e1 : s.farStore S a v m = .error (s.noCell a "store: no such cell") := by unfold Jx; rw [hb]
  rw[e1];exact⟨λe he=>by cases he;simp[FK,hb,l9],λs' l hr=>by cases hr⟩
 |some o=>
  cases o with
  |view at_ u=>
   have e1:∀(p:Program) (w:υ),w.heap[a.block]?=θ (.view at_ u)→w.farStore p a v m=match w.viewStore p at_ u a v m with
    | .ok r=>.ok r
    | .error why=>.error (.unsupported (.unsafePointer why)):=λp w hw=>by unfold Jx;rw[hw];rfl
   rw[e1 _ _ hb];cases hl:s.viewStore S at_ u a v m with
   |error why=>exact⟨λe he=>(by cases he;trivial),λs' l hr=>by cases hr⟩
   |ok r=>
    refine⟨λe he=>(by cases he),λs' l hr=>?_⟩;(cases hr);cases hs:s.seen S at_ u a m with
    |error why=>
     unfold OV at hl;rw[hs]at hl;dsimp only[bind,AH]at hl;split at hl<;>cases hl
    |ok q=>
     obtain⟨c,e,z,first,like,cells⟩:=q;have hrow:=O1 hs;have main:∃c',s'={s with heap:=s.heap.setIfInBounds at_.block (.cells c' e z) }∧(∀x∈l,x.block=at_.block)∧∀w:υ,w.seen R at_ u a m=.ok (c,e,z,first,like,cells)→w.viewStore R at_ u a v m=.ok ({w with heap:=w.heap.setIfInBounds at_.block (.cells c' e z) },l):=by
      unfold OV at hl ⊢;rw[hs,H.tight]at hl;dsimp only[bind,AH]at hl;split at hl
      .cases hl
      .rename_i ht;split at hl
       .rename_i bytes hby;split at hl
        .cases hl
        .rename_i hlen;split at hl
         .cases hl
         .rename_i c' af0;(cases hl);refine⟨c',rfl,λx hx=>?_,λw hw=>?_⟩
          .obtain⟨y,_,rfl⟩:=List.mem_map.1 hx;rfl
          .rw[hw];dsimp only[bind,AH];rw[ς ht];rw[ς hlen];rw[af0];rfl
       .cases hl
     (obtain⟨c',hs',hx,hgo⟩:=main;have hns:¬ag at_.block:=λh=>by obtain⟨t,h2⟩:=hv.bad _ h;obtain⟨e,he⟩:=O0 (p:=S) (u:=u) (k:=a) (m:=m) h2;rw[he]at hs;cases hs);(refine⟨at_.block,c',e,z,hns,by rw[hs',VX hrow],λw hw=>?_⟩;have hnb:¬ag a.block:=λh=>by obtain⟨t,_,h2,_⟩:=hw.bad _ h;rw[hb]at h2;cases h2);have hb':=hw.get hnb hb (by simp);obtain⟨g1,g2,g3,g4⟩:=hw.seen H hs;refine⟨by simp[c7,hb'],?_,λx hm=>?_⟩
     .rw[e1 _ _ hb',hgo w g4,VX g3]
     .rw[hx x hm];exact⟨(ξ.1 g3).1,g1⟩
  |pending c t=>exact absurd hb (hv.nl.2 _ _ _)
  |_=>
   have e1 : s.farStore S a v m = .error (s.noCell a "store: no such cell") := by unfold Jx; rw [hb]
   rw[e1];exact⟨λe he=>by cases he;simp[FK,hb,l9],λs' l hr=>by cases hr⟩
theorem af1 a(hv:v.bytes?=η)m:∃e,s.farStore p a v m=.error e:=by
 have key:∀at_ u,∃e,s.viewStore p at_ u a v m=.error e:=λat_ u=>by
  unfold OV;dsimp only[bind,AH];split
  .exact⟨_,rfl⟩
  .cases s.seen p at_ u a m with
   |error e=>exact⟨_,rfl⟩
   |ok q=>
    obtain⟨c,e,z,first,like,cells⟩:=q;dsimp only;rw[hv];exact⟨_,rfl⟩
 unfold Jx;split
 .rename_i at_ u _;obtain⟨e,he⟩:=key at_ u;rw[he];exact⟨_,rfl⟩
 .exact⟨_,rfl⟩
theorem af2(H:aE S R)a v:aG av S R ag Eq (store a v) (store a v):=by
 intro s hv;by_cases hs:O2 v
 .simp only[store];rw[run_store _ hs];cases hc:s.cell? a with
  |none=>
   obtain⟨h1,h2⟩:=afZ H hv a v (sr==sj);cases hf:s.farStore S a v (sr==sj)with
   |error e=>
    simp only;exact⟨λh s' hr=>(by cases hr;exact h1 _ hf),λv s' hr=>by cases hr⟩
   |ok r=>
    obtain⟨s1,l⟩:=r;simp only[jw];refine⟨λh s' hr=>(by cases hr),λx s' hr=>?_⟩;(cases hr);obtain⟨b,c,e,z,g1,rfl,h3⟩:=h2 _ l hf;refine⟨⟨Nat.le_refl _,rfl,rfl,rfl,by simp⟩,?_,⟨(),by trivial⟩,λw es hw _=>?_⟩
    .exact O3 hv g1 (VW c e z)
    .obtain⟨g2,g3,g4⟩:=h3 w hw;refine⟨(),_,l.toArray.map (⟨.cell ·,ν,sr==sj⟩),?_,by trivial,hw.modify g1 (VW c e z),by simp,⟨Nat.le_refl _,rfl,rfl,rfl,by simp⟩,λb' hb'=>?_,λev he=>?_⟩
     .rw[VV _ hs,g2];simp only[g3,nJ]
     .simp only[wT];rw[ς (λe:b=b'=>g1 (e▸hb'))]
     .obtain⟨x,hx,rfl⟩:=Array.mem_map.1 he;have:=g4 x (by simpa using hx);exact .inr (.inl ⟨x,ν,rfl,by simpa using this.1,this.2⟩)
  |some u=>
   simp only;cases hz:s.frozen? a with
   |true=>exact⟨λh s' hr=>(by cases hr;trivial),λv s' hr=>by cases hr⟩
   |false=>
    (simp only[Bool.false_eq_true,fh,jw];refine⟨λh s' hr=>(by cases hr),λx s' hr=>?_⟩;(cases hr);have f1:C7 λo=>match o with|Obj.cells c elem frozen=>Obj.cells (if a.spot.isSome then c else c.setIfInBounds a.off v) elem frozen|o=>o:=by intro o;cases o<;>first|exact .inl rfl|exact .inr ⟨_,_,_,_,_,_,rfl,rfl⟩);refine⟨⟨Nat.le_refl _,rfl,rfl,rfl,by simp[eV]⟩,O3 hv (hv.cell hc) f1,⟨(),by trivial⟩,λw es hw _=>?_⟩;obtain⟨hb,he,dV⟩:=hw.cell hc;(have iZ:w.frozen? a=false:=by unfold qY; rw[he];exact hz);refine⟨(),w.setCell a v,#[⟨.cell a,ν,ο⟩],?_,by trivial,hw.modify hb f1,by simp[eV],⟨Nat.le_refl _,rfl,rfl,rfl,by simp[eV]⟩,λb hb'=>?_,λe he=>?_⟩
    .rw[VV _ hs,dV];simp only[iZ,Bool.false_eq_true,fh,nJ];rw[show (sr==sj)=ο from rfl,Fu]
    .simp only[eV,wT];rw[ς (λe:a.block=b=>hb (e▸hb'))]
    .simp at he;subst he;exact .inr (.inl ⟨a,ν,rfl,by simp[eV];exact OZ dV,hb⟩)
 .cases v<;>first|exact absurd trivial hs|exact⟨λh s' hr=>(by cases hr;trivial),λx s' hr=>by cases hr⟩
theorem di.push(h:di ag s w)(ho:Pl o):di ag {s with heap:=s.heap.push o } {w with heap:=w.heap.push o }:=by
 refine⟨by simp[h.size],λb hb=>?_,λb hb=>?_,λb p v hb hs hp hv=>?_⟩
 .simp only[iV,h.size];split
  .exact .inl ⟨rfl,λp e=>by cases e;exact ho.pl⟩
  .exact h.same b hb
 .obtain⟨t,c,h1,h2⟩:=h.bad b hb;have l1:=(ξ.1 h1).1;have l2:=(ξ.1 h2).1;exact⟨t,c,by simp only[iV];rw[ς (by omega)];exact h1,by simp only[iV];rw[ς (by omega)];exact h2⟩
 .simp only[iV]at hs ⊢;split at hs
  .cases hs;exact absurd ho hp
  .rename_i e;rw[ς (by rw[←h.size];exact e)];exact h.old b p v hb hs hp hv
theorem af3(h:Sh ag s)(ho:yL o):Sh ag {s with heap:=s.heap.push o }:=by
 have key:∀(b:Nat) (p:Obj),¬yL p→(s.heap.push o)[b]?=θ p→s.heap[b]?=θ p:=by
  intro b p hp hb;rw[iV]at hb;split at hb
  .cases hb;exact absurd ho hp
  .exact hb
 refine⟨⟨λb l hb=>h.nl.1 b l (key b _ (λx=>x.1 l rfl) hb),λb c t hb=>h.nl.2 b c t (key b _ (λx=>x.2 c t rfl) hb)⟩,λb hb=>?_⟩;obtain⟨t,h1⟩:=h.bad b hb;have l1:=(ξ.1 h1).1;exact⟨t,by simp only[iV];rw[ς (by omega)];exact h1⟩
theorem di.lt(h:di ag s w){b}(hb:ag b):b<s.heap.size:=by obtain⟨_,_,h1,_⟩:=h.bad b hb;exact(ξ.1 h1).1
theorem yM(ho:Pl o):aG av S R ag Eq (uZ o) (uZ o):=by
 intro s hv;refine⟨λh s' hr=>(by cases hr),λx s' hr=>?_⟩;cases hr
 refine⟨⟨Nat.le_refl _,rfl,rfl,rfl,by simp⟩,af3 hv ho.pl,⟨_,rfl⟩,λw es hw _=>⟨w.heap.size,{w with heap:=w.heap.push o },#[],by simp only[nF];rfl,hw.size,hw.push ho,by simp,⟨Nat.le_refl _,rfl,rfl,rfl,by simp⟩,λb hb=>?_,by simp⟩⟩;have:=hw.lt hb;have e:=hw.size;simp only[iV];rw[ς (by omega)]
def O4(a b:Obj):Prop:=(a=b∧yL a)∨∃o,a=.coro η∧b=o∧JA o
theorem u9 r:aG av S R ag O4 (u0 r) (u0 r):=by
 intro s hv;refine⟨λh s' hr=>?_,λx s' hr=>?_⟩
 .simp only[u0,jw]at hr;cases hb:s.heap[r]? with
  |none=>rw[hb]at hr;cases hr;trivial
  |some o=>rw[hb]at hr;cases o<;>first|(cases hr;trivial)|cases hr
 have hr':(match s.heap[r]? with
  | θ (.cells ..) => (Result.halt (.stuck "getObj: a row of cells") s : FA Obj)
  |some o=>.ok o s
  | η => .halt (.stuck "getObj: no such block") s) = .ok x s' := by
  simp only[u0,jw]at hr;cases hb:s.heap[r]? with
  |none=>rw[hb]at hr;cases hr
  |some o=>rw[hb]at hr;cases o<;>(try simp only at hr)<;>exact hr
 cases hb:s.heap[r]? with
 |none=>rw[hb]at hr';exact nomatch hr'
 |some o=>
  have ho:(∀c t f,o≠.cells c t f)∧x=o∧s'=s:=by rw[hb]at hr';cases o<;>simp only[l7,reduceCtorEq]at hr' <;>exact⟨by intros;simp,hr'.1.symm,hr'.2.symm⟩
  obtain⟨hnc,rfl,rfl⟩:=ho;refine⟨.refl _,hv,?_,λw es hw _=>?_⟩
  .cases x with
   |loop l=>exact absurd hb (hv.nl.1 _ _)
   |pending c t=>exact absurd hb (hv.nl.2 _ _ _)
   |_=>exact⟨_,.inl ⟨rfl,by simp,by simp⟩⟩
  ·(have hn:¬ag r:=λh=>by obtain⟨t,c,h1,_⟩:=hw.bad r h;(rw[hb]at h1;cases h1);exact hnc _ _ _ rfl);have key:∀y:Obj,w.heap[r]?=θ y→(∀c t f,y≠.cells c t f)→O4 x y→∃b w' u,(u0 r).runT R w es=(.ok b w',es++u)∧O4 x b∧u7 ag s' s' w w' u:=by
    intro y hy O5 hxy;refine⟨y,w,#[⟨.obj r,ο,y.isChan⟩],?_,hxy,hw,by omega,.refl w,λ_ _=>rfl,λe he=>?_⟩
    .simp only[u0,nJ,hy];cases y<;>first|exact absurd rfl (O5 _ _ _)|(simp only[Fu])
    .simp at he;subst he;exact .inr (.inr ⟨r,ο,_,rfl,(ξ.1 hy).1⟩)
   rcases hw.same r hn with⟨h1,h2⟩|⟨o,h1,h2,h3⟩
   .exact key x (h1▸hb) hnc (.inl ⟨rfl,h2 _ hb⟩)
   ·(rw[hb]at h1;cases h1);have hc:∀c t z,o≠.cells c t z:=λc t z e=>h3.np (by subst e;exact⟨by simp,by simp⟩);exact key _ h2 hc (.inr ⟨_,rfl,rfl,h3⟩)
theorem wU{b}(hb:b<h.size):(h.setIfInBounds b o)[b']?=if b=b' then θ o else h[b']?:=by
 rw[wL];split
 .subst_vars;simp
 .rfl
theorem FN r(ho:Pl o):aG av S R ag Eq (CX r o) (CX r o):=by
 intro s hv;refine⟨λh s' hr=>?_,λx s' hr=>?_⟩
 .simp only[CX,jw]at hr;cases hb:s.heap[r]? with
  |none=>rw[hb]at hr;cases hr;trivial
  |some p=>rw[hb]at hr;cases p<;>first|(cases hr;trivial)|cases hr
 cases hb:s.heap[r]? with
 |none=>simp only[CX,jw,hb]at hr;cases hr
 |some p=>
  have hp:(∀c t f,p≠.cells c t f)∧s'={s with heap:=s.heap.setIfInBounds r o }:=by simp only[CX,jw,hb]at hr;cases p<;>simp only[l7,reduceCtorEq]at hr<;>exact⟨by intros;simp,hr.2.symm⟩
  obtain⟨hnc,rfl⟩:=hp;have hlt:=(ξ.1 hb).1;refine⟨⟨Nat.le_refl _,rfl,rfl,rfl,by simp⟩,?_,⟨_,rfl⟩,λw es hw _=>?_⟩
  .have key:∀(b:Nat) (p:Obj),¬yL p→(s.heap.setIfInBounds r o)[b]?=θ p→s.heap[b]?=θ p:=by
    intro b p hp hb';rw[wU hlt]at hb';split at hb'
    .cases hb';exact absurd ho.pl hp
    .exact hb'
   refine⟨⟨λb l hb'=>hv.nl.1 b l (key b _ (λx=>x.1 l rfl) hb'),λb c t hb'=>hv.nl.2 b c t (key b _ (λx=>x.2 c t rfl) hb')⟩,λb hb'=>?_⟩;obtain⟨t,h1⟩:=hv.bad b hb';refine⟨t,?_⟩;simp only[wU hlt];rw[ς (λe:r=b=>?_)]
   .exact h1
   .subst e;(rw[hb]at h1;cases h1);exact hnc _ _ _ rfl
  .have hn:¬ag r:=λh=>by obtain⟨t,c,h1,_⟩:=hw.bad r h;(rw[hb]at h1;cases h1);exact hnc _ _ _ rfl
   (have hlt':r<w.heap.size:=by rw[←hw.size];exact hlt);obtain⟨y,hy,O5⟩:∃y,w.heap[r]?=θ y∧∀c t f,y≠.cells c t f:=by
    rcases hw.same r hn with⟨h1,h2⟩|⟨o,h1,h2,h3⟩
    .exact⟨p,h1▸hb,hnc⟩
    .exact⟨_,h2,λc t z e=>h3.np (by subst e;exact⟨by simp,by simp⟩)⟩
   refine⟨(),{w with heap:=w.heap.setIfInBounds r o },#[⟨.obj r,ν,o.isChan⟩],?_,rfl,⟨by simp[hw.size],λb hb'=>?_,λb hb'=>?_,λb p' v hb' hs hp hv'=>?_⟩,by simp,⟨Nat.le_refl _,rfl,rfl,rfl,by simp⟩,λb hb'=>?_,λe he=>?_⟩
   .simp only[CX,nJ,hy];cases y<;>first|exact absurd rfl (O5 _ _ _)|(simp only[Fu])
   .simp only[wU hlt,wU hlt'];split
    .exact .inl ⟨rfl,λp e=>by cases e;exact ho.pl⟩
    .exact hw.same b hb'
   .have e:r≠b:=λe=>hn (e▸hb');simp only[wU hlt,wU hlt',ς e];exact hw.bad b hb'
   .simp only[wU hlt,wU hlt']at hs ⊢;split at hs
    .cases hs;exact absurd ho hp
    .rename_i e;rw[ς e];exact hw.old b p' v hb' hs hp hv'
   .have e:r≠b:=λe=>hn (e▸hb');simp only[wU hlt',ς e]
   .simp at he;subst he;exact .inr (.inr ⟨r,ν,_,rfl,by simpa using hlt'⟩)
theorem mQ q(hz:∀j,q≠.order av j:=by intro j e;cases e):aG av S R ag Eq (choose q) (choose q):=by
 intro s hv;refine⟨λh s' hr=>?_,λx s' hr=>?_⟩
 .simp only[choose,jw]at hr;split at hr<;>cases hr
 by_cases hq:q.forced=ν
 .simp only[choose,jw,hq,dF]at hr;cases hr
  exact⟨.refl s,hv,⟨_,rfl⟩,λw es hw _=>⟨0,w,#[],by simp only[choose,nJ,hq,dF,nF],rfl,.refl hw⟩⟩
 .simp only[choose,jw,hq]at hr;cases hr
  refine⟨⟨by simp,rfl,rfl,rfl,Nat.le_refl _⟩,⟨hv.nl,hv.bad⟩,⟨_,rfl⟩,λw es hw hA=>⟨_,{w with drawn:=w.drawn+1 },#[],by simp only[choose,nJ,hq,nF];rfl,?_,⟨hw.1,hw.2,hw.3,hw.4⟩,by simp,⟨by simp,rfl,rfl,rfl,Nat.le_refl _⟩,λ_ _=>rfl,by simp⟩⟩;have:=hA 0 q hz (by simp);simp only[Nat.add_zero]at this;rw[this]
theorem O6(hm:m=.noRoom∨∃f,m=.extern f):aG av S R ag Eq (mark m) (mark m):=by
 intro s hv;refine⟨λh s' hr=>(by cases hr),λx s' hr=>?_⟩;cases hr
 exact⟨.refl s,hv,⟨_,rfl⟩,λw es hw _=>⟨(),w,#[⟨.mark m,ο,ν⟩],by simp only[mark,nJ,Fu],rfl,hw,by omega,.refl w,λ_ _=>rfl,λe he=>.inl ⟨m,hm,by simpa using he⟩⟩⟩
theorem VY:aG av S R ag Eq (mark .noRoom) (mark .noRoom):=O6 (.inl rfl)
def ShR(ag:cV)(r:Nat)(a b:Option (Θ×Nat)):Prop:=a=b∨(ag r∧∃t n,a=θ (t,0)∧b=θ (t,n))
theorem q3 r:aG av S R ag (ShR ag r) (CZ r) (CZ r):=by
 intro s hv;refine⟨λh s' hr=>(by cases hr),λx s' hr=>?_⟩;cases hr
 refine⟨.refl s,hv,⟨_,.inl rfl⟩,λw es hw _=>⟨w.shape? r,w,#[],by simp only[nF];rfl,?_,.refl hw⟩⟩;by_cases hb:ag r
 .obtain⟨t,c,h1,h2⟩:=hw.bad r hb;exact .inr ⟨hb,t,c.size,by simp[wS,h1],by simp[wS,h2]⟩
 .rcases hw.same r hb with⟨h1,_⟩|⟨o,h1,h2,h3⟩
  .exact .inl (by simp[wS,h1])
  .refine .inl ?_;cases o<;>first|(simp[wS,h1,h2];done)|exact absurd ⟨by simp,by simp⟩ h3.np
def VZ(ag:cV)(r:Nat)(a b:Bool):Prop:=a=b∧(ag r→a=ο)
theorem C8 a a'(h:a=a'∨(ag a.block∧ag a'.block)):aG av S R ag (VZ ag a.block) (frozen a) (frozen a'):=by
 intro s hv;refine⟨λh s' hr=>(by cases hr),λx s' hr=>?_⟩;cases hr
 have f0:ag a.block→s.frozen? a=false:=λhb=>by obtain⟨t,h1⟩:=hv.bad _ hb;simp[qY,h1]
 refine⟨.refl s,hv,⟨_,rfl,f0⟩,λw es hw _=>⟨w.frozen? a',w,#[],by simp only[nF];rfl,⟨?_,f0⟩,.refl hw⟩⟩;have bd:∀x:bP,ag x.block→w.frozen? x=false:=λx hb=>by obtain⟨t,c,h1,h2⟩:=hw.bad _ hb;simp[qY,h2]
 rcases h with rfl|⟨h1,h2⟩
 .by_cases hb:ag a.block
  .rw[f0 hb,bd a hb]
  .rcases hw.same _ hb with⟨h1,_⟩|⟨o,h1,h2,h3⟩
   .simp[qY,h1]
   .cases o<;>first|(simp[qY,h1,h2];done)|exact absurd ⟨by simp,by simp⟩ h3.np
 .rw[f0 h1,bd a' h2]
theorem V2 a n(hn:¬ag a.block):aG av S R ag Eq (freeze a n) (freeze a n):=by
 intro s hv;refine⟨λh s' hr=>(by cases hr),λx s' hr=>?_⟩;have hr':s'=s.freeze a n:=by cases hr;rfl
 subst hr';by_cases h0:n=0
 .have e0:∀w:υ,w.freeze a n=w:=λw=>by simp[World.freeze,h0]
  rw[e0];exact⟨.refl s,hv,⟨_,rfl⟩,λw es hw _=>⟨_,w,#[],by simp only[freeze,nJ,e0,nF],rfl,.refl hw⟩⟩
 .have f1:C7 λo=>match o with|Obj.cells c elem (lo,hi)=>Obj.cells c elem (if lo==hi then(a.off,a.off+n)else(min lo a.off,max hi (a.off+n)))|o=>o:=by intro o;cases o<;>first|exact .inl rfl|exact .inr ⟨_,_,_,_,_,_,rfl,rfl⟩
  have e0:∀w:υ,w.freeze a n={w with heap:=w.heap.modify a.block λo=>match o with|Obj.cells c elem (lo,hi)=>Obj.cells c elem (if lo==hi then(a.off,a.off+n)else(min lo a.off,max hi (a.off+n)))|o=>o }:=λw=>by unfold World.freeze;rw[ς h0];rfl
  rw[e0];refine⟨⟨Nat.le_refl _,rfl,rfl,rfl,by simp⟩,O3 hv hn f1,⟨_,rfl⟩,λw es hw _=>⟨_,w.freeze a n,#[],by simp only[freeze,nJ,nF],rfl,?_⟩⟩;rw[e0];refine⟨hw.modify hn f1,by simp,⟨Nat.le_refl _,rfl,rfl,rfl,by simp⟩,λb hb=>?_,by simp⟩;simp only[wT];rw[ς (λe:a.block=b=>hn (e▸hb))]
end
section
variable {av:FuncId}{S R:Program}{ag:cV}{α β γ δ:Type}
theorem mR(H:aE S R)(t:Θ):aG av S R ag Eq (se t) (se t):=by
 unfold se;refine iY.bind ?_;rintro _ _ ⟨rfl,rfl⟩;rw[H.info t];split
 .exact az _
 .exact aZ
theorem ez(H:aE S R)(t:Θ):aG av S R ag Eq (gR t) (gR t):=by
 unfold gR;refine iY.bind ?_;rintro _ _ ⟨rfl,rfl⟩;rw[H.under t];split
 .exact az _
 .exact aZ
theorem qb(H:aE S R)(t:Θ):aG av S R ag Eq (tJ t) (tJ t):=by
 unfold tJ;refine(mR H t).on λi=>?_;split
 .exact az _
 .exact dH
theorem kF(H:aE S R)(t:Θ):aG av S R ag Eq (qU t) (qU t):=(mR H t).on λ_=>az _
theorem V3(H:aE S R)(t:Θ):aG av S R ag Eq (nI t) (nI t):=by unfold nI;refine(ez H t).on λd=>?_;split<;>exact az _
theorem V4(H:aE S R)a:∀(n i:Nat) (acc:Array ay),aG av S R ag Eq (loadCellsFrom a i n acc) (loadCellsFrom a i n acc)
 |0,_,_=>az _
 |n+1,_,_=>(FM H _).on λ_=>V4 H a n _ _
theorem O7(H:aE S R)a n:aG av S R ag Eq (loadCells a n) (loadCells a n):=V4 H a n 0 #[]
theorem C9(H:aE S R)a:∀(l:List ay) (i:Nat),aG av S R ag Eq (storeCells a l i) (storeCells a l i)
 |[],_=>az _
 |_::l,_=>(af2 H _ _).on λ_=>C9 H a l _
theorem FO(H:aE S R)(t:Θ)a:aG av S R ag Eq (Js t a) (Js t a):=by
 unfold Js;refine(V3 H t).on λb=>?_;split
 .exact(kF H t).on λn=>(O7 H a n).on λ_=>az _
 .exact FM H a
theorem af4(H:aE S R)(t:Θ)a v:aG av S R ag Eq (storeVar t a v) (storeVar t a v):=by
 unfold storeVar;refine(kF H t).on λn=>?_;split
 .exact aZ
 .exact C9 H a _ 0
theorem AV(t:Θ)c:aG av S R ag Eq (newRow t c) (newRow t c):=(yM ⟨by simp,by simp,by simp⟩).on λ_=>az _
theorem O8(t:Θ)v:aG av S R ag Eq (newVar t v) (newVar t v):=AV t _
theorem qc(H:aE S R)(t:Θ)c o:aG av S R ag Eq (part t c o) (part t c o):=by
 unfold part;refine(V3 H t).on λb=>?_;split
 .exact(kF H t).on λ_=>az _
 .split
  .exact az _
  .exact aZ
theorem JB v:aG av S R ag Eq (asIntOf v) (asIntOf v):=by unfold asIntOf;split<;>first|exact az _|exact dH|exact aZ
theorem AW v:aG av S R ag Eq (asInt v) (asInt v):=(JB v).on λ_=>az _
theorem O9 v:aG av S R ag Eq (asBool v) (asBool v):=by unfold asBool;split<;>first|exact az _|exact aZ
theorem af5 v:aG av S R ag Eq (asAgg v) (asAgg v):=by unfold asAgg;split<;>first|exact az _|exact aZ
theorem Da v:aG av S R ag Eq (tL v) (tL v):=by unfold tL;split<;>first|exact az _|exact aZ
theorem Pa(H:aE S R)(t:Θ):aG av S R ag Eq (elemOf t) (elemOf t):=by
 unfold elemOf;refine(ez H t).on λd=>?_;split
 .exact az _
 .exact aZ
theorem tN(H:aE S R)e:dw S ag (runtimePanic e:Sem α):=by unfold runtimePanic;refine dw.bind (iY (R:=R)).un λp=>?_;cases e<;>first|exact iX _|exact dw.bind (Pa H _).un λ_=>dw.bind (O8 (R:=R) _ _).un λ_=>iX _
theorem af6(H:aE S R)k x y c:dw S ag (boundsPanic k x y c:Sem α):=by
 unfold boundsPanic;dsimp only;split
 .exact dw.bind (aG.on (mQ (R:=R) _) λ_=>az _).un λ_=>tN H _
 .exact dw.bind (az (R:=R) _).un λ_=>tN H _
theorem k4(H:aE S R){Q:α->β->Prop}{e}{y:Sem β}:aG av S R ag Q (runtimePanic e) y:=(tN H e).k3
theorem FP(H:aE S R){Q:α->β->Prop}{k}{x z}{c}{y:Sem β}:aG av S R ag Q (boundsPanic k x z c) y:=(af6 H k x z c).k3
theorem ve{Q:α->β->Prop}{γ:Type}{w}{f:γ->Sem α}{y:Sem β}:aG av S R ag Q (stuck w >>= f) y:=(dw.left (iX _)).k3
theorem JC n:aG av S R ag Eq (askRoom n) (askRoom n):=by
 unfold askRoom;split
 .exact VY
 .exact az _
end
section
variable {av:FuncId}{S R:Program}{ag:cV}{α β γ δ:Type}
theorem ShR.isSome{r}{a b:Option (Θ×Nat)}(h:ShR ag r a b):a.isSome=b.isSome:=by rcases h with rfl|⟨_,t,n,rfl,rfl⟩<;>rfl
theorem JD r:aG av S R ag Eq (wO r) (wO r):=by
 unfold wO;refine(q3 r).bind λx y h=>?_;rw[h.isSome];split
 .exact gZ rfl
 .refine(u9 r).bind λo o' h'=>?_;rcases h' with⟨rfl,_⟩|⟨o,rfl,rfl,⟨l,rfl⟩|⟨c,t,rfl⟩⟩
  .split<;>exact gZ rfl
  .exact gZ rfl
  .exact gZ rfl
theorem Pb a:aG av S R ag Eq (noView a) (noView a):=by
 unfold noView;refine(JD _).on λx=>?_;split
 .exact dH
 .exact az _
theorem V5 r:aG av S R ag Eq (numberAt r) (numberAt r):=by
 unfold numberAt;refine(q3 r).bind λx y h=>?_;rw[h.isSome];split
 .exact az _
 .refine(u9 r).bind λo o' h'=>?_;rcases h' with⟨rfl,_⟩|⟨o,rfl,rfl,⟨l,rfl⟩|⟨c,t,rfl⟩⟩
  .split<;>exact az _
  .exact az _
  .exact az _
theorem Db n:aG av S R ag Eq (behindNumber n) (behindNumber n):=(V5 _).on λ_=>az _
theorem V6 a:aG av S R ag (VZ ag a.block) (N5 a) (N5 a):=by
 unfold N5;refine(C8 a a (.inl rfl)).bind λx y h=>?_;obtain⟨rfl,h0⟩:=h;split
 .rename_i hx;exact gZ ⟨rfl,λhb=>by rw[h0 hb]at hx;cases hx⟩
 .refine(q3 a.block).bind λp q h=>?_;rcases h with rfl|⟨hb,t,n,rfl,rfl⟩
  .split
   .exact C8 _ _ (.inl rfl)
   .exact gZ ⟨rfl,λ_=>rfl⟩
  .exact C8 _ _ (.inr ⟨hb,hb⟩)
theorem af7 a b:aG av S R ag Eq (mayBeOne a b) (mayBeOne a b):=by
 unfold mayBeOne;refine(V6 a).bind λx y h=>?_;obtain⟨rfl,ha⟩:=h;refine(V6 b).bind λz u h=>?_;obtain⟨rfl,hb⟩:=h;refine aG.bind (Q:=λp q=>x=ν→p=q) ?_ λp q hp=>?_
 .refine(q3 a.block).bind λp q h=>gZ λhx=>?_;rcases h with rfl|⟨hs,_⟩
  .rfl
  .rw[ha hs]at hx;cases hx
 .refine aG.bind (Q:=λp q=>z=ν→p=q) ?_ λp' q' hp'=>gZ ?_
  .refine(q3 b.block).bind λp q h=>gZ λhx=>?_;rcases h with rfl|⟨hs,_⟩
   .rfl
   .rw[hb hs]at hx;cases hx
  .cases x<;>cases z<;>simp_all
theorem V7 a b:aG av S R ag Eq (sameAddr a b) (sameAddr a b):=by
 unfold sameAddr;split
 .exact az _
 .refine(C8 a a (.inl rfl)).bind λx y h=>?_;obtain⟨rfl,_⟩:=h;refine(C8 b b (.inl rfl)).bind λz u h=>?_;obtain⟨rfl,_⟩:=h;split
  .exact dH
  .refine(Pb a).on λ_=>(Pb b).on λ_=>(af7 a b).on λm=>?_;split
   .exact(mQ _).on λ_=>az _
   .exact az _
theorem af8 a b:aG av S R ag Eq (NV a b) (NV a b):=by
 unfold NV;split
 .exact V7 _ _
 .exact az _
theorem yN{α γ:Type}:∀(l:List α) (f f':α→γ→Sem (ForInStep γ)) (g:γ),(∀x g,aG av S R ag Eq (f x g) (f' x g))→aG av S R ag Eq (forIn l g f) (forIn l g f')
 |[],_,_,_,_=>gZ rfl
 |x::l,f,f',g,h=>by
  simp only[List.forIn_cons];refine(h x g).bind λr r' e=>?_;subst e;cases r with
  |done b=>exact gZ rfl
  |«yield» b=>exact yN l f f' b h
theorem AX(H:aE S R)a:aG av S R ag Eq (FD a) (FD a):=by
 unfold FD;split
 .exact az _
 .refine iY.bind ?_;rintro p q ⟨hp,hq⟩;rw[hp,hq];refine(Pb a).on λ_=>(q3 _).bind λx y h=>?_;have key:∀(e:Θ) (n m:Nat),aG av S R ag Eq (match θ (e,n)with
    |some (e,_)=>if S.cellsOf e=0 then pure 0 else match tI S S.depth e (a.off%S.cellsOf e)with
     |some b=>pure (a.off/S.cellsOf e*S.bytesOf e+b)
     | _ => stuck "byteOf: no such cell"
    | _ => stuck "byteOf: no such block") (match θ (e, m) with
    |some (e,_)=>if R.cellsOf e=0 then pure 0 else match tI R R.depth e (a.off%R.cellsOf e)with
     |some b=>pure (a.off/R.cellsOf e*R.bytesOf e+b)
     | _ => stuck "byteOf: no such cell"
    | _ => stuck "byteOf: no such block") := fun e n m => by
   simp only[H.cellsOf,H.bytesOf,H.boc];split
   .exact az _
   .split
    .exact az _
    .exact aZ
  rcases h with rfl|⟨_,t,n,rfl,rfl⟩
  .cases x with
   |none=>exact aZ
   |some x=>exact key x.1 x.2 x.2
  .exact key t 0 n
theorem V8(H:aE S R)(t:Θ):aG av S R ag Eq (typeStr t) (typeStr t):=by
 unfold typeStr;refine(mR H t).on λi=>?_;dsimp only;split
 .exact dH
 .exact az _
theorem JE(H:aE S R):∀(d:Nat) (t:Θ) (x y:ay),aG av S R ag Eq (FG d t x y) (FG d t x y)
 |0,_,_,_=>dH
 |d+1,t,x,y=>by
  unfold FG;refine(ez H t).on λdd=>?_;split
  case h_5=>
   refine(Db _).on λp=>(Db _).on λq=>?_;dsimp only;refine iY.bind ?_;rintro u v ⟨hu,hv⟩;rw[hu,hv,H.acs];split
   .exact(AX H _).on λ_=>(AX H _).on λ_=>az _
   .refine(mR H t).on λi=>?_;split
    .split
     .exact az _
     .exact dH
    .exact dH
  case h_13=>
   refine(kF H _).on λn=>?_;split
   .exact V7 _ _
   .split
    .exact az _
    .exact(mQ _).on λ_=>az _
  case h_19=>
   split
   .exact az _
   .refine(mR H _).on λi=>?_;split
    .refine dw.k3 ?_;refine dw.bind (iY (R:=R)).un λp=>dw.bind (iY (R:=R)).un λq=>?_;split
     .exact iX _
     .exact dw.bind (V8 H _).un λ_=>tN H _
    .exact JE H d _ _ _
  case h_20=>
   refine iY.bind ?_;rintro u v ⟨hu,hv⟩;rw[hu,hv,H.held];split
   .exact dH
   .rw[←Jp];refine(yN _ _ _ _ λf g=>?_).on λr=>?_
    .split
     .refine(qc H _ _ _).on λ_=>(qc H _ _ _).on λ_=>(JE H d _ _ _).on λb=>?_;split<;>exact az _
     .exact az _
    .obtain⟨r,u⟩:=r;cases r<;>exact az _
  case h_21=>
   refine(kF H _).on λn=>?_;refine aG.on ?_ λr=>?_
   .rw[OX];refine yN _ _ _ _ λi g=>?_;refine(qc H _ _ _).on λ_=>(qc H _ _ _).on λ_=>(JE H d _ _ _).on λb=>?_;split<;>exact az _
   .obtain⟨r,u⟩:=r;cases r<;>exact az _
  all_goals first
   |exact az _
   |exact aZ
   |exact dH
   |exact af8 _ _
   |(split<;>first|exact az _|exact aZ)
theorem JF(H:aE S R):∀(d:Nat) (t:Θ) (x y:ay),aG av S R ag Eq (OE d t x y) (OE d t x y)
 |0,_,_,_=>dH
 |d+1,t,x,y=>by
  unfold OE;refine(ez H t).on λdd=>?_;split
  .exact az _
  .rw[←Jp];refine(yN _ _ _ _ λf g=>?_).on λr=>?_
   .split
    .refine(qc H _ _ _).on λ_=>(qc H _ _ _).on λ_=>(JF H d _ _ _).on λb=>?_;split<;>exact az _
    .exact az _
   .obtain⟨r,u⟩:=r;cases r<;>exact az _
  .refine(kF H _).on λn=>?_;refine aG.on ?_ λr=>?_
   .rw[OX];refine yN _ _ _ _ λi g=>?_;refine(qc H _ _ _).on λ_=>(qc H _ _ _).on λ_=>(JF H d _ _ _).on λb=>?_;split<;>exact az _
   .obtain⟨r,u⟩:=r;cases r<;>exact az _
  .exact az _
theorem V9(H:aE S R)(t:Θ)x y:aG av S R ag Eq (FH t x y) (FH t x y):=JE H _ t x y
end
section
variable {av:FuncId}{S R:Program}{ag:cV}{α β γ δ:Type}
theorem Wa(H:aE S R)(t:Θ)v:aG av S R ag Eq (AL t v) (AL t v):=(Da v).on λa=>FO H t a
theorem Wb(H:aE S R)(t:Θ)v x:aG av S R ag Eq (Jw t v x) (Jw t v x):=(Da v).on λa=>af4 H t a x
theorem af9(H:aE S R)(t:Θ):aG av S R ag Eq (Instr.alloc t ν (.tuple #[])) (Instr.alloc t ν (.tuple #[])):=(qb H t).on λ_=>(O8 _ _).on λ_=>az _
theorem aga(t:Θ)v:aG av S R ag Eq (Instr.box t v) (Instr.box t v):=(O8 _ _).on λ_=>az _
theorem agb v i:aG av S R ag Eq (AM v i) (AM v i):=by
 unfold AM;split
 .split
  .exact az _
  .exact aZ
 .exact aZ
theorem agc(H:aE S R)(t:Θ)v i:aG av S R ag Eq (Ox t v i) (Ox t v i):=by
 unfold Ox;refine(ez H t).on λd=>?_;split
 .split
  .exact(af5 v).on λ_=>qc H _ _ _
  .exact aZ
 .exact aZ
theorem agd(H:aE S R)a m n:aG av S R ag Eq (partAt a m n) (partAt a m n):=(AX H a).on λ_=>(AX H _).on λ_=>az _
theorem Pc(H:aE S R)a f:aG av S R ag Eq (CW a f) (CW a f):=by
 unfold CW;refine(kF H _).on λn=>?_;split
 .exact agd H _ _ _
 .exact az _
theorem Pd(H:aE S R)(t:Θ)v i:aG av S R ag Eq (tM t v i) (tM t v i):=by
 unfold tM;refine(ez H t).on λd=>?_;split
 .split
  .exact(Da v).on λa=>(Pc H a _).on λ_=>az _
  .exact aZ
 .exact aZ
theorem age(H:aE S R)(t:Θ)x i:aG av S R ag Eq (Oy t x i) (Oy t x i):=by
 unfold Oy;refine(JB i).on λk=>(ez H t).on λd=>?_;split
 .split
  .exact(kF H _).on λ_=>qc H _ _ _
  .exact FP H
 .split
  .exact az _
  .exact FP H
 .exact aZ
theorem agf(H:aE S R)(t:Θ)x i:aG av S R ag Eq (Ot t x i) (Ot t x i):=by
 unfold Ot;refine(JB i).on λk=>(ez H t).on λd=>?_
 repeat' (first|exact az _|exact aZ|exact dH|exact FP H|exact k4 H|exact kF H _|exact Da _|exact ez H _|exact AV _ _|exact qb H _|split|(refine aG.on ?_ λ_=>?_)|dsimp only)
theorem agh(H:aE S R)x y c:aG av S R ag Eq (Oj x y c) (Oj x y c):=by
 unfold Oj;refine(JB x).on λk=>?_;split;split
 .exact az _
 .exact FP H
theorem JG(H:aE S R)b l c lo hi mx:aG av S R ag Eq (Oi b l c lo hi mx) (Oi b l c lo hi mx):=by
 unfold Oi
 repeat' (first|exact az _|exact aZ|exact agh H _ _ _|split|(refine aG.on ?_ λ_=>?_)|dsimp only)
theorem FQ(H:aE S R)v:aG av S R ag Eq (asAddr v) (asAddr v):=by
 unfold asAddr;split
 .exact az _
 .exact k4 H
 .exact aZ
theorem agi(H:aE S R)(t:Θ)x lo hi mx:aG av S R ag Eq (Oz t x lo hi mx) (Oz t x lo hi mx):=by
 unfold Oz;refine(ez H t).on λd=>?_;split
 .split
  .exact aZ
  .exact(JG H _ _ _ _ _ _).on λ_=>az _
 .exact(JG H _ _ _ _ _ _).on λ_=>(kF H _).on λ_=>az _
 .refine(FQ H _).on λa=>(ez H _).on λd=>?_;split
  .exact(JG H _ _ _ _ _ _).on λ_=>(kF H _).on λ_=>az _
  .exact aZ
 .exact aZ
theorem agj(H:aE S R)(t:Θ)x lo hi mx:aG av S R ag Eq (Ou t x lo hi mx) (Ou t x lo hi mx):=by
 unfold Ou;refine(ez H t).on λd=>?_;split
 .exact(Da _).on λa=>(JG H _ _ _ _ _ _).on λ_=>(kF H _).on λ_=>az _
 .exact agi H _ _ _ _ _
theorem agk(H:aE S R)(t:Θ)l c:aG av S R ag Eq (Oo t l c) (Oo t l c):=by
 unfold Oo;refine(ez H t).on λd=>?_;split
 .refine(AW l).on λl=>(AW c).on λc=>(mR H _).on λi=>?_
  repeat' (first|exact az _|exact k4 H|exact mQ _|exact kF H _|exact AV _ _|exact qb H _|exact JC _|split|(refine aG.on ?_ λ_=>?_)|dsimp only)
 .exact aZ
theorem mapM_ok{α γ:Type}(f:α->Sem γ)(hf:∀x,aG av S R ag Eq (f x) (f x)):∀(l:List α),aG av S R ag Eq (l.mapM f) (l.mapM f)
 |[]=>by simp only[List.mapM_nil];exact az _
 |x::l=>by simp only[List.mapM_cons];exact(hf x).on λ_=>(mapM_ok f hf l).on λ_=>az _
theorem agl{α γ:Type}(f:α->Sem γ)(hf:∀x,aG av S R ag Eq (f x) (f x))(l:Array α):aG av S R ag Eq (l.mapM f) (l.mapM f):=by rw[VR,map_eq_pure_bind];exact(mapM_ok f hf _).on λ_=>az _
theorem agn(H:aE S R)(t:Θ)l:aG av S R ag Eq (OA t l) (OA t l):=by
 unfold OA;refine(qb H t).on λz=>(ez H t).on λd=>?_;split
 .refine(agl _ (λf=>(kF H _).on λ_=>az _) _).on λp=>?_;split
  .exact az _
  .exact aZ
 .refine(kF H _).on λn=>?_;split
  .exact az _
  .exact aZ
 .exact aZ
theorem ago(H:aE S R)(t:Θ)n l:aG av S R ag Eq (Ol t n l) (Ol t n l):=by
 unfold Ol
 repeat' (first|exact az _|exact aZ|exact dH|exact FP H|exact k4 H|exact kF H _|exact Da _|exact ez H _|exact AV _ _|exact qb H _|split|(refine aG.on ?_ λ_=>?_)|dsimp only)
theorem agp(H:aE S R)(t:Θ)r:aG av S R ag Eq (Ov t r) (Ov t r):=by
 unfold Ov;have e:aG av S R ag Eq (do pure (Value.map (θ (<- uZ (.map #[] 0)))):Sem ay) (do pure (Value.map (θ (<- uZ (.map #[] 0))))):=(yM ⟨by simp,by simp⟩).on λ_=>az _;split
 .refine(ez H t).on λd=>?_;split
  .exact(AW _).on λ_=>e
  .exact aZ
 .exact e
theorem Dc(H:aE S R)b:∀(d:Nat) (t:Θ) (v:ay),aG av S R ag Eq (Oq b d t v) (Oq b d t v)
 |0,_,_=>dH
 |d+1,t,v=>by
  unfold Oq;refine(ez H t).on λdd=>?_;split
  .refine(mR H _).on λi=>?_;split
   .refine dw.k3 ?_;split
    .exact(tN H _).left
    .exact dw.bind (V8 H _).un λ_=>(tN H _).left
   .exact Dc H b d _ _
  .rw[OX];refine(yN _ _ _ _ λi g=>?_).on λ_=>az _;exact(kF H _).on λ_=>(qc H _ _ _).on λ_=>(Dc H b d _ _).on λ_=>az _
  .rw[<-Jp];refine(yN _ _ _ _ λf g=>?_).on λ_=>az _;split
   .exact(qc H _ _ _).on λ_=>(Dc H b d _ _).on λ_=>az _
   .exact az _
  all_goals first|exact az _|exact aZ
theorem Wc(H:aE S R)(t:Θ)k:∀(l:List MapEntry) (i:Nat),aG av S R ag Eq (Om t k l i) (Om t k l i)
 |[],_=>az _
 |e::l,i=>by
  unfold Om;refine(V9 H _ _ _).on λb=>?_;split
  .exact az _
  .exact Wc H t k l _
theorem Pe(H:aE S R)(t:Θ)k l:aG av S R ag Eq (Ow t k l) (Ow t k l):=by
 unfold Ow;refine(ez H t).on λd=>?_;split
 .exact az _
 .exact Wc H t k l 0
theorem agq(H:aE S R)(t:Θ)x i b:aG av S R ag Eq (On t x i b) (On t x i b):=by
 unfold On;refine(ez H t).on λd=>?_;split
 .dsimp only;split
  .refine(az _).on λes=>(Dc H _ _ _ _).on λ_=>(Pe H _ _ _).on λr=>?_
   repeat' (first|exact az _|exact qb H _|split|(refine aG.on ?_ λ_=>?_))
  .refine(u9 _).bind λo o' h=>?_;rcases h with⟨rfl,_⟩|⟨o,rfl,rfl,_⟩
   .split
    .refine(az _).on λes=>(Dc H _ _ _ _).on λ_=>(Pe H _ _ _).on λr=>?_
     repeat' (first|exact az _|exact qb H _|split|(refine aG.on ?_ λ_=>?_))
    .exact ve
   .exact ve
  .exact ve
 .exact aZ
theorem agr a b:aG av S R ag Eq (Oh a b) (Oh a b):=by
 unfold Oh;split
 .exact az _
 .exact(mQ _).on λ_=>az _
theorem Wd(H:aE S R)(t:Θ)m k x:aG av S R ag Eq (C2 t m k x) (C2 t m k x):=by
 unfold C2;refine(ez H t).on λd=>?_;split
 .split
  .exact k4 H
  .refine(u9 _).bind λo o' h=>?_;rcases h with⟨rfl,_⟩|⟨o,rfl,rfl,_⟩
   .split
    .refine(Dc H _ _ _ _).on λ_=>(Pe H _ _ _).on λr=>?_;split
     .exact(agr _ _).on λ_=>FN _ ⟨by simp,by simp⟩
     .exact FN _ ⟨by simp,by simp⟩
    .exact aZ
   .exact aZ
  .exact aZ
 .exact aZ
end
section
variable {av:FuncId}{S R:Program}{ag:cV}{α β γ δ:Type}
theorem Dd(H:aE S R){Q:α->β->Prop}{γ:Type}{e}{f:γ->Sem α}{y:Sem β}:aG av S R ag Q (runtimePanic e >>= f) y:=(tN H e).left.k3
theorem We v:aG av S R ag Eq (Builtin.lenOf v) (Builtin.lenOf v):=by unfold Builtin.lenOf;split<;>first|exact az _|exact aZ
theorem AY(H:aE S R)s n v:aG av S R ag Eq (Builtin.firstCells s n v) (Builtin.firstCells s n v):=by unfold Builtin.firstCells;split<;>first|exact az _|exact aZ|exact O7 H _ _
theorem ags b u(hu:l9 (.unsupported u)):dw S ag (if(!b)=ν then(mark .noRoom >>= λ_=>(unsupported u:Sem Unit))else unsupported u):=by
 split
 .exact dw.bind (VY (R:=S)).un λ_=>iX _ hu
 .exact iX _ hu
theorem agt a n:qZ S ag (Builtin.holdsCells a n):=by unfold Builtin.holdsCells;refine(q3 (R:=S) _).un.bind λx=>?_;split<;>exact(az (R:=S) _).un
theorem agu s l n b x:qZ S ag (Builtin.mayShare s l n b x):=by
 have r:∀c:Bool,qZ S ag (pure c:Sem Bool):=λc=>(az (R:=S) c).un;have fr:∀a,qZ S ag (frozen a):=λa=>(C8 (R:=S) a a (.inl rfl)).un;unfold Builtin.mayShare
 repeat' (first|exact r _|exact agt _ _|exact fr _|split|(refine qZ.bind ?_ λ_=>?_)|dsimp only)
theorem agv(H:aE S R)(ts:Array Θ)(t:Θ)x:aG av S R ag Eq (Builtin.append_ ts t x) (Builtin.append_ ts t x):=by
 unfold Builtin.append_;split
 case h_2=>exact aZ
 refine(ez H _).on λd=>?_;split
 case h_2=>exact aZ
 dsimp only;split
 case h_2=>exact aZ
 refine(kF H _).on λsize=>?_;have key:∀{f:Bool->Sem ay},(∀b,aG av S R ag Eq (f b) (f b))->aG av S R ag Eq (match ts[1]? with
   |some t=>do let d<-gR t;let z<-pure (d matches .int _);f z
   |none=>do let z<-pure ο;f z) (match ts[1]? with
   |some t=>do let d<-gR t;let z<-pure (d matches .int _);f z
   |none=>do let z<-pure ο;f z):=λhf=>by
  split
  .exact(ez H _).on λ_=>(az _).on hf
  .exact(az _).on hf
 refine key λzs=>?_;by_cases hz:zs=ν
 .rw[χ hz];refine(AW _).on λl=>?_;by_cases h1:IntKind.i64.wrap l<0
  .rw[χ h1];exact Dd H
  .rw[ς h1];refine(mR H _).on λi=>?_;by_cases h2:IntKind.i64.wrap l*i.bytes>2 ^ 48
   .rw[χ h2];exact(mQ _).on λ_=>Dd H
   .rw[ς h2];refine(az _).on λn=>?_;split
    .refine aG.on (by repeat' (first|exact AY H _ _ _|exact az _|exact qb H _|split|(refine aG.on ?_ λ_=>?_))) λnew=>?_;split
     .exact(C9 H _ _ _).on λ_=>az _
     .exact az _
    .refine(mR H _).on λi=>?_;split
     .exact Dd H
     .refine(mR H _).on λi=>?_;split
      .refine(dw.left ?_).k3;exact tN H _
      .exact(mQ _).on λc=>(mR H _).on λ_=>(JC _).on λ_=>(AY H _ _ _).on λo=>aG.on (by repeat' (first|exact AY H _ _ _|exact az _|exact qb H _|split|(refine aG.on ?_ λ_=>?_))) λw=>(qb H _).on λz=>(AV _ _).on λ_=>az _
 .rw[ς hz];refine(We _).on λn=>?_;split
  .refine aG.on (by repeat' (first|exact AY H _ _ _|exact az _|exact qb H _|split|(refine aG.on ?_ λ_=>?_))) λnew=>?_;split
   .exact(C9 H _ _ _).on λ_=>az _
   .exact az _
  .refine(mR H _).on λi=>?_;split
   .exact Dd H
   .refine(mR H _).on λi=>?_;split
    .refine(dw.left ?_).k3;exact dw.bind (agu _ _ _ _ _) λ_=>ags _ _ (by trivial)
    .exact(mQ _).on λc=>(mR H _).on λ_=>(JC _).on λ_=>(AY H _ _ _).on λo=>aG.on (by repeat' (first|exact AY H _ _ _|exact az _|exact qb H _|split|(refine aG.on ?_ λ_=>?_))) λw=>(qb H _).on λz=>(AV _ _).on λ_=>az _
theorem agw(H:aE S R)(ts:Array Θ)(t:Θ)x:aG av S R ag Eq (Builtin.copy_ ts t x) (Builtin.copy_ ts t x):=by
 unfold Builtin.copy_
 repeat' (first|exact az _|exact aZ|exact kF H _|exact ez H _|exact We _|exact AY H _ _ _|exact C9 H _ _ _|split|(refine aG.on ?_ λ_=>?_)|dsimp only)
theorem Wf{f:Obj->Sem ay}r(h:∀o,aG av S R ag Eq (f o) (f o))(hc:∃w,f (.coro η)=stuck w):aG av S R ag Eq (u0 r >>= f) (u0 r >>= f):=by
 refine(u9 r).bind λo o' h'=>?_;rcases h' with⟨rfl,_⟩|⟨o,rfl,rfl,_⟩
 .exact h o
 .obtain⟨w,hw⟩:=hc;rw[hw];exact aZ
theorem agx(H:aE S R)(ts:Array Θ)(t:Θ)x:aG av S R ag Eq (Builtin.len_ ts t x) (Builtin.len_ ts t x):=by
 unfold Builtin.len_
 repeat' (first|exact az _|exact aZ|exact ez H _|(refine Wf _ (λo=>?_) ⟨_,rfl⟩)|split|(refine aG.on ?_ λ_=>?_)|dsimp only)
theorem agy(H:aE S R)(ts:Array Θ)(t:Θ)x:aG av S R ag Eq (Builtin.cap_ ts t x) (Builtin.cap_ ts t x):=by
 unfold Builtin.cap_
 repeat' (first|exact az _|exact aZ|exact ez H _|(refine Wf _ (λo=>?_) ⟨_,rfl⟩)|split|(refine aG.on ?_ λ_=>?_)|dsimp only)
theorem agz(H:aE S R)(ts:Array Θ)(t:Θ)x:aG av S R ag Eq (Builtin.clear_ ts t x) (Builtin.clear_ ts t x):=by
 unfold Builtin.clear_;split
 .refine(ez H _).on λd=>?_;dsimp only;split
  case h_4=>
   refine(u9 _).bind λo o' h'=>?_;rcases h' with⟨rfl,_⟩|⟨o,rfl,rfl,_⟩
   .split
    .exact(FN _ ⟨by simp,by simp⟩).on λ_=>az _
    .exact ve
   .exact ve
  all_goals first
   |exact(az _).on λ_=>az _
   |exact(qb H _).on λ_=>(C9 H _ _ _).on λ_=>az _
   |exact ve
 .exact aZ
theorem Pf op a b:aG av S R ag Eq (OI op a b) (OI op a b):=by
 unfold OI
 repeat' (first|exact az _|exact aZ|exact dH|split|dsimp only)
theorem agA a b:aG av S R ag Eq (Builtin.min2 a b) (Builtin.min2 a b):=by
 unfold Builtin.min2
 repeat' (first|exact az _|exact aZ|exact dH|exact Pf _ _ _|exact O9 _|exact mQ _|split|(refine aG.on ?_ λ_=>?_)|dsimp only)
theorem agB a b:aG av S R ag Eq (Builtin.max2 a b) (Builtin.max2 a b):=by
 unfold Builtin.max2
 repeat' (first|exact az _|exact aZ|exact dH|exact Pf _ _ _|exact O9 _|exact mQ _|split|(refine aG.on ?_ λ_=>?_)|dsimp only)
theorem Pg{f}(hf:∀a b,aG av S R ag Eq (f a b) (f a b)):∀(l:List ay) (a:ay),aG av S R ag Eq (l.foldlM f a) (l.foldlM f a)
 |[],_=>by simp only[List.foldlM_nil];exact az _
 |x::l,a=>by simp only[List.foldlM_cons];exact(hf a x).on λ_=>Pg hf l _
theorem agC(ts:Array Θ)(t:Θ)x:aG av S R ag Eq (Builtin.min_ ts t x) (Builtin.min_ ts t x):=by
 unfold Builtin.min_;split
 .exact aZ
 .exact Pg agA _ _
theorem agD(ts:Array Θ)(t:Θ)x:aG av S R ag Eq (Builtin.max_ ts t x) (Builtin.max_ ts t x):=by
 unfold Builtin.max_;split
 .exact aZ
 .exact Pg agB _ _
end
section
variable {av:FuncId}{S R:Program}{ag:cV}{α β γ δ:Type}
theorem agE p d(e:Θ)o k:uY p d e 0 o k=none:=by
 unfold uY;dsimp only;split
 .rfl
 .cases tI p d e (o%p.cellsOf e)with
  |none=>rfl
  |some h=>
   show (if _ then η else _)=η;rw[χ];generalize (Int.ofNat (o/p.cellsOf e*p.bytesOf e+h)+k)=z;simp only[Nat.zero_mul,Bool.or_eq_true,kC];rcases Int.lt_or_le z 0 with h|h
   .exact .inl h
   .exact .inr h
def JH(p:Option bP)(n:Int):Sem Value:=do
 if n < 0 then unsupported (.unsafePointer "Add: a move by a count below zero")
 let θ a := p | unsupported (.unsafePointer "Add")
 let θ (e, cells) ← CZ a.block | unsupported (.unsafePointer "Add")
 let p ←program
 match uY p p.depth e (cells/p.cellsOf e) a.off n with
 |some off=>pure (AR (θ {a with off }))
 | η => unsupported (.unsafePointer "Add")
def Wh(p:Option bP)(y:ay):Sem Value:=do
 let n ←asInt y
 if n=0 then
  let θ a := p | unsupported (.unsafePointer "Add: from nil")
  if (← wO a.block).isSome then unsupported (.unsafePointer "Add: at a place where no cell lies")
  return .pointer p
 JH p n
theorem agF(H:aE S R)p n:aG av S R ag Eq (JH p n) (JH p n):=by
 unfold JH;dsimp only;split
 .exact dH
 .split
  .refine(q3 _).bind λa b h=>?_;have key:∀(e:Θ) (c c':Nat) (ad:bP),(c=c'∨c=0)→aG av S R ag Eq (do
     let p ←program
     match uY p p.depth e (c/p.cellsOf e) ad.off n with
     |some off=>pure (AR (θ {ad with off }))
     | η => unsupported (.unsafePointer "Add")) (do
     let p ←program
     match uY p p.depth e (c' /p.cellsOf e) ad.off n with
     |some off=>pure (AR (θ {ad with off }))
     | η => unsupported (.unsafePointer "Add")) := fun e c c' ad hc => by
    refine iY.bind ?_;rintro p q ⟨hp,hq⟩;rw[hp,hq];rcases hc with rfl|rfl
    .rw[H.cab,H.cellsOf];split
     .exact az _
     .exact dH
    .rw[Nat.zero_div,agE];exact dH
   rcases h with rfl|⟨_,t,m,rfl,rfl⟩
   .cases a with
    |none=>exact dH
    |some a=>exact key _ _ _ _ (.inl rfl)
   .exact key _ _ _ _ (.inr rfl)
  .exact dH
theorem Wi(H:aE S R)(ts:Array Θ)(t:Θ)x y:aG av S R ag Eq (Builtin.unsafeAdd_ ts t #[x,y]) (Builtin.unsafeAdd_ ts t #[x,y]):=by
 cases x
 case pointer p=>
  have e:Builtin.unsafeAdd_ ts t #[.pointer p,y]=Wh p y:=rfl;rw[e];unfold Wh;refine(AW _).on λn=>?_;dsimp only;split
  .split
   .refine(JD _).bind λa b h=>?_;rw[h];split
    .exact dH
    .exact az _
   .exact dH
  .exact agF H _ _
 all_goals exact aZ
theorem Wj(H:aE S R)(t:Θ)x y:aG av S R ag Eq (NW t x y) (NW t x y):=by
 unfold NW
 repeat' (first|exact az _|exact dH|exact ez H _|exact Wi H _ _ _ _|exact Db _|(refine aG.on (yM ⟨by simp,by simp⟩) λ_=>?_)|split|(refine aG.on ?_ λ_=>?_)|dsimp only)
theorem agG(H:aE S R)(t:Θ)x y:aG av S R ag Eq (NU t x y) (NU t x y):=by
 unfold NU
 repeat' (first|exact az _|exact dH|exact Wi H _ _ _ _|exact V5 _|split|(refine aG.on ?_ λ_=>?_)|dsimp only)
theorem agH(H:aE S R)a b:aG av S R ag Eq (OG a b) (OG a b):=by
 unfold OG;refine iY.bind ?_;rintro p q ⟨hp,hq⟩;rw[hp,hq,H.acs];split
 .exact dH
 .exact(AX H _).on λ_=>(AX H _).on λ_=>az _
theorem agI(H:aE S R)k a n:aG av S R ag Eq (OL k a n) (OL k a n):=by
 unfold OL;refine(q3 _).bind λx y h=>?_;have key:∀(e:Θ),aG av S R ag Eq (do
   let align:=(←se e).align
   if n<1||n.toNat>align||align%n.toNat !=0 then unsupported .addressObserved
   pure (bM k ((←FD a)%n.toNat:Nat))) (do
   let align:=(←se e).align
   if n<1||n.toNat>align||align%n.toNat !=0 then unsupported .addressObserved
   pure (bM k ((←FD a)%n.toNat:Nat))):=λe=>by
  refine(mR H _).on λi=>?_;dsimp only;split
  .exact dH
  .exact(AX H _).on λ_=>az _
 rcases h with rfl|⟨_,t,m,rfl,rfl⟩
 .cases x with
  |none=>exact dH
  |some x=>exact key _
 .exact key _
theorem Wk op k a b:aG av S R ag Eq (OD op k a b) (OD op k a b):=by
 unfold OD
 repeat' (first|exact az _|exact aZ|exact ve|exact mQ _|split|(refine aG.on ?_ λ_=>?_)|dsimp only)
theorem agJ op k a b:aG av S R ag Eq (OJ op k a b) (OJ op k a b):=by
 unfold OJ
 repeat' (first|exact az _|exact aZ|split|dsimp only)
theorem agK(H:aE S R)op k a k' b:aG av S R ag Eq (Op.shift op k a k' b) (Op.shift op k a k' b):=by
 unfold Op.shift
 repeat' (first|exact az _|exact aZ|exact k4 H|split|dsimp only)
theorem Wl op k a b:aG av S R ag Eq (OK op k a b) (OK op k a b):=by unfold OK;split<;>first|exact az _|exact aZ
theorem agL(H:aE S R)op k a b:aG av S R ag Eq (OO op k a b) (OO op k a b):=by
 unfold OO
 repeat' (first|exact az _|exact aZ|exact k4 H|split)
theorem Wm op k a b:aG av S R ag Eq (OM op k a b) (OM op k a b):=by unfold OM;dsimp only;split<;>first|exact az _|exact aZ
theorem agN op a b:aG av S R ag Eq (OP op a b) (OP op a b):=by unfold OP;split<;>first|exact az _|exact aZ
theorem agO a n b:aG av S R ag Eq (N9 a n b) (N9 a n b):=by
 unfold N9
 repeat' (first|exact az _|exact aZ|exact dH|exact mQ _|split|(refine aG.on ?_ λ_=>?_)|dsimp only)
theorem Wn op k a b:aG av S R ag Eq (OS op k a b) (OS op k a b):=by
 unfold OS;refine(Wk _ _ _ _).on λr=>?_;split
 .exact az _
 .exact aZ
theorem agP a n b:aG av S R ag Eq (OT a n b) (OT a n b):=by
 unfold OT
 split
 .exact az _
 .refine(agO _ _ _).on λr=>?_;split
  .exact az _
  .exact aZ
theorem agQ a b c d:aG av S R ag Eq (OQ a b c d) (OQ a b c d):=by
 unfold OQ Op.Complex.corrected Op.Complex.add Op.Complex.sub Op.Complex.mul Op.Complex.quo
 repeat' (first|exact az _|exact Wn _ _ _ _|exact agR _ _ _ _|split|(refine aG.on ?_ λ_=>?_)|dsimp only)
theorem agS op k a b c d:aG av S R ag Eq (OH op k a b c d) (OH op k a b c d):=by
 unfold OH Op.Complex.product Op.Complex.add Op.Complex.sub Op.Complex.mul
 repeat' (first|exact az _|exact aZ|exact Wn _ _ _ _|exact agR _ _ _ _|exact agP _ _ _|exact agQ _ _ _ _|split|(refine aG.on ?_ λ_=>?_)|dsimp only)
theorem Wo(H:aE S R)op(t:Θ)x y:aG av S R ag Eq (binOp op t x y) (binOp op t x y):=by
 unfold binOp;split;all_goals first
  |exact agK H _ _ _ _ _
  |exact Pf _ _ _
  |exact(V9 H _ _ _).on λ_=>az _
  |exact(Db _).on λ_=>(Db _).on λ_=>(agH H _ _).on λ_=>az _
  |exact(Db _).on λ_=>agI H _ _ _
  |exact dH
  |exact aZ
  |exact Wj H _ _ _
  |(refine(ez H _).on λ_=>?_;split;exact agG H _ _ _;exact Wj H _ _ _)
  |(split;exact aZ;split<;>first|exact Wl _ _ _ _|exact agL H _ _ _ _|exact Wm _ _ _ _|exact agN _ _ _|exact Wk _ _ _ _|exact agJ _ _ _ _)
  |(split;exact aZ;exact agS _ _ _ _ _ _)
theorem JI{c:Prop}[Decidable c]{x y:Sem α}(h1:aG av S R ag Eq x x)(h2:aG av S R ag Eq y y):aG av S R ag Eq (if c then x else y) (if c then x else y):=by split<;>assumption
theorem Wp(H:aE S R)op(t:Θ)x y a b:aG av S R ag Eq (wN op t x y a b) (wN op t x y a b):=by
 unfold wN;split<;>simp only[Bool.not_true,Bool.not_false,Bool.false_eq_true,↓reduceIte]
 case h_3=>exact az _
 all_goals
  split
  .refine JI (az _) ((JF H _ _ _ _).on λr=>JI dH (az _))
  .refine iY.bind ?_;rintro p q ⟨hp,hq⟩;refine iY.bind ?_;rintro p' q' ⟨hp',vg⟩;rw[hp,hq,hp',vg,H.eqg];exact JI (az _) ((JF H _ _ _ _).on λr=>JI dH (az _))
  .exact az _
theorem agT op x:aG av S R ag Eq (Op.unary op x) (Op.unary op x):=by unfold Op.unary;split<;>first|exact az _|exact Wl _ _ _ _|exact Wm _ _ _ _|exact dH|exact aZ
theorem agU(H:aE S R)(t:Θ)x:aG av S R ag Eq (Og t x) (Og t x):=by
 unfold Og;refine(ez H _).on λd=>?_;split
 .exact aZ
 .exact az _
end
section
variable {av:FuncId}{S R:Program}{ag:cV}{α β γ δ:Type}
theorem FR(H:aE S R)(t:Θ)(x:Place):aG av S R ag Eq (x.get t) (x.get t):=by
 cases x
 .exact az _
 .exact FO H t _
theorem FT(H:aE S R):∀(l:List FieldStep) (t:Θ) (x:Place),aG av S R ag Eq (follow l t x) (follow l t x)
 |[],_,_=>az _
 |s::l,t,x=>by
  unfold follow;refine(ez H _).on λd=>?_;split
  .split
   .split
    .exact(FR H _ _).on λ_=>(FQ H _).on λ_=>(Pc H _ _).on λ_=>FT H l _ _
    .split
     .exact(Pc H _ _).on λ_=>FT H l _ _
     .exact(qc H _ _ _).on λ_=>FT H l _ _
     .exact aZ
   .exact aZ
  .exact aZ
def Ph(xt:Θ)(method:ByteArray):Sem Value:=do
 if (← choose (.extern "ssa:wrapnilchk.dereferenced" 2)) == 1 then runtimePanic .nilDeref
 let θ pt := #[xt][0]? | stuck "ssa:wrapnilchk: no argument types"
 let .pointer t ← gR pt | stuck "ssa:wrapnilchk: pointer type expected"
 let .named name _ := (← se t).desc | stuck "ssa:wrapnilchk: defined type expected"
 let θ m := String.fromUTF8? method | stuck "ssa:wrapnilchk: the method's name is not UTF-8"
 let base := (name.splitOn "[").headD ""
 let targs := if base == name then "" else "[...]"
 match ((base.splitOn "/").getLastD "").splitOn "." with
 | [_, typ] => runtimePanic (.plain ("value method " ++ toString base ++ toString targs ++ "." ++ toString m ++ " called using nil *" ++ toString typ ++ toString targs ++ " pointer"))
 | _ => unsupported (.noEntry "builtin/ssaWrapNilChk.dot in the package path")
theorem agV(H:aE S R)(xt:Θ)m:dw S ag (Ph xt m):=by
 unfold Ph;refine dw.bind (mQ (R:=R) _).un λc=>?_;dsimp only;split
 .exact(tN H _).left
 .split
  .refine dw.bind (ez H _).un λd=>?_;split
   .refine dw.bind (mR H _).un λi=>?_;split
    .split
     .split
      .exact tN H _
      .exact iX _
     .exact iX _
    .exact iX _
   .exact iX _
  .exact iX _
theorem agW(H : aE S R)(xt : Θ)p name: aG av S R ag Eq (Builtin.ssaWrapNilChk_ #[xt] xt #[p, CY "", CY name]) (Builtin.ssaWrapNilChk_ #[xt] xt #[p, CY "", CY name]) := by
 cases p
 case pointer a=>
  cases a
  .have e : Builtin.ssaWrapNilChk_ #[xt] xt #[.pointer η, CY "", CY name] = Ph xt name.toUTF8 := rfl
   rw[e];exact(agV H _ _).k3
  .exact az _
 all_goals exact aZ
theorem Wq(H:aE S R)(t:Θ)x b w:aG av S R ag Eq (N0 t x b w) (N0 t x b w):=by
 unfold N0;refine(ez H _).on λd=>?_;split
 .exact FR H _ _
 .refine(FR H _ _).on λp=>?_;dsimp only;split
  .exact(agW H _ _ _).on λ_=>(FQ H _).on λ_=>FO H _ _
  .exact(az _).on λ_=>(FQ H _).on λ_=>FO H _ _
 .exact az _
 .exact aZ
 .exact FR H _ _
theorem agX(H:aE S R)(t:Θ)v p b:aG av S R ag Eq (receiverVia t v p b) (receiverVia t v p b):=(FT H _ _ _).on λ_=>Wq H _ _ _ _
theorem Wr(H:aE S R):∀(n:Nat) (t:Θ) (v:ay) (name:String),aG av S R ag Eq (method n t v name) (method n t v name)
 |0,_,_,_=>dH
 |n+1,t,v,name=>by
  unfold method;refine(mR H _).on λi=>?_;split
  .refine(FT H _ _ _).on λx=>?_;dsimp only;split
   .refine(FR H _ _).on λy=>?_;split
    .exact Wr H n _ _ _
    .exact k4 H
    .exact aZ
   .exact(Wq H _ _ _ _).on λ_=>az _
  .exact aZ
theorem JJ(H:aE S R):∀(l:List FieldStep) (t:Θ) (x:Option ay),aG av S R ag Eq (NX l t x) (NX l t x)
 |[],_,_=>az _
 |s::l,t,x=>by
  unfold NX;refine(ez H _).on λd=>?_;split
  .split
   .split
    .exact az _
    .exact JJ H l _ _
    .exact aZ
    .exact az _
    .exact(qc H _ _ _).on λ_=>JJ H l _ _
    .exact aZ
    .exact JJ H l _ _
   .exact aZ
  .exact aZ
theorem Pj(H:aE S R):∀(n:Nat) (t:Θ) (v:ay) (name:String),aG av S R ag Eq (Fz n t v name) (Fz n t v name)
 |0,_,_,_=>az _
 |n+1,t,v,name=>by
  unfold Fz;refine(mR H _).on λi=>?_;split
  .refine(JJ H _ _ _).on λx=>?_;split
   .exact az _
   .split
    .exact Pj H n _ _ _
    .exact az _
    .exact aZ
    .exact az _
    .exact az _
    .refine(ez H _).on λd=>?_;split<;>exact az _
  .exact aZ
theorem agY{o}(ho:Pl o):aG av S R ag (λa b=>a=b∧¬ag a) (uZ o) (uZ o):=by
 intro s hv;refine⟨λh s' hr=>(by cases hr),λx s' hr=>?_⟩;obtain⟨k,v,⟨b,hb⟩,h⟩:=(yM (av:=av) (S:=S) (R:=R) (ag:=ag) ho s hv).2 x s' hr;have hn:¬ag x:=λhb=>by
  cases hr
  obtain⟨t,h1⟩:=hv.bad _ hb;have:=(ξ.1 h1).1;omega
 exact⟨k,v,⟨x,rfl,hn⟩,λw es hw hA=>let ⟨b,w',u,r,q,g⟩:=h w es hw hA;⟨b,w',u,r,⟨q,hn⟩,g⟩⟩
theorem agZ(t:Θ)c:aG av S R ag (λa b=>a=b∧¬ag a.block) (newRow t c) (newRow t c):=(agY ⟨by simp,by simp⟩).bind λa b h=>by obtain⟨rfl,h⟩:=h;exact gZ ⟨rfl,h⟩
theorem ag0 a(hn:¬ag a.block):aG av S R ag Eq (NT a) (NT a):=by
 unfold NT;refine(q3 _).bind λx y h=>?_;rcases h with rfl|⟨hb,_⟩
 .split
  .exact V2 _ _ hn
  .exact az _
 .exact absurd hb hn
theorem ag1(t:Θ)s:aG av S R ag Eq (N7 t s) (N7 t s):=by unfold N7;refine(mQ _).on λc=>?_;dsimp only;refine(agZ _ _).bind λa b h=>?_;obtain⟨rfl,h⟩:=h;exact(ag0 _ h).on λ_=>az _
theorem ag2(H:aE S R)x:aG av S R ag Eq (N8 x) (N8 x):=by
 unfold N8;split
 .exact az _
 .refine(O7 H _ _).on λc=>?_;rw[←Jp];refine(yN _ _ _ _ λy g=>?_).on λr=>az _;split
  .exact az _
  .exact aZ
 .exact aZ
def Pk(S:Program)(s d:Θ):Bool:=match S.underlying s,S.underlying d with
 |some (.int _),θ (.int _)=>ν
 |some .string,θ .string=>ν
 |some .string,θ (.slice e)=>(match S.underlying e with|some (.int .i32)=>ο|_=>ν)
 |some (.slice e),θ .string=>(match S.underlying e with|some (.int .i32)=>ο|_=>ν)
 |_,_=>ο
theorem yO(H:aE S R)(t:Θ):aG av S R ag (λa b=>a=b∧S.underlying t=θ a) (gR t) (gR t):=by
 unfold gR;refine iY.bind ?_;rintro p q ⟨hp,hq⟩;rw[hp,hq,H.under t];split
 .rename_i h;exact gZ ⟨rfl,h⟩
 .exact aZ
theorem ag3(H:aE S R){s d:Θ}(hc:Pk S s d=ν)x:aG av S R ag Eq (convert s d x) (convert s d x):=by
 unfold Pk at hc;unfold convert;refine(yO H s).bind λa b h=>?_;obtain⟨rfl,hs⟩:=h;refine(yO H d).bind λa' b h=>?_;obtain⟨rfl,hd⟩:=h;rw[hs,hd]at hc;split at hc
 .split<;>first|exact az _|exact dH|(simp_all;done)|(unfold Conv.floatToInt;dsimp only;repeat' (first|exact az _|exact mQ _|split|(refine aG.on ?_ λ_=>?_)))
 .split<;>first|exact az _|exact dH|(simp_all;done)
 .split<;>first|exact az _|exact dH|(simp_all;done)|skip
  refine(yO H _).bind λa b h=>?_;obtain⟨rfl,he⟩:=h
  simp_all
  split
  .exact ag1 _ _
  .simp_all
  .exact aZ
 .split<;>first|exact az _|exact dH|(simp_all;done)|skip
  refine(yO H _).bind λa b h=>?_;obtain⟨rfl,he⟩:=h
  simp_all
  split
  .exact ag2 H _
  .simp_all
  .exact aZ
 .simp at hc
end
variable{es:Array eU}{cs fs:List Frame}{P:Program}{w w':υ}
def jQ(P:Program)(fr:Frame)(cs:List Frame):Next→Sem (List Frame)
 | .value v=>pure (fr.finish v::cs)
 | .skip=>pure (fr.finish undef::cs)
 | .enter f args=>pure (Frame.enter P f args .normal::fr::cs)
 | _ => stuck "not here"
def aF(P:Program):List Frame→Sem (List Frame)
 | [] => stuck "no frame"
 |fr::cs=>
  match fr.mode with
  | .panicking _ => stuck "a panic"
  | .returning=>
   match P.funcs[fr.fn]?,cs with
   |some fn,c::cs=>do
    let v ←results fn fr.tmps
    pure (c.finish v::cs)
   | _, _ => stuck "the end"
  | .run=>
   match fr.todo with
   |[] | .code .ret::_=>pure ({fr with mode:=.returning }::cs)
   | .code .skip::k | .code (.label _)::k | .inBlock _::k | .inScope _::k=>pure ({fr with todo:=k }::cs)
   | .code (.seq a b)::k=>pure ({fr with todo:=.code a::.code b::k }::cs)
   | .code (.cond c a b)::k=>
    match fr.eval c with
    | .bool x=>pure ({fr with todo:=.code (if x then a else b)::k }::cs)
    | _ => stuck "cond: bool expected"
   | .code (.block id b)::k=>pure ({fr with todo:=.code b::.inBlock id::k }::cs)
   | .code (.loop b)::k | .inLoop b::k=>pure ({fr with todo:=.code b::.inLoop b::k }::cs)
   | .code (.scope b)::k=>pure ({fr with todo:=.code b::.inScope b::k }::cs)
   | .code (.exit id)::k=>match FE id k with
    |some k'=>pure ({fr with todo:=k' }::cs)
    | η => stuck "exit"
   | .code (.region id ops draw)::k=>
    if !draw then pure ({fr with todo:=.inRegion ops (List.range ops.size)::k }::cs)
    else do
     let t ←choose (.order fr.fn id)
     pure ({fr with todo:=.inRegion ops (kY (P.follows .mixedOrders) ops t)::k }::cs)
   | .inRegion _ []::k=>pure ({fr with todo:=k }::cs)
   | .inRegion ops (i::_)::_=>
    match ops[i]? with
    |some o=>if cF o (jv ops fr.tmps)then do jQ P fr cs (←aL fr.eval o)else pure (fr.finish undef::cs)
    |none=>pure (fr.finish undef::cs)
   | _ => stuck "not here"
structure Plain(fr:Frame):Prop where
 defers:fr.defers=[]
 kind:fr.kind=.normal
 round:fr.roundOf=η
theorem Pm{fr}(h:Plain fr)v:Plain (fr.finish v):=by unfold Frame.finish;split<;>exact⟨h.1,h.2,h.3⟩
theorem JK{fr}(hp:Plain fr)(h:(aF P (fr::cs)).runT P w #[]=(.ok fs w',es))main base(hf:∃fn,P.funcs[fr.fn]?=θ fn):∃fr' cs',fs=fr'::cs'∧bh P main (gY fr (cs++base)) w=.go (gY fr' (cs' ++base)) w' (seen P fr.fn es):=by
 obtain⟨jy,tmps,todo,defers,mode,kind,roundOf⟩:=fr;obtain⟨hd,hk,hr⟩:=hp;simp only at hd hk hr;subst hd hk hr;have mS:seen P jy #[]=#[]:=rfl;cases mode with
 |panicking ch=>simp[aF,oz,nJ, -AP]at h
 |returning=>
  obtain⟨fn,hfn⟩:=hf;simp only at hfn;cases cs with
  |nil=>simp[aF,hfn,oz,nJ, -AP]at h
  |cons c cs=>
   simp only[aF,hfn]at h;have h':((results fn tmps).bind λv=>o4 (c.finish v::cs)).runT P w #[]=(.ok fs w',es):=h;rw[FI]at h';cases hr:(results fn tmps).runT P w #[]with
   |mk r JL=>
    rw[hr]at h';cases r with
    |halt x w1=>simp at h'
    |ok v w1=>
     simp only[nJ,l8,l7]at h';obtain⟨⟨rfl,rfl⟩,rfl⟩:=h';refine⟨_,_,rfl,?_⟩;simp only[gY,bh,nH,hfn,hr,doReturn,yJ,List.cons_append];simp
 |run=>
  have ctl:∀{FU:Frame},(Jz (FU::cs):Sem (List Frame)).runT P w #[]=(.ok fs w',es)→fs=FU::cs∧w'=w∧es=#[]:=by intro FU hc;have dV:((.ok (FU::cs) w,#[]):FA (List Frame)×Array eU)=(.ok fs w',es):=hc;simp only[l8,l7]at dV;exact⟨dV.1.1.symm,dV.1.2.symm,dV.2.symm⟩
  have bad:∀{why:String},(oz why:Sem (List Frame)).runT P w #[]=(.ok fs w',es)→False:=by intro why hc;simp[oz,nJ, -AP]at hc
  cases todo with
  |nil=>
   obtain⟨rfl,rfl,rfl⟩:=ctl h;exact⟨_,_,rfl,by simp[gY,bh,iW,mS]⟩
  |cons it k=>
   cases it with
   |inBlock id=>
    obtain⟨rfl,rfl,rfl⟩:=ctl h;exact⟨_,_,rfl,by simp[gY,bh,iW,mS]⟩
   |inScope b=>
    obtain⟨rfl,rfl,rfl⟩:=ctl h;exact⟨_,_,rfl,by simp[gY,bh,iW,mS]⟩
   |inLoop b=>
    obtain⟨rfl,rfl,rfl⟩:=ctl h;exact⟨_,_,rfl,by simp[gY,bh,iW,mS]⟩
   |inRegion ops l=>
    cases l with
    |nil=>
     obtain⟨rfl,rfl,rfl⟩:=ctl h;exact⟨_,_,rfl,by simp[gY,bh,iW,mS]⟩
    |cons i l=>
     cases ho:ops[i]? with
     |none=>
      simp only[aF,ho]at h;obtain⟨rfl,rfl,rfl⟩:=ctl h;exact⟨_,_,rfl,by simp[gY,bh,iW,mS,ho]⟩
     |some o=>
      simp only[aF,ho]at h;by_cases hw:cF o (jv ops tmps)=ν
      .rw[χ hw]at h;generalize hfr:({fn:=jy,tmps:=tmps,todo:=.inRegion ops (i::l)::k,defers:=[],mode:=.run,kind:=.normal,roundOf:=η }:Frame)=fr at h ⊢;have h':((aL fr.eval o).bind λx=>jQ P fr cs x).runT P w #[]=(.ok fs w',es):=h;rw[FI]at h';have hst:bh P main (gY fr (cs++base)) w=C4 P ν fr (cs++base) η (aL fr.eval o) w:=by subst hfr;simp[gY,bh,iW,stepG.oper,Frame.oper?,ho,hw]
       (have hfn:fr.fn=jy:=by subst hfr;rfl);(have hki:fr.kind=.normal:=by subst hfr;rfl);have Pn:∃ops l k,fr.todo=.inRegion ops l::k:=⟨ops,i::l,k,by subst hfr;rfl⟩;rw[hst];cases hr:(aL fr.eval o).runT P w #[]with
       |mk r JL=>
        rw[hr]at h';cases r with
        |halt x w1=>simp at h'
        |ok x w1=>
         simp only at h';unfold C4;simp only[hr,dF,hki,hfn];have c6:(CallKind.normal==CallKind.early)=false:=rfl;simp only[c6,Bool.false_eq_true,fh];obtain⟨ops',l',k',Pn⟩:=Pn;cases x with
         |value v=>
          simp only[jQ]at h';have h'' :((.ok (fr.finish v::cs) w1,JL):FA (List Frame)×Array eU)=(.ok fs w',es):=h';simp only[l8,l7]at h'';obtain⟨⟨rfl,rfl⟩,rfl⟩:=h'';exact⟨_,_,rfl,by simp[yJ,gY]⟩
         |skip=>
          simp only[jQ]at h';have h'' :((.ok (fr.finish undef::cs) w1,JL):FA (List Frame)×Array eU)=(.ok fs w',es):=h';simp only[l8,l7]at h'';obtain⟨⟨rfl,rfl⟩,rfl⟩:=h'';exact⟨_,_,rfl,by simp[yJ,gY]⟩
         |enter f args=>
          simp only[jQ]at h';have h'' :((.ok (Frame.enter P f args .normal::fr::cs) w1,JL):FA (List Frame)×Array eU)=(.ok fs w',es):=h';simp only[l8,l7]at h'';obtain⟨⟨rfl,rfl⟩,rfl⟩:=h'';exact⟨_,_,rfl,by simp[yJ,gY,Pn]⟩
         |_=>simp[jQ,oz,nJ, -AP]at h'
      .rw[ς hw]at h;obtain⟨rfl,rfl,rfl⟩:=ctl h;(have hw':cF o (jv ops tmps)=false:=by simpa using hw);exact⟨_,_,rfl,by simp[gY,bh,iW,mS,ho,hw']⟩
   |code c=>
    cases c with
    |ret=>
     obtain⟨rfl,rfl,rfl⟩:=ctl h;exact⟨_,_,rfl,by simp[gY,bh,iW,mS]⟩
    |skip=>
     obtain⟨rfl,rfl,rfl⟩:=ctl h;exact⟨_,_,rfl,by simp[gY,bh,iW,mS]⟩
    |label l=>
     obtain⟨rfl,rfl,rfl⟩:=ctl h;exact⟨_,_,rfl,by simp[gY,bh,iW,mS]⟩
    |seq a b=>
     obtain⟨rfl,rfl,rfl⟩:=ctl h;exact⟨_,_,rfl,by simp[gY,bh,iW,mS]⟩
    |cond c a b=>
     simp only[aF]at h;split at h
     .rename_i x hx;obtain⟨rfl,rfl,rfl⟩:=ctl h;exact⟨_,_,rfl,by simp only[gY,bh,iW,hx,mS]⟩
     .exact(bad h).elim
    |block id b=>
     obtain⟨rfl,rfl,rfl⟩:=ctl h;exact⟨_,_,rfl,by simp[gY,bh,iW,mS]⟩
    |loop b=>
     obtain⟨rfl,rfl,rfl⟩:=ctl h;exact⟨_,_,rfl,by simp[gY,bh,iW,mS]⟩
    |scope b=>
     obtain⟨rfl,rfl,rfl⟩:=ctl h;exact⟨_,_,rfl,by simp[gY,bh,iW,mS]⟩
    |exit id=>
     simp only[aF]at h;split at h
     .rename_i k' hx;obtain⟨rfl,rfl,rfl⟩:=ctl h;exact⟨_,_,rfl,by simp[gY,bh,iW,hx,mS]⟩
     .exact(bad h).elim
    |region id ops draw=>
     simp only[aF]at h;cases draw with
     |false=>
      obtain⟨rfl,rfl,rfl⟩:=ctl h;exact⟨_,_,rfl,by simp[gY,bh,iW,mS]⟩
     |true=>
      simp only[Bool.not_true,Bool.false_eq_true,fh]at h;have h':(C3 (.order jy id) λt=>o4 ({fn:=jy,tmps:=tmps,todo:=.inRegion ops (kY (P.follows .mixedOrders) ops t)::k,defers:=[],mode:=.run,kind:=.normal,roundOf:=η }::cs)).runT P w #[]=(.ok fs w',es):=h;simp only[nJ,yK,AO,Bool.false_eq_true,fh,l8,l7]at h';obtain⟨⟨rfl,rfl⟩,rfl⟩:=h';exact⟨_,_,rfl,by simp[gY,bh,iW,mS,choose,jw,yK,AO]⟩
    |_=>exact(bad h).elim
   |_=>exact(bad h).elim
theorem ag4{fr}(h:(aF P (fr::cs)).run P w=.ok fs w')base:(aF P (fr::(cs++base))).run P w=.ok (fs++base) w':=by
 have bad:∀{why:String},(oz why:Sem (List Frame)).run P w=.ok fs w'→False:=by intro why hc;simp[oz]at hc
 obtain⟨jy,tmps,todo,defers,mode,kind,roundOf⟩:=fr;cases mode with
 |panicking ch=>exact(bad h).elim
 |returning=>
  unfold aF at h ⊢;simp only at h ⊢;cases hfn:P.funcs[jy]? with
  |none=>rw[hfn]at h;exact(bad h).elim
  |some fn=>
   rw[hfn]at h;cases cs with
   |nil=>exact(bad h).elim
   |cons c cs=>
    simp only[List.cons_append]at h ⊢;have h':((results fn tmps).bind λv=>o4 (c.finish v::cs)).run P w=.ok fs w':=h;show ((results fn tmps).bind λv=>o4 (c.finish v::(cs++base))).run P w=.ok (fs++base) w';rw[fq]at h' ⊢;cases hr:(results fn tmps).run P w with
    |halt x w1=>rw[hr]at h';cases h'
    |ok v w1=>
     rw[hr]at h';simp only[jw]at h';obtain⟨rfl,rfl⟩:=h';rfl
 |run=>
  have ctl:∀{l:List Frame},(Jz l:Sem (List Frame)).run P w=.ok fs w'→fs=l∧w'=w:=by intro l hc;have dV:qX l w=.ok fs w':=hc;simp only[l7]at dV;exact⟨dV.1.symm,dV.2.symm⟩
  have pu:∀(l:List Frame),(Jz l:Sem (List Frame)).run P w=.ok l w:=λ_=>rfl;cases todo with
  |nil=>obtain⟨rfl,rfl⟩:=ctl h;exact pu _
  |cons it k=>
   cases it with
   |inBlock id=>obtain⟨rfl,rfl⟩:=ctl h;exact pu _
   |inScope b=>obtain⟨rfl,rfl⟩:=ctl h;exact pu _
   |inLoop b=>obtain⟨rfl,rfl⟩:=ctl h;exact pu _
   |inRegion ops l=>
    cases l with
    |nil=>obtain⟨rfl,rfl⟩:=ctl h;exact pu _
    |cons i l=>
     unfold aF at h ⊢;simp only at h ⊢;cases ho:ops[i]? with
     |none=>rw[ho]at h;obtain⟨rfl,rfl⟩:=ctl h;exact pu _
     |some o=>
      rw[ho]at h;simp only at h ⊢;by_cases hw:cF o (jv ops tmps)=ν
      .rw[χ hw]at h ⊢;generalize ({fn:=jy,tmps:=tmps,todo:=.inRegion ops (i::l)::k,defers:=defers,mode:=.run,kind:=kind,roundOf:=roundOf }:Frame)=fr at h ⊢;have h':((aL fr.eval o).bind λx=>jQ P fr cs x).run P w=.ok fs w':=h;show ((aL fr.eval o).bind λx=>jQ P fr (cs++base) x).run P w=.ok (fs++base) w';rw[fq]at h' ⊢;cases hr:(aL fr.eval o).run P w with
       |halt x w1=>rw[hr]at h';cases h'
       |ok x w1=>
        rw[hr]at h';cases x with
        |value v=>
         have h2:qX (fr.finish v::cs) w1=.ok fs w':=h';simp only[l7]at h2;obtain⟨rfl,rfl⟩:=h2;rfl
        |skip=>
         have h2:qX (fr.finish undef::cs) w1=.ok fs w':=h';simp only[l7]at h2;obtain⟨rfl,rfl⟩:=h2;rfl
        |enter f args=>
         have h2:qX (Frame.enter P f args .normal::fr::cs) w1=.ok fs w':=h';simp only[l7]at h2;obtain⟨rfl,rfl⟩:=h2;rfl
        |_=>simp[jQ,oz,jw]at h'
      .rw[ς hw]at h ⊢;obtain⟨rfl,rfl⟩:=ctl h;exact pu _
   |code c=>
    cases c with
    |ret=>obtain⟨rfl,rfl⟩:=ctl h;exact pu _
    |skip=>obtain⟨rfl,rfl⟩:=ctl h;exact pu _
    |label l=>obtain⟨rfl,rfl⟩:=ctl h;exact pu _
    |seq a b=>obtain⟨rfl,rfl⟩:=ctl h;exact pu _
    |cond c a b=>
     unfold aF at h ⊢;simp only at h ⊢;split at h
     .rename_i x hx;obtain⟨rfl,rfl⟩:=ctl h;exact pu _
     .exact(bad h).elim
    |block id b=>obtain⟨rfl,rfl⟩:=ctl h;exact pu _
    |loop b=>obtain⟨rfl,rfl⟩:=ctl h;exact pu _
    |scope b=>obtain⟨rfl,rfl⟩:=ctl h;exact pu _
    |exit id=>
     unfold aF at h ⊢;simp only at h ⊢;split at h
     .rename_i k' hx;obtain⟨rfl,rfl⟩:=ctl h;exact pu _
     .exact(bad h).elim
    |region id ops draw=>
     unfold aF at h ⊢;simp only at h ⊢;cases draw with
     |false=>
      simp only[Bool.not_false,dF]at h ⊢;obtain⟨rfl,rfl⟩:=ctl h;exact pu _
     |true=>
      simp only[Bool.not_true,Bool.false_eq_true,fh]at h ⊢;have h':(C3 (.order jy id) λt=>o4 (({fn:=jy,tmps:=tmps,todo:=.inRegion ops (kY (P.follows .mixedOrders) ops t)::k,defers:=defers,mode:=.run,kind:=kind,roundOf:=roundOf }:Frame)::cs)).run P w=.ok fs w':=h;show (C3 (.order jy id) λt=>o4 (({fn:=jy,tmps:=tmps,todo:=.inRegion ops (kY (P.follows .mixedOrders) ops t)::k,defers:=defers,mode:=.run,kind:=kind,roundOf:=roundOf }:Frame)::(cs++base))).run P w=.ok (fs++base) w';simp only[jw,yK,AO,Bool.false_eq_true,fh,l7]at h' ⊢;obtain⟨rfl,rfl⟩:=h';exact⟨rfl,rfl⟩
    |_=>exact(bad h).elim
   |_=>exact(bad h).elim
open Go.Extern
variable{fn: Func}
def exts: List String := ["internal/bytealg.CountString", "internal/bytealg.IndexString", "internal/bytealg.IndexByteString", "internal/bytealg.MakeNoZero", "internal/abi.NoEscape"]
def De(fn:Func):Bool:=exts.contains fn.name&&(Ju fn).isNone
theorem ag5  (h : fn.name = "internal/bytealg.CountString") : tK fn = θ Oa := by unfold tK;rw [h];kernel_rfl
theorem find_index  (h : fn.name = "internal/bytealg.IndexString") : tK fn = θ Ob := by unfold tK;rw [h];kernel_rfl
theorem ag6  (h : fn.name = "internal/bytealg.IndexByteString") : tK fn = θ Oc := by unfold tK;rw [h];kernel_rfl
theorem ag7  (h : fn.name = "internal/bytealg.MakeNoZero") : tK fn = θ (Jv fn.params fn.resultTypes) := by unfold tK;rw [h];kernel_rfl
theorem Po  (h : fn.name = "internal/abi.NoEscape") : tK fn = θ C1 := by unfold tK;rw [h];kernel_rfl
section
variable {av:FuncId}{S R:Program}{ag:cV}{α β γ δ:Type}
theorem Ws(H:aE S R):∀(n:Nat) (a:bP) (acc:ByteArray),aG av S R ag Eq (Od a n acc) (Od a n acc)
 |0,_,_=>az _
 |n+1,a,acc=>by
  unfold Od;refine(FM H a).on λv=>?_;split
  .exact Ws H n _ _
  .exact aZ
theorem JM(H:aE S R)v:aG av S R ag Eq (Oe v) (Oe v):=by unfold Oe;split<;>first|exact az _|exact Ws H _ _ _|exact aZ
theorem Wt v:aG av S R ag Eq (Of v) (Of v):=by unfold Of;split<;>first|exact az _|exact aZ
theorem ag8(H:aE S R)n:aG av S R ag Eq (N1 n) (N1 n):=by
 unfold N1;refine iY.bind ?_;rintro p q ⟨hp,hq⟩;rw[hp,hq,H.acs];split
 .exact az _
 .exact aZ
theorem ag9(H:aE S R)x:aG av S R ag Eq (Oa x) (Oa x):=by
 obtain⟨l⟩:=x
 match l with
 |[]|[_]|_::_::_::_=>exact aZ
 |[_,_]=>exact(JM H _).on λ_=>(Wt _).on λ_=>az _
theorem aha(H:aE S R)x:aG av S R ag Eq (Oc x) (Oc x):=by
 obtain⟨l⟩:=x
 match l with
 |[]|[_]|_::_::_::_=>exact aZ
 |[_,_]=>
  refine(JM H _).on λ_=>(Wt _).on λ_=>?_;split<;>exact az _
theorem ahb(H:aE S R):aG av S R ag Eq VS BytealgIndex.maxLen:=by unfold VS;exact(ag8 H _).on λ_=>(FM H _).on λ_=>AW _
theorem ahc(H:aE S R)x:aG av S R ag Eq (Ob x) (Ob x):=by
 obtain⟨l⟩:=x
 match l with
 |[]|[_]|_::_::_::_=>exact aZ
 |[_,_]=>
  refine(JM H _).on λa=>(JM H _).on λb=>?_
  repeat' (first|exact az _|exact dH|exact ahb H|exact(dw.left (iX _)).k3|split|(refine aG.on ?_ λ_=>?_)|dsimp only)
theorem ahd(H:aE S R)(p r:Array Θ)x:aG av S R ag Eq (Jv p r x) (Jv p r x):=by
 obtain⟨l⟩:=x
 match l with
 |[]|_::_::_=>exact aZ
 |[v]=>
  cases v<;>try exact aZ
  rename_i k n;cases k<;>try exact aZ
  unfold Jv;dsimp only
  repeat' (first|exact az _|exact aZ|exact ez H _|exact Dd H|exact k4 H|exact mQ _|exact JC _|exact AV _ _|split|(refine aG.on ?_ λ_=>?_)|dsimp only)
theorem Wu x:aG av S R ag Eq (C1 x) (C1 x):=by
 obtain⟨l⟩:=x
 match l with
 |[]|_::_::_=>exact aZ
 |[_]=>exact az _
theorem ahe(H:aE S R){fn}(h:De fn=ν):Ju fn=η∧∃e,tK fn=θ e∧∀x,aG av S R ag Eq (e x) (e x):=by
 simp only[De,Bool.and_eq_true,AU,List.contains_iff_mem,exts,List.mem_cons,List.not_mem_nil,Fq]at h;refine⟨h.2,?_⟩;rcases h.1 with h|h|h|h|h
 .exact⟨_,ag5 h,ag9 H⟩
 .exact⟨_,find_index h,ahc H⟩
 .exact⟨_,ag6 h,aha H⟩
 .exact⟨_,ag7 h,ahd H _ _⟩
 .exact⟨_,Po h,Wu⟩
end
end Lo
end Go.Proofs.YtfphigmeppdocaaGreatDoor
namespace Go.Proofs.YtfphigmeppdocaaGreatDoor
namespace Lo
section
variable {av:FuncId}{S R:Program}{ag:cV}{α β γ δ:Type}
theorem ahf(H:aE S R)(t:Θ)x:aG av S R ag Eq (OB t x) (OB t x):=by
 unfold OB;refine(ez H t).on λd=>?_;dsimp only;have np:∀{o:Obj},Pl o→aG av S R ag Eq (do pure (AR (θ ⟨←uZ o,0,η⟩)):Sem ay) (do pure (AR (θ ⟨←uZ o,0,η⟩))):=λh=>(yM h).on λ_=>az _;simp only[pure_bind];split
 .exact np ⟨by simp,by simp,by simp⟩
 .exact np ⟨by simp,by simp,by simp⟩
 .refine(u9 _).bind λo o' h=>?_;rcases h with⟨rfl,_⟩|⟨o,rfl,rfl,_⟩
  .split
   .exact np ⟨by simp,by simp,by simp⟩
   .exact ve
  .exact ve
 .exact ve
theorem ahg(t:Θ)x b:aG av S R ag Eq (OC x b t) (OC x b t):=by
 unfold OC
 dsimp only;split
 .refine(u9 _).bind λo o' h=>?_;rcases h with⟨rfl,_⟩|⟨o,rfl,rfl,_⟩
  .split
   .split
    .exact(FN _ ⟨by simp,by simp⟩).on λ_=>az _
    .exact az _
   .exact az _
   .refine(u9 _).bind λo o' h=>?_;rcases h with⟨rfl,_⟩|⟨o,rfl,rfl,_⟩
    .repeat' (first|exact az _|exact aZ|exact dH|exact mQ _|exact(dw.left (iX _)).k3|exact(FN _ ⟨by simp,by simp⟩).on λ_=>az _|split|(refine aG.on ?_ λ_=>?_)|dsimp only)
    .exact aZ
   .exact aZ
  .exact aZ
 .exact aZ
theorem Wv(H:aE S R):∀(n:Nat) (a:bP) (acc:ByteArray),aG av S R ag Eq (Jr a acc n) (Jr a acc n)
 |0,_,_=>az _
 |n+1,a,acc=>by
  unfold Jr;refine(FM H a).on λv=>?_;split
  .exact Wv H n _ _
  .exact aZ
theorem Pp(H:aE S R)a (u:Θ)n:aG av S R ag (λx y=>¬ag a.block→x=y) (NY a u n) (NY a u n):=by
 unfold NY;refine iY.bind ?_;rintro p q ⟨hp,hq⟩;rw[hp,hq];refine(q3 _).bind λx y h=>?_;rcases h with rfl|⟨hb,t,n,rfl,rfl⟩
 .split
  .exact gZ λ_=>by rw[H.cellsOf,H.lies]
  .exact gZ λ_=>rfl
 .exact gZ λh=>absurd hb h
theorem ahh(H:aE S R)(ts:Array Θ)(t:Θ)x:aG av S R ag Eq (Builtin.unsafeSliceData_ ts t x) (Builtin.unsafeSliceData_ ts t x):=by
 obtain⟨l⟩:=x
 match l with
 |[]|_::_::_=>exact aZ
 |[v]=>
  cases v<;>try exact aZ
  rename_i o l c;cases o with
  |none=>exact az _
  |some a=>
   unfold Builtin.unsafeSliceData_;show aG av S R ag Eq (if c≠0 then _ else _) (if c≠0 then _ else _);split
   .exact az _
   .refine(JD _).on λv=>?_;split
    .exact az _
    .exact(Pa H _).on λ_=>(yM ⟨by simp,by simp⟩).on λ_=>az _
theorem ahi(H:aE S R)(ts:Array Θ)(t:Θ)x:aG av S R ag Eq (Builtin.unsafeString_ ts t x) (Builtin.unsafeString_ ts t x):=by
 obtain⟨l⟩:=x
 match l with
 |[]|[_]|_::_::_::_=>exact aZ
 |[v,n]=>
  cases v<;>try exact aZ
  rename_i p;unfold Builtin.unsafeString_;dsimp only;refine(AW _).on λn=>?_;split
  case h_2=>exact aZ
  split
  .exact Dd H
  .split
   .exact(dw.left (iX _)).k3
   .cases p with
    |none=>
     dsimp only;split
     .exact az _
     .exact k4 H
    |some a=>
     dsimp only;split
     .exact az _
     .rename_i hn;refine(Pa H _).on λe=>?_;by_cases hb:ag a.block
      .refine dw.k3 (dw.bind (Pp (R:=R) H a e n.toNat).un λr=>?_);split
       .refine dw.left ?_;obtain⟨k,hk⟩:=Nat.exists_eq_succ_of_ne_zero (n:=n.toNat) (by omega);rw[hk];unfold Jr;refine dw.left λs hv=>?_;obtain⟨t,h1⟩:=hv.bad _ hb;have hc:s.cell? a=none:=by simp[c7,h1]
        have hf : s.farLoad S a (sr == sj) = .error (s.noCell a "load: no such cell") := by unfold FJ; rw [h1]
        refine ⟨s.noCell a "load: no such cell", s, ?_, by simp [FK, h1, l9]⟩
        simp only[load,jw,hc,hf]
       .exact iX _
      .refine(Pp H a e n.toNat).bind λr r' h=>?_;have h:=h hb;subst h;split
       .refine(Wv H _ _ _).on λs=>(V2 _ _ hb).on λ_=>az _
       .exact dH
end
variable{q:bP}{r:Nat}{v:Program}{x:ay}{s s' w:υ}
def hO(av:FuncId)(S R:Program)(ag:cV){α β:Type}(Q:α->β->Prop)(x:Sem α)(y:Sem β)(s:υ):Prop:=
 (∀h s',x.run S s=.halt h s'->l9 h)/\∀a s',x.run S s=.ok a s'->Kept s s'/\Sh ag s'/\(∃b,Q a b)/\∀w es,di ag s w->FL av s s' w->∃b w' u,y.runT R w es=(.ok b w',es++u)/\Q a b/\u7 ag s s' w w' u
def yP(ag:cV)(s:υ)(b:Nat):Prop:=¬ag b/\∃c t z,s.heap[b]?=θ (.cells c t z)
def yQ(ag:cV)(s:υ)(b:Nat):Prop:=yP ag s b\/∃p u,s.heap[b]?=θ (.view p u)/\yP ag s p.block
section
variable {av:FuncId}{S R:Program}{ag:cV}{α β γ δ:Type}{Q:α->β->Prop}{Q':γ->δ->Prop}
theorem aG.at{x:Sem α}{y:Sem β}(h:aG av S R ag Q x y)(hs:Sh ag s):hO av S R ag Q x y s:=h s hs
theorem hO.bind{x:Sem α}{y:Sem β}{f:α->Sem γ}{g:β->Sem δ}(h:hO av S R ag Q x y s)(hk:∀a b s',x.run S s=.ok a s'->Sh ag s'->Q a b->hO av S R ag Q' (f a) (g b) s'):hO av S R ag Q' (x >>= f) (y >>= g) s:=by
 refine⟨λhl s' hr=>?_,λc s' hr=>?_⟩
 .have hr':(x.bind f).run S s=.halt hl s':=hr;rw[fq]at hr';cases hx:x.run S s with
  |halt z s1=>rw[hx]at hr';cases hr';exact h.1 _ _ hx
  |ok a s1=>
   rw[hx]at hr';obtain⟨_,v1,⟨b0,hb0⟩,_⟩:=h.2 a s1 hx;exact(hk a b0 s1 hx v1 hb0).1 _ _ hr'
 have hr':(x.bind f).run S s=.ok c s':=hr;rw[fq]at hr';cases hx:x.run S s with
 |halt z s1=>rw[hx]at hr';cases hr'
 |ok a s1=>
  rw[hx]at hr';obtain⟨k1,v1,⟨b0,hb0⟩,h1⟩:=h.2 a s1 hx;obtain⟨k2,v2,hd,_⟩:=(hk a b0 s1 hx v1 hb0).2 c s' hr';refine⟨k1.trans k2,v2,hd,λw es hw hA=>?_⟩;have d1:=k1.dr;have d2:=k2.dr;obtain⟨b,w1,u,r1,q1,g1⟩:=h1 w es hw λi q hz hi=>hA i q hz (by omega);obtain⟨_,_,_,h2⟩:=(hk a b s1 hx v1 q1).2 c s' hr';obtain⟨d,w',u',r2,q2,g2⟩:=h2 w1 (es++u) g1.wr λi q hz hi=>by have:=hA (s1.drawn-s.drawn+i) q hz (by omega);rw[g1.kept.tape,g1.dr,Nat.add_assoc,this,k1.tape,show s.drawn+(s1.drawn-s.drawn+i)=s1.drawn+i by omega]
  refine⟨d,w',u++u',?_,q2,g2.wr,?_,g1.kept.trans g2.kept,λb hb=>(g2.bad b hb).trans (g1.bad b hb),λe he=>?_⟩
  .show (y.bind g).runT R w es=_;rw[FI,r1];simp only[r2,NR]
  .rw[g2.dr,g1.dr];omega
  .rcases Jq.1 he with he|he
   .exact(g1.ev e he).mono g2.kept.size
   .exact g2.ev e he
theorem Ww{v:Option (Θ×Nat)}(h:(CZ r).run S s=.ok v s'):s'=s/\v=s.shape? r:=by cases h;exact⟨rfl,rfl⟩
theorem Wx(h:program.run S s=.ok v s'):s'=s/\v=S:=by cases h;exact⟨rfl,rfl⟩
theorem Wy{v:Option (bP×Θ)}(h:(wO r).run S s=.ok v s'):s'=s/\((v=η/\∀p u,s.heap[r]?≠θ (.view p u))\/∃p u,v=θ (p,u)/\s.heap[r]?=θ (.view p u)):=by
 cases hb:s.heap[r]? with
 |none=>simp[wO,go_sem,u0,jw,wS,hb]at h
 |some o=>
  cases o<;>simp[wO,go_sem,u0,jw,wS,hb]at h<;>obtain⟨rfl,rfl⟩:=h<;>first|exact⟨rfl,.inl ⟨rfl,by simp⟩⟩|exact⟨rfl,.inr ⟨_,_,rfl,rfl⟩⟩
theorem Wz(hv:Sh ag s)(hb:¬ag r):hO av S R ag Eq (CZ r) (CZ r) s:=by
 obtain⟨h1,h2⟩:=q3 (av:=av) (S:=S) (R:=R) (ag:=ag) r s hv;refine⟨h1,λa s' hr=>?_⟩;obtain⟨k,v,_,h⟩:=h2 a s' hr;refine⟨k,v,⟨_,rfl⟩,λw es hw hA=>?_⟩;obtain⟨b,w',u,r1,q,g⟩:=h w es hw hA;rcases q with rfl|⟨hb',_⟩
 .exact⟨_,w',u,r1,rfl,g⟩
 .exact absurd hb' hb
theorem Pq{a}(hl:yQ ag s a.block)(h:(AK a).run S s=.ok q s'):s'=s/\yP ag s q.block:=by
 unfold AK at h;have h':((wO a.block).bind _).run S s=.ok q s':=h;rw[fq]at h';cases hr:(wO a.block).run S s with
 |halt z s1=>rw[hr]at h';cases h'
 |ok v s1=>
  rw[hr]at h';obtain⟨rfl,⟨rfl,hn⟩|⟨p,u,rfl,hp⟩⟩:=Wy hr
  ·(cases h');refine⟨rfl,hl.resolve_right λ⟨p,u,hp,_⟩=>hn p u hp⟩
  .have hrow:yP ag s1 p.block:=by
    rcases hl with⟨_,c,t,z,hc⟩|⟨p',u',hp',hr'⟩
    .rw[hp]at hc;cases hc
    .rw[hp]at hp';cases hp';exact hr'
   obtain⟨hnb,c,t,z,hc⟩:=hrow;(have hsh:s1.shape? p.block=θ (t,c.size):=by simp[wS,hc]);simp only[qW]at h';split at h'
   .cases h';exact⟨rfl,hnb,c,t,z,hc⟩
   .simp[go_sem]at h';split at h'
    .cases h'
    .split at h'
     .simp[go_sem,hsh]at h';split at h'
      .cases h'
      .split at h'
       .cases h';exact⟨rfl,hnb,c,t,z,hc⟩
       .cases h'
     .cases h'
theorem WA(H:aE S R){a}(hv:Sh ag s)(hl:yQ ag s a.block):hO av S R ag (λx y=>x=y/\yP ag s x.block) (AK a) (AK a) s:=by
 have key:hO av S R ag Eq (AK a) (AK a) s:=by
  unfold AK;refine(JD a.block).at hv |>.bind λv v' s1 hr jR e=>?_;subst e;obtain⟨rfl,⟨rfl,_⟩|⟨p,u,rfl,hp⟩⟩:=Wy hr
  .exact(az _).at jR
  .have hrow:yP ag s1 p.block:=by
    rcases hl with⟨_,c,t,z,hc⟩|⟨p',u',hp',hr'⟩
    .rw[hp]at hc;cases hc
    .rw[hp]at hp';cases hp';exact hr'
   dsimp only;split
   .exact(az _).at jR
   .split
    .exact aG.at (by exact(dw.left (iX _)).k3) jR
    .refine iY.at jR |>.bind λP P' s2 hr2 mg e=>?_;obtain⟨rfl,rfl⟩:=e;obtain⟨rfl,_⟩:=Wx hr2;rw[H.boc];split
     .refine(Wz mg hrow.1).bind λx y s3 Pr yR e=>?_;subst e;split
      .simp only[H.cellsOf,H.cab];split
       .exact aG.at (by exact(dw.left (iX _)).k3) yR
       .split
        .exact(az _).at yR
        .exact aG.at dH yR
      .exact aG.at dH yR
     .exact aG.at dH mg
 exact⟨key.1,λq s' hr=>by
  obtain⟨k,v,b,h⟩:=key.2 q s' hr;have hq:=(Pq hl hr).2;exact⟨k,v,⟨q,rfl,hq⟩,λw es hw hA=>let ⟨b,w',u,r,e,g⟩:=h w es hw hA;⟨b,w',u,r,⟨e,hq⟩,g⟩⟩⟩
theorem ahj(hv:Sh ag s)(hl:yP ag s r):hO av S R ag Eq (FB r) (FB r) s:=by
 unfold FB;refine(Wz hv hl.1).bind λx y s1 hr jR e=>?_;subst e;obtain⟨rfl,rfl⟩:=Ww hr;obtain⟨_,c,t,z,hc⟩:=hl;have hsh:s1.shape? r=θ (t,c.size):=by simp[wS,hc]
 rw[hsh];exact(az _).at jR
def Df(S:Program)(s d:Θ):Bool:=match S.underlying s,S.underlying d with
 |some (.pointer _),θ .unsafePointer=>ν
 |some .unsafePointer,θ (.pointer _)=>ν
 |_,_=>ο
theorem ahk(H:aE S R){s d:Θ}(hv:Sh ag w){e:Θ}(hs:S.underlying s=θ (.pointer e))(hd:S.underlying d=θ .unsafePointer)(hl:∀a,x=.pointer (θ a)->yQ ag w a.block):hO av S R ag Eq (yI s d x) (yI s d x) w:=by
 unfold yI;refine((yO H s).at hv).bind λa b w1 wV jR q=>?_;obtain⟨rfl,q⟩:=q;rw[hs]at q;cases q
 refine((yO H d).at jR).bind λa b w2 hr2 mg q=>?_;obtain⟨rfl,q⟩:=q;rw[hd]at q;cases q
 have Dg:w2=w:=by unfold gR at wV hr2;simp[go_sem,hs]at wV;simp[go_sem,hd]at hr2;exact hr2.symm.trans wV.symm
 subst Dg;cases x<;>try exact aG.at aZ mg
 rename_i o;cases o with
 |none=>exact(az _).at mg
 |some a=>
  dsimp only;refine(WA H mg (hl a rfl)).bind λp p' w3 Pr yR q=>?_;obtain⟨rfl,hrow⟩:=q;obtain⟨rfl,_⟩:=Pq (hl a rfl) Pr;refine(ahj yR hrow).bind λc c' w4 axz ahl q=>?_;subst q;refine aG.at ?_ ahl;refine(kF H _).on λk=>?_
  repeat' (first|exact az _|exact(yM (o:=.view p e) ⟨by simp,by simp,by simp⟩).on λ_=>az _|split)
theorem ahm(H:aE S R){s d:Θ}(hv:Sh ag w){e:Θ}(hs:S.underlying s=θ .unsafePointer)(hd:S.underlying d=θ (.pointer e))(hl:∀a,x=.pointer (θ a)->yQ ag w a.block):hO av S R ag Eq (yI s d x) (yI s d x) w:=by
 unfold yI;refine((yO H s).at hv).bind λa b w1 wV jR q=>?_;obtain⟨rfl,q⟩:=q;rw[hs]at q;cases q
 refine((yO H d).at jR).bind λa b w2 hr2 mg q=>?_;obtain⟨rfl,q⟩:=q;rw[hd]at q;cases q
 have Dg:w2=w:=by unfold gR at wV hr2;simp[go_sem,hs]at wV;simp[go_sem,hd]at hr2;exact hr2.symm.trans wV.symm
 subst Dg;cases x<;>try exact aG.at aZ mg
 rename_i o;cases o with
 |none=>exact(az _).at mg
 |some a=>
  dsimp only;refine(WA H mg (hl a rfl)).bind λp p' w3 Pr yR q=>?_;obtain⟨rfl,hrow⟩:=q;refine aG.at ?_ yR;refine(kF H _).on λk=>?_;refine(Pp H p e 1).bind λr r' q=>?_;have q:=q hrow.1;subst q;split
  .exact az _
  .refine(q3 _).bind λy y' q=>?_;rcases q with rfl|⟨hb,_⟩
   .split
    .refine iY.bind ?_;rintro _ _ ⟨rfl,rfl⟩;refine iY.bind ?_;rintro _ _ ⟨rfl,rfl⟩;rw[H.holds];split
     .exact(dw.left (iX _)).k3
     .exact(yM ⟨by simp,by simp,by simp⟩).on λ_=>az _
    .exact(dw.left (iX _)).k3
   .exact absurd hb hrow.1
theorem WB(H:aE S R){s d:Θ}(hc:Df S s d=ν)(hv:Sh ag w)(hl:∀a,x=.pointer (θ a)->yQ ag w a.block):hO av S R ag Eq (convert s d x) (convert s d x) w:=by
 unfold Df at hc;unfold convert;have Dg:∀{t:Θ}{a:TypeDesc}{w w1:υ},(gR t).run S w=.ok a w1->w1=w/\S.underlying t=θ a:=by
  intro t a w w1 h;unfold gR at h;cases hu:S.underlying t with
  |none=>simp[go_sem,hu]at h
  |some u=>
   simp[go_sem,hu]at h;obtain⟨rfl,rfl⟩:=h;exact⟨rfl,rfl⟩
 refine((ez H s).at hv).bind λa b w1 wV jR q=>?_;subst q;obtain⟨rfl,hs⟩:=Dg wV;refine((ez H d).at jR).bind λa' b w2 hr2 mg q=>?_;subst q;obtain⟨rfl,hd⟩:=Dg hr2;rw[hs,hd]at hc;split at hc
 .rename_i e1 e2;cases e1
  cases e2
  have key:=ahk (av:=av) (R:=R) H mg hs hd hl;cases x<;>exact key
 .rename_i e1 e2;cases e1
  cases e2
  have key:=ahm (av:=av) (R:=R) H mg hs hd hl;cases x<;>exact key
 .cases hc
end
def nG(av:FuncId)(S R:Program)(ag:cV){α β:Type}(D:α→Prop)(Q:α→β→Prop)(x:Sem α)(y:Sem β):Prop:=
 ∀s,Sh ag s→(∀h s',x.run S s=.halt h s'→l9 h)∧∀a s',x.run S s=.ok a s'→Kept s s'∧Sh ag s'∧(D a∨((∃b,Q a b)∧∀w es,di ag s w→FL av s s' w→∃b w' u,y.runT R w es=(.ok b w',es++u)∧Q a b∧u7 ag s s' w w' u))
section
variable {av:FuncId}{S R:Program}{ag:cV}{α β γ δ:Type}{D:γ→Prop}
theorem aG.k5{Q:γ→δ→Prop}{x:Sem γ}{y:Sem δ}(h:aG av S R ag Q x y):nG av S R ag D Q x y:=λs hv=>⟨(h s hv).1,λa s' hr=>
 let ⟨k,v,b,h1⟩:=(h s hv).2 a s' hr
 ⟨k,v,.inr ⟨b,h1⟩⟩⟩
theorem nG.bind{D0:α→Prop}{Q:α→β→Prop}{Q':γ→δ→Prop}{x:Sem α}{y:Sem β}{f:α→Sem γ}{g:β→Sem δ}(h:nG av S R ag D0 Q x y)(hk:∀a b,Q a b→nG av S R ag D Q' (f a) (g b))(hD:∀a,D0 a→∀s,Sh ag s→(∀h s',(f a).run S s=.halt h s'→l9 h)∧∀c s',(f a).run S s=.ok c s'→Kept s s'∧Sh ag s'∧D c):nG av S R ag D Q' (x >>= f) (y >>= g):=by
 intro s hv;refine⟨λhl s' hr=>?_,λc s' hr=>?_⟩
 .have hr':(x.bind f).run S s=.halt hl s':=hr;rw[fq]at hr';cases hx:x.run S s with
  |halt z s1=>rw[hx]at hr';cases hr';exact(h s hv).1 _ _ hx
  |ok a s1=>
   rw[hx]at hr';obtain⟨_,v1,hd|⟨⟨b0,hb0⟩,_⟩⟩:=(h s hv).2 a s1 hx
   .exact(hD a hd s1 v1).1 _ _ hr'
   .exact(hk a b0 hb0 s1 v1).1 _ _ hr'
 have hr':(x.bind f).run S s=.ok c s':=hr;rw[fq]at hr';cases hx:x.run S s with
 |halt z s1=>rw[hx]at hr';cases hr'
 |ok a s1=>
  rw[hx]at hr';obtain⟨k1,v1,hd|⟨⟨b0,hb0⟩,h1⟩⟩:=(h s hv).2 a s1 hx
  .obtain⟨k2,v2,d2⟩:=(hD a hd s1 v1).2 c s' hr';exact⟨k1.trans k2,v2,.inl d2⟩
  .obtain⟨k2,v2,hd⟩:=(hk a b0 hb0 s1 v1).2 c s' hr';refine⟨k1.trans k2,v2,?_⟩;rcases hd with hd|⟨hb,_⟩
   .exact .inl hd
   .by_cases WC:D c
    .exact .inl WC
    refine .inr ⟨hb,λw es hw hA=>?_⟩;have d1:=k1.dr;have d2:=k2.dr;obtain⟨b,w1,u,r1,q1,g1⟩:=h1 w es hw λi q hz hi=>hA i q hz (by omega);obtain⟨_,_,hd|⟨_,h2⟩⟩:=(hk a b q1 s1 v1).2 c s' hr'
    .exact absurd hd WC
    (obtain⟨d,w',u',r2,q2,g2⟩:=h2 w1 (es++u) g1.wr λi q hz hi=>by have:=hA (s1.drawn-s.drawn+i) q hz (by omega);rw[g1.kept.tape,g1.dr,Nat.add_assoc,this,k1.tape,show s.drawn+(s1.drawn-s.drawn+i)=s1.drawn+i by omega]);refine⟨d,w',u++u',?_,q2,g2.wr,?_,g1.kept.trans g2.kept,λb hb=>(g2.bad b hb).trans (g1.bad b hb),λe he=>?_⟩
    .show (y.bind g).runT R w es=_;rw[FI,r1];simp only[r2,NR]
    .rw[g2.dr,g1.dr];omega
    .rcases Jq.1 he with he|he
     .exact(g1.ev e he).mono g2.kept.size
     .exact g2.ev e he
theorem aG.JN{Q:α→β→Prop}{Q':γ→δ→Prop}{x:Sem α}{y:Sem β}{f:α→Sem γ}{g:β→Sem δ}(h:aG av S R ag Q x y)(hk:∀a b,Q a b→nG av S R ag D Q' (f a) (g b)):nG av S R ag D Q' (x >>= f) (y >>= g):=
 nG.bind (D0:=λ_=>False) h.k5 hk λ_ h=>h.elim
theorem aG.yS{Q':γ→δ→Prop}{x:Sem α}{f:α→Sem γ}{g:α→Sem δ}(h:aG av S R ag Eq x x)(hk:∀a,nG av S R ag D Q' (f a) (g a)):nG av S R ag D Q' (x >>= f) (x >>= g):=h.JN λa b e=>by subst e;exact hk a
theorem vh{Q':γ→δ→Prop}{h}{y:Sem δ}(hh:l9 h:=by trivial):nG av S R ag D Q' (.halt h) y:=(OY hh).k5
def WE:Builtin→Bool
 | .append | .clear | .len | .cap | .copy | .min | .max | .unsafeSliceData | .unsafeString=>ν
 |_=>ο
def FV(S:Program):Op→Bool
 | .move _ | .assign _ | .pick .. | .alloc _ | .box .. | .build .. | .buildSlice .. | .load .. | .store .. | .nilCheck _ | .binOp .. | .unOp .. | .makeInterface .. | .makeFunc .. | .makeMap .. | .makeSlice .. | .slice .. | .fieldAddr .. | .field ..
 | .indexAddr .. | .index .. | .lookup .. | .mapUpdate .. | .insert .. | .extract .. | .range .. | .next .. | .panic _=>ν
 | .convert s d _=>Pk S s d
 | .call {callee:=.value _,.. }=>ν
 | .call {callee:=.builtin b,.. }=>WE b
 |_=>ο
def codeOk(S:Program):Code→Bool
 | .skip | .ret | .label _ | .exit _ | .refuse _=>ν
 | .region _ ops _=>ops.all λo=>FV S o.op
 | .seq a b=>codeOk S a&&codeOk S b
 | .cond _ a b=>codeOk S a&&codeOk S b
 | .block _ b | .loop b | .scope b=>codeOk S b
 |_=>ο
structure tO where
 tp:Θ
 tu:Θ
 tb:Θ
 tl:Θ
 ne:FuncId
 rest:Code
def af(l:List (Nat×Ground)):Array Edge:=(l.map λ(i,g)=>{on:=i,ground:=g }).toArray
def o5(C:tO):Array Oper:=#[
 { dst := θ 2, op := .move (.tmp 0), type := C.tp, pos := "builder.go:33", after := #[], guard := η },
 { dst := θ 3, op := .nilCheck (.tmp 2), type := 0, pos := "builder.go:33", after := af [(0, .data)], guard := η },
 { dst := θ 4, op := .fieldAddr C.tb (.tmp 3) 0, type := 0, pos := "builder.go:33", after := af [(1, .data)], guard := η },
 { dst := θ 5, op := .load C.tp (.tmp 4), type := C.tp, pos := "builder.go:33", after := af [(2, .data)], guard := η },
 { dst := θ 6, op := .binOp .eql C.tp (.tmp 5) (.const (.pointer η)) C.tp, type := C.tl, pos := "builder.go:33", after := af [(3, .data)], guard := η }]
def gy(C:tO):Array Oper:=#[
 { dst := θ 7, op := .move (.tmp 0), type := C.tp, pos := "builder.go:39", after := #[], guard := η },
 { dst := θ 8, op := .move (.tmp 0), type := C.tp, pos := "builder.go:39", after := #[], guard := η },
 { dst := θ 9, op := .convert C.tp C.tu (.tmp 8), type := C.tu, pos := "builder.go:39", after := af [(1, .data)], guard := η },
 { dst := θ 10, op := .call { callee := .value (.func C.ne), args := #[.tmp 9], argTypes := #[C.tu] }, type := C.tu, pos := "builder.go:39", after := af [(2, .data)], guard := η },
 { dst := θ 11, op := .convert C.tu C.tp (.tmp 10), type := C.tp, pos := "builder.go:39", after := af [(3, .data)], guard := η },
 { dst := θ 12, op := .nilCheck (.tmp 7), type := 0, pos := "builder.go:39", after := af [(0, .data), (0, .phase), (1, .phase), (2, .phase), (3, .phase), (4, .phase)], guard := η },
 { dst := θ 13, op := .fieldAddr C.tb (.tmp 12) 0, type := 0, pos := "builder.go:39", after := af [(5, .data), (0, .phase), (1, .phase), (2, .phase), (3, .phase), (4, .phase)], guard := η },
 { dst := η, op := .store C.tp (.tmp 13) (.tmp 11), type := 0, pos := "builder.go:39", after := af [(6, .data), (4, .data), (3, .chain), (0, .phase), (1, .phase), (2, .phase), (3, .phase), (4, .phase)], guard := η }]
def yT(C:tO):Code:=.seq (.region 0 (o5 C) ο) (.cond (.tmp 6) (.region 1 (gy C) ο) C.rest)
structure k6(S:Program)(C:tO):Prop where
 up:∃e,S.underlying C.tp=θ (.pointer e)
 uu:S.underlying C.tu=θ .unsafePointer
 fld:∃fields g info,S.underlying C.tb=θ (.struct fields)∧fields[0]?=θ g∧S.info? g.type=θ info∧info.size≠0
 rest:codeOk S C.rest=ν
 ne : ∃ fn, S.funcs[C.ne]? = θ fn ∧ fn.name = "internal/abi.NoEscape" ∧ fn.body = η ∧ Ju fn = η
structure iP(S R:Program)(ok:FuncId→Bool)(sp:FuncId):Prop where
 sm:aE S R
 all : ∀ (f : FuncId) (fn : Func), S.funcs[f]? = θ fn → fn.name ≠ "runtime.NumGoroutine" ∧ ((∃ c, fn.body = θ c ∧ (codeOk S c = ν ∨ ∃ C, k6 S C ∧ c = yT C ∧ fn.ntmps = 20)) ∨ (fn.body = η ∧ De fn = ν))
 same : ∀ f, ok f = ν → ∃ fn fn' : Func, S.funcs[f]? = θ fn ∧ R.funcs[f]? = θ fn' ∧ (f ≠ sp → fn' = fn) ∧ (fn' = fn ∨ (fn.body.isSome = ν ∧ fn'.body.isSome = ν)) ∧ fn'.name ≠ "runtime.NumGoroutine"
 dead:∀(f:FuncId) (fn:Func),ok f=ο→S.funcs[f]?=θ fn→∃why,fn.body=θ (.refuse why)
def AZ(S:Program)(ok:FuncId→Bool)(n:Next):Prop:=∃f x,n=.enter f x∧ok f=ο∧∃fn c,S.funcs[f]?=θ fn∧fn.body=θ c
def Good(S:Program):Next→Prop
 | .value _ | .skip=>True
 | .enter f _=>∃fn c,S.funcs[f]?=θ fn∧fn.body=θ c
 |_=>False
def wW(S:Program)(a b:Next):Prop:=a=b∧Good S a
end
section
variable {av:FuncId}{S R:Program}{ag:cV}{ok:FuncId→Bool}{sp:FuncId}
theorem fH{x}(h:aG av S R ag Eq x x):nG av S R ag (AZ S ok) (wW S) (do pure (Next.value (←x))) (do pure (Next.value (←x))):=
 (aG.bind (Q':=wW S) h λa b e=>by subst e;exact gZ ⟨rfl,by trivial⟩).k5
theorem Pt{x}(h:aG av S R ag Eq x x):nG av S R ag (AZ S ok) (wW S) (do x;pure Next.skip) (do x;pure Next.skip):=
 (aG.bind (Q':=wW S) h λa b e=>gZ ⟨rfl,by trivial⟩).k5
theorem Pu(F:iP S R ok sp)f x:nG av S R ag (AZ S ok) (wW S) (gX f x) (gX f x):=by
 unfold gX;refine iY.JN ?_;rintro p q ⟨hp,hq⟩;rw[hp,hq];cases hf:S.funcs[f]? with
 |none=>exact vh
 |some fn=>
  obtain⟨hn,⟨c,hb,_⟩|⟨hb,hx⟩⟩:=F.all f fn hf
  case inr=>
   have e1 : (fn.name == "runtime.NumGoroutine") = ο := by simpa using hn
   obtain⟨x1,e,x2,x3⟩:=ahe (av:=av) (S:=S) (R:=R) (ag:=ag) F.sm hx;have hR:ok f=ν→R.funcs[f]?=θ fn:=λho=>by
    obtain⟨Pv,fn',h1,h2,_,h4,_⟩:=F.same f ho;rw[hf]at h1;(cases h1);rcases h4 with rfl|⟨h4,_⟩
    .exact h2
    .rw[hb]at h4;cases h4
   cases ho:ok f with
   |false=>
    obtain⟨why,hw⟩:=F.dead f fn ho hf;rw[hb]at hw;cases hw
   |true=>
    rw[hR ho];simp only[e1,hb,OW,Bool.false_eq_true,fh,dF,x1,x2];exact(O6 (.inr ⟨f,rfl⟩)).yS λ_=>fH (x3 x)
  have e1 : (fn.name == "runtime.NumGoroutine") = ο := by simpa using hn
  simp only[e1,hb,Option.isNone_some,Bool.false_eq_true,fh];intro s hv;refine⟨λh s' hr=>(by cases hr),λa s' hr=>?_⟩;cases hr
  refine⟨.refl _,hv,?_⟩;cases ho:ok f with
  |false=>exact .inl ⟨f,x,rfl,ho,fn,c,hf,hb⟩
  |true=>
   obtain⟨Pv,fn',h1,h2,_,hb',hn'⟩:=F.same f ho;refine .inr ⟨⟨_,rfl,fn,c,hf,hb⟩,λw es hw _=>⟨.enter f x,w,#[],?_,⟨rfl,fn,c,hf,hb⟩,.refl hw⟩⟩
   have e2 : (fn'.name == "runtime.NumGoroutine") = ο := by simpa using hn'
   have e3:fn'.body.isNone=false:=by
    rcases hb' with rfl|⟨_,hb'⟩
    .rw[hf]at h1;cases h1;rw[hb];rfl
    .cases h:fn'.body<;>simp[h]at hb' ⊢
   simp only[h2,e2,e3,Bool.false_eq_true,fh,nF];rfl
theorem WG(F:iP S R ok sp)r name x:nG av S R ag (AZ S ok) (wW S) (N2 r name x) (N2 r name x):=by
 unfold N2;split
 .refine iY.JN ?_;rintro p q ⟨hp,hq⟩;rw[hp,hq,F.sm.types];exact(Wr F.sm _ _ _ _).yS λm=>Pu F _ _
 .exact(k4 F.sm).k5
 .exact vh
theorem ahn(F:iP S R ok sp)fn c x:nG av S R ag (AZ S ok) (wW S) (invoke (.fn fn c) x) (invoke (.fn fn c) x):=by
 unfold invoke;cases fn with
 |func f=>exact Pu F _ _
 |method name=>
  dsimp only;split
  .exact WG F _ _ _
  .exact vh
 |methodOf t name=>
  dsimp only;split
  .refine(ez F.sm _).yS λd=>?_;exact WG F _ _ _
  .exact vh
 |via t p f b=>
  dsimp only;split
  .exact(agX F.sm _ _ _ _).yS λ_=>Pu F _ _
  .exact vh
 |yield l=>
  unfold Instr.yield Instr.getLoop;refine aG.k5 ?_;refine aG.bind (Q:=λ_ _=>False) ?_ λ_ _ h=>h.elim;refine(u9 _).bind λo o' h=>?_;rcases h with⟨rfl,h,_⟩|⟨o,rfl,rfl,_⟩
  .cases o<;>first|exact aZ|exact absurd rfl (h _)
  .exact aZ
theorem aho(H:aE S R)v:dw S ag (Instr.panic v):=by
 unfold Instr.panic;split
 .exact iX _
 .refine dw.bind ?_ λn=>?_
  .unfold Instr.panicnil;refine qZ.bind (λs hv=>⟨λh s' hr=>(by cases hr),λa s' hr=>?_⟩) λr=>?_
   ·(cases hr);exact⟨hv.nl,hv.bad⟩
   .cases r
    case strings env=>exact qZ.bind (iY (R:=R)).un λp=>(az (R:=R) _).un
    all_goals exact(aZ (R:=R) (Q:=Eq) (y:=pure 0)).un
  .split
   .exact iX _
   .exact tN H _
 .exact iX _
theorem WH(F:iP S R ok sp){o:Oper}(ho:FV S o.op=ν)(ev:Operand→ay):nG av S R ag (AZ S ok) (wW S) (aL ev o) (aL ev o):=by
 obtain⟨dst,op,type,pos,after,guard⟩:=o;have H:=F.sm;unfold aL;cases op<;>simp only[FV,Bool.false_eq_true]at ho
 case move x=>exact(gZ ⟨rfl,by trivial⟩).k5
 case assign x=>exact(gZ ⟨rfl,by trivial⟩).k5
 case pick c a b=>
  refine(O9 _).yS λr=>?_;exact(gZ ⟨rfl,by trivial⟩).k5
 case alloc t=>exact fH (af9 H t)
 case box t x=>exact fH (aga t _)
 case build t ps=>exact fH (agn H _ _)
 case buildSlice t n ps=>exact fH (ago H _ _ _)
 case load t x=>exact fH (Wa H t _)
 case store t a v=>exact Pt (Wb H t _ _)
 case nilCheck x=>
  simp only;split
  .exact(k4 H).k5
  .exact(k4 H).k5
  .exact(k4 H).k5
  .split
   .exact(k4 H).k5
   .refine iY.JN ?_;rintro p q ⟨hp,hq⟩;rw[hp,hq,H.types];refine(Pj H _ _ _ _).yS λr=>?_;split
    .exact vh
    .exact(gZ ⟨rfl,by trivial⟩).k5
   .exact(gZ ⟨rfl,by trivial⟩).k5
  .exact(gZ ⟨rfl,by trivial⟩).k5
 case binOp op t x y axA=>exact fH ((Wp H _ _ _ _ _ _).on λ_=>Wo H _ _ _ _)
 case unOp op t x=>exact fH (agT op _)
 case convert s d x=>exact fH (ag3 H ho _)
 case makeInterface t x=>exact fH (agU H _ _)
 case makeFunc fn a b=>exact fH (az _)
 case makeMap t r=>exact fH (agp H _ _)
 case makeSlice t l c=>exact fH (agk H _ _ _)
 case slice t x l h m=>exact fH (agj H t _ _ _ _)
 case fieldAddr t x i=>exact fH (Pd H _ _ _)
 case field t x i=>exact fH (agc H _ _ _)
 case indexAddr t x i=>exact fH (agf H _ _ _)
 case index t x i=>exact fH (age H _ _ _)
 case lookup t x i b=>exact fH (agq H _ _ _ _)
 case mapUpdate t m k x=>exact Pt (Wd H _ _ _ _)
 case insert t m k x=>exact Pt (Wd H _ _ _ _)
 case extract x i=>exact fH (agb _ _)
 case range t x=>exact fH (ahf H _ _)
 case next x b=>exact fH (ahg _ _ _)
 case panic x=>exact fH (aho H _).k3
 case call c=>
  obtain⟨callee,args,ts⟩:=c;cases callee with
  |value f=>
   simp only[Fw,Deferred.ofValue];generalize ev f=v;cases v
   case func fn first cap=>exact ahn F _ _ _
   case nilFunc=>
    show nG av S R ag (AZ S ok) (wW S) (runtimePanic .nilDeref) (runtimePanic .nilDeref);exact(k4 H).k5
   all_goals exact(dw.left (iX _)).k3.k5
  |builtin b=>
   simp only at ho;cases b<;>simp only[WE,Bool.false_eq_true]at ho
   case append=>exact fH (agv H _ _ _)
   case clear=>exact fH (agz H _ _ _)
   case len=>exact fH (agx H _ _ _)
   case cap=>exact fH (agy H _ _ _)
   case copy=>exact fH (agw H _ _ _)
   case min=>exact fH (agC _ _ _)
   case max=>exact fH (agD _ _ _)
   case unsafeSliceData=>exact fH (ahh H _ _ _)
   case unsafeString=>exact fH (ahi H _ _ _)
  |invoke r m=>simp at ho
end
variable{ops:Array Oper}{r:Bool}{g:Field}{k:List kD}{l:List Nat}{d i n:Nat}{o:Oper}{ev:Operand→ay}{m:Sem ay}{v x:ay}{s1 w w1:υ}
def cX(C:tO):Nat→List kD
 |0=>[.code (yT C)]
 |1=>[.code (.region 0 (o5 C) ο),.code (.cond (.tmp 6) (.region 1 (gy C) ο) C.rest)]
 |2=>[.inRegion (o5 C) [0,1,2,3,4],.code (.cond (.tmp 6) (.region 1 (gy C) ο) C.rest)]
 |3=>[.inRegion (o5 C) [1,2,3,4],.code (.cond (.tmp 6) (.region 1 (gy C) ο) C.rest)]
 |4=>[.inRegion (o5 C) [2,3,4],.code (.cond (.tmp 6) (.region 1 (gy C) ο) C.rest)]
 |5=>[.inRegion (o5 C) [3,4],.code (.cond (.tmp 6) (.region 1 (gy C) ο) C.rest)]
 |6=>[.inRegion (o5 C) [4],.code (.cond (.tmp 6) (.region 1 (gy C) ο) C.rest)]
 |7=>[.inRegion (o5 C) [],.code (.cond (.tmp 6) (.region 1 (gy C) ο) C.rest)]
 |8=>[.code (.cond (.tmp 6) (.region 1 (gy C) ο) C.rest)]
 |9=>[.code (.region 1 (gy C) ο)]
 |10=>[.inRegion (gy C) [0,1,2,3,4,5,6,7]]
 |11=>[.inRegion (gy C) [1,2,3,4,5,6,7]]
 |12=>[.inRegion (gy C) [2,3,4,5,6,7]]
 |13=>[.inRegion (gy C) [3,4,5,6,7]]
 |14=>[.inRegion (gy C) [4,5,6,7]]
 |15=>[.inRegion (gy C) [5,6,7]]
 |16=>[.inRegion (gy C) [6,7]]
 |17=>[.inRegion (gy C) [7]]
 |_=>[.inRegion (gy C) []]
abbrev slot(f:Frame)(t:Nat):Value:=f.tmps.getD t undef
def ahp(x y:ay):Prop:=∀a,x=.pointer (θ a)→∃b,y=.pointer (θ b)∧b.block=a.block
structure ja(f:Frame)(n:Nat):Prop where
 size:20≤f.tmps.size
 t2:3≤n→slot f 2=slot f 0
 t3:4≤n→slot f 3=slot f 0
 t4:5≤n→ahp (slot f 0) (slot f 4)
 t8:12≤n→slot f 8=slot f 0
 t10:14≤n→slot f 10=slot f 9
def yU(ag:cV)(s:υ)(v:ay):Prop:=∀a,v=.pointer (θ a)→yQ ag s a.block
def oA(ag:cV)(s:υ)(f:Frame)(n:Nat):Prop:=(6≤n→n≤12→yU ag s (slot f 0))∧(n=13∨n=14→yU ag s (slot f 9))
section
variable {av:FuncId}{S R:Program}{ag:cV}
theorem ahq{a}{s s'}(hv:Sh ag s)(h:(load a).run S s=.ok v s'):s'=s∧yQ ag s a.block:=by
 simp only[load,jw]at h;cases hc:s.cell? a with
 |some u=>
  rw[hc]at h;cases h
  refine⟨rfl,.inl ⟨hv.cell hc,?_⟩⟩;unfold c7 at hc;split at hc
  .rename_i h;exact⟨_,_,_,h⟩
  .cases hc
 |none=>
  rw[hc]at h;simp only at h;cases hf:s.farLoad S a (sr==sj)with
  |error e=>rw[hf]at h;cases h
  |ok r=>
   rw[hf]at h;(cases h);refine⟨rfl,.inr ?_⟩;unfold FJ at hf;split at hf
   .rename_i p u hp;refine⟨p,u,hp,?_⟩;unfold World.viewLoad at hf;cases hs:s.seen S p u a (sr==sj)with
    |error e=>rw[hs]at hf;cases hf
    |ok q=>
     obtain⟨c,e,z,q⟩:=q;have hrow:=O1 hs;refine⟨λhb=>?_,c,e,z,hrow⟩;obtain⟨t,h2⟩:=hv.bad _ hb;obtain⟨e',he⟩:=O0 (p:=S) (u:=u) (k:=a) (m:=(sr==sj)) h2;rw[he]at hs;cases hs
   .cases hf
theorem JO{t:Θ}{a:TypeDesc}(h:(gR t).run S w=.ok a w1):w1=w∧S.underlying t=θ a:=by
 unfold gR at h;cases hu:S.underlying t with
 |none=>simp[go_sem,hu]at h
 |some u=>
  simp[go_sem,hu]at h;obtain⟨rfl,rfl⟩:=h;exact⟨rfl,rfl⟩
theorem ahr{t e:Θ}{s s'}(hu:S.underlying t=θ (.pointer e))(hv:Sh ag s)(h:(AL t x).run S s=.ok v s'):s'=s∧∃a,x=.pointer (θ a)∧yQ ag s a.block:=by
 unfold AL at h;have h':((tL x).bind _).run S s=.ok v s':=h;rw[fq]at h';cases x<;>try (simp[tL,go_sem]at h';done)
 rename_i o;cases o with
 |none=>simp[tL,go_sem]at h'
 |some a=>
  have e1:(tL (.pointer (θ a))).run S s=.ok a s:=rfl;rw[e1]at h';have h2:=h';unfold Js at h2;have h3:((nI t).bind _).run S s=.ok v s':=h2;rw[fq]at h3;have e2:(nI t).run S s=.ok ο s:=by unfold nI gR;simp[go_sem,hu]
  rw[e2]at h3;have h4:=h3;obtain⟨rfl,hl⟩:=ahq hv h4;exact⟨rfl,a,rfl,hl⟩
theorem ahs{t:Θ}{fields}{info:TypeInfo}{s s'}(hu:S.underlying t=θ (.struct fields))(hg:fields[i]?=θ g)(hi:S.info? g.type=θ info)(hz:info.size≠0)(h:(tM t x i).run S s=.ok v s'):s'=s∧∃a,x=.pointer (θ a)∧v=.pointer (θ (a.add g.offset)):=by
 unfold tM at h;have h':((gR t).bind _).run S s=.ok v s':=h;rw[fq]at h';have e1:(gR t).run S s=.ok (.struct fields) s:=by unfold gR;simp[go_sem,hu]
 rw[e1]at h';simp only[qW,hg]at h';have h2:((tL x).bind _).run S s=.ok v s':=h';rw[fq]at h2;cases x<;>try (simp[tL,go_sem]at h2;done)
 rename_i o;cases o with
 |none=>simp[tL,go_sem]at h2
 |some a=>
  have e2:(tL (.pointer (θ a))).run S s=.ok a s:=rfl;rw[e2]at h2;simp only[qW]at h2;have e3:(CW a g).run S s=.ok (a.add g.offset) s:=by unfold CW qU se;simp[go_sem,hi,hz]
  have h3:((CW a g).bind _).run S s=.ok v s':=h2;rw[fq,e3]at h3;cases h3
  exact⟨rfl,a,rfl,rfl⟩
theorem Dh{f}{cs fs}{s s'}(hm:f.mode=.run)(ht:f.todo=.inRegion ops (i::l)::k)(ho:ops[i]?=θ o)(hg:o.guard=η)(he:aL f.eval o=(do pure (Next.value (←m))))(h:(aF S (f::cs)).run S s=.ok fs s'):∃v,m.run S s=.ok v s'∧fs=f.finish v::cs:=by
 have e:aF S (f::cs)=(aL f.eval o >>= jQ S f cs):=by unfold aF;simp[hm,ht,ho,cF,hg]
 rw[e,he]at h;have h':((m.bind λv=>o4 (Next.value v)).bind (jQ S f cs)).run S s=.ok fs s':=h;rw[fq,fq]at h';cases hx:m.run S s with
 |halt a b=>rw[hx]at h';cases h'
 |ok v s1=>
  rw[hx]at h';cases h'
  exact⟨v,rfl,rfl⟩
theorem WI{f:Frame}(ht:f.todo=.inRegion ops (i::l)::k)v:(f.finish v).todo=.inRegion ops l::k:=by unfold Frame.finish;rw[ht]
theorem WJ{f:Frame}(ht:f.todo=.inRegion ops (i::l)::k)(ho:ops[i]?=θ o)(hd:o.dst=θ d)v:(f.finish v).tmps=f.tmps.setIfInBounds d v:=by unfold Frame.finish;rw[ht];simp[ho,hd]
theorem aht{f}(ht:f.todo=.inRegion ops (i::l)::k)(ho:ops[i]?=θ o)(hd:o.dst=θ d)v(hlt:d<f.tmps.size)t:slot (f.finish v) t=if d=t then v else slot f t:=by
 unfold slot;rw[WJ ht ho hd,oZ,oZ,wL];by_cases e:d=t
 .subst e;rw[χ rfl,χ rfl,χ hlt];rfl
 .rw[ς e,ς e]
def jb(ag:cV)(s':υ)(C:tO)(f:Frame)(cs fs:List Frame):Prop:=
 ∃f',fs=f'::cs∧f'.fn=f.fn∧f'.mode=.run∧(Plain f→Plain f')∧((∃n,n≤18∧f'.todo=cX C n∧ja f' n∧oA ag s' f' n)∨f'.todo=[.code C.rest]∨f'.todo=[])
theorem JP(f:Frame)v:(f.finish v).fn=f.fn∧(f.finish v).mode=f.mode:=by unfold Frame.finish;split<;>exact⟨rfl,rfl⟩
theorem A2{f}{cs fs}{s s'}(hm:f.mode=.run)(ht:f.todo=.inRegion ops (i::l)::k)(ho:ops[i]?=θ o)(hg:o.guard=η)(h:(aF S (f::cs)).run S s=.ok fs s'):∃x s1,(aL f.eval o).run S s=.ok x s1∧(jQ S f cs x).run S s1=.ok fs s':=by
 have e:aF S (f::cs)=(aL f.eval o >>= jQ S f cs):=by unfold aF;simp[hm,ht,ho,cF,hg]
 rw[e]at h;have h':((aL f.eval o).bind (jQ S f cs)).run S s=.ok fs s':=h;rw[fq]at h';cases hx:(aL f.eval o).run S s with
 |halt a b=>rw[hx]at h';cases h'
 |ok v s1=>
  rw[hx]at h';exact⟨v,s1,rfl,h'⟩
theorem Di{x}{n}{s}(hop:o.op=.nilCheck x)(hx:ev x=v)(h:(aL ev o).run S s=.ok n s1):n=.value v:=by
 unfold aL at h;rw[hop]at h;simp only[hx]at h;have np:∀{n:Next}{s1:υ},(runtimePanic .nilDeref:Sem Next).run S s=.ok n s1→False:=λ{n s1} h=>by simp[runtimePanic,go_sem]at h
 split at h
 .exact(np h).elim
 .exact(np h).elim
 .exact(np h).elim
 .split at h
  .exact(np h).elim
  .have h':(program.bind _).run S s=.ok n s1:=h;rw[fq]at h';cases hp:program.run S s with
   |halt a b=>rw[hp]at h';cases h'
   |ok p s2=>
    rw[hp]at h';simp only[qW]at h';have h2:((Fz (p.types.size+Made.depth) _ _ _).bind _).run S s2=.ok n s1:=h';rw[fq]at h2;cases hq:(Fz (p.types.size+Made.depth) _ _ _).run S s2 with
    |halt a b=>rw[hq]at h2;cases h2
    |ok r s3=>
     rw[hq]at h2;simp only[qW]at h2;split at h2
     .cases h2
     .cases h2;rfl
  .cases h;rfl
 .cases h;rfl
theorem hU{C}{f}{cs}{s'}(hm:f.mode=.run)(ht:f.todo=.inRegion ops (i::l)::k)(ho:ops[i]?=θ o)(hd:o.dst=θ d)(hz:20≤f.tmps.size)(hd':d<20)(hn:n≤18)(hk: .inRegion ops l::k=cX C n)(hS:∀g:Frame,(∀t,slot g t=if d=t then v else slot f t)→20≤g.tmps.size→ja g n∧oA ag s' g n):jb ag s' C f cs (f.finish v::cs):=by
 have h1:20≤(f.finish v).tmps.size:=by rw[WJ ht ho hd,yF];exact hz
 obtain⟨a,b⟩:=hS (f.finish v) (λt=>aht ht ho hd v (by omega) t) h1;exact⟨_,rfl,(JP _ _).1,(JP _ _).2.trans hm,λp=>Pm p _,.inl ⟨n,hn,(WI ht _).trans hk,a,b⟩⟩
section
variable {C:tO}{f:Frame}{cs fs:List Frame}{s s':υ}
theorem ahu(hm:f.mode=.run)(ht:f.todo=cX C 2)(hs:ja f 2)(h:(aF S (f::cs)).run S s=.ok fs s'):jb ag s' C f cs fs:=by
 have ho:(o5 C)[0]?=θ _:=rfl;obtain⟨x,s1,h1,h2⟩:=A2 hm ht ho rfl h;cases h1
 cases h2
 refine hU hm ht ho rfl hs.size (by decide) (n:=3) (by omega) rfl λg hg hz=>⟨⟨hz,λ_=>?_,λh=>?_,λh=>?_,λh=>?_,λh=>?_⟩,λh=>?_,λh=>?_⟩
 .rw[hg,hg];rfl
 all_goals omega
theorem ahv(hm:f.mode=.run)(ht:f.todo=cX C 3)(hs:ja f 3)(h:(aF S (f::cs)).run S s=.ok fs s'):jb ag s' C f cs fs:=by
 have ho:(o5 C)[1]?=θ _:=rfl;obtain⟨x,s1,h1,h2⟩:=A2 hm ht ho rfl h;have e:=Di (v:=slot f 0) rfl (hs.t2 (by omega)) h1;subst e;cases h2
 refine hU hm ht ho rfl hs.size (by decide) (n:=4) (by omega) rfl λg hg hz=>⟨⟨hz,λ_=>?_,λh=>?_,λh=>?_,λh=>?_,λh=>?_⟩,λh=>?_,λh=>?_⟩
 .rw[hg,hg];exact hs.t2 (by omega)
 .rw[hg,hg];rfl
 all_goals omega
theorem ahw(K:k6 S C)(hm:f.mode=.run)(ht:f.todo=cX C 4)(hs:ja f 4)(h:(aF S (f::cs)).run S s=.ok fs s'):jb ag s' C f cs fs:=by
 have ho:(o5 C)[2]?=θ _:=rfl;obtain⟨v,h1,rfl⟩:=Dh (m:=tM C.tb (f.eval (.tmp 3)) 0) hm ht ho rfl rfl h;obtain⟨fields,g0,info,k1,k2,bz,eB⟩:=K.fld;obtain⟨rfl,a,ha,rfl⟩:=ahs k1 k2 bz eB h1;have ha':slot f 0=.pointer (θ a):=by rw[←hs.t3 (by omega)];exact ha
 refine hU hm ht ho rfl hs.size (by decide) (n:=5) (by omega) rfl λg hg hz=>⟨⟨hz,λ_=>?_,λ_=>?_,λ_=>?_,λh=>?_,λh=>?_⟩,λh=>?_,λh=>?_⟩
 .rw[hg,hg];exact hs.t2 (by omega)
 .rw[hg,hg];exact hs.t3 (by omega)
 .rw[hg,hg];intro b hb;have hb':=hb;rw[ha']at hb';cases hb'
  exact⟨_,rfl,by unfold Addr.add;split<;>rfl⟩
 all_goals omega
theorem ahx(K:k6 S C)(hv:Sh ag s)(hm:f.mode=.run)(ht:f.todo=cX C 5)(hs:ja f 5)(h:(aF S (f::cs)).run S s=.ok fs s'):jb ag s' C f cs fs:=by
 have ho:(o5 C)[3]?=θ _:=rfl;obtain⟨v,h1,rfl⟩:=Dh (m:=AL C.tp (f.eval (.tmp 4))) hm ht ho rfl rfl h;obtain⟨e,he⟩:=K.up;obtain⟨rfl,a,ha,hl⟩:=ahr he hv h1;refine hU hm ht ho rfl hs.size (by decide) (n:=6) (by omega) rfl λg hg hz=>⟨⟨hz,λ_=>?_,λ_=>?_,λ_=>?_,λh=>?_,λh=>?_⟩,λ_ _=>?_,λh=>?_⟩
 .rw[hg,hg];exact hs.t2 (by omega)
 .rw[hg,hg];exact hs.t3 (by omega)
 .rw[hg,hg];exact hs.t4 (by omega)
 .omega
 .omega
 .rw[hg];intro b hb;obtain⟨q,h4,h5⟩:=hs.t4 (by omega) b hb;have vk:f.eval (.tmp 4)=.pointer (θ q):=h4;rw[ha]at vk;cases vk
  rw[←h5];exact hl
 .omega
theorem ahy{t e:Θ}(hu:S.underlying t=θ (.pointer e))(h:(FG (d+1) t x (.pointer η)).run S s=.ok r s'):s'=s:=by
 unfold FG at h;have h':((gR t).bind _).run S s=.ok r s':=h;rw[fq]at h';have e1:(gR t).run S s=.ok (.pointer e) s:=by unfold gR;simp[go_sem,hu]
 rw[e1]at h';simp only[qW]at h';cases x<;>try (cases h';done)
 rename_i o;cases o<;>cases h' <;>rfl
theorem ahz{t e:Θ}{o}(hu:S.underlying t=θ (.pointer e))(h:(do wN .eql t o (.const (.pointer η)) x (.pointer η);binOp .eql t x (.pointer η):Sem ay).run S s=.ok v s'):s'=s:=by
 have e1:wN .eql t o (.const (.pointer η)) x (.pointer η)=pure ():=by unfold wN;cases x<;>rfl
 rw[e1,pure_bind]at h;have e2:binOp .eql t x (.pointer η)=(do pure (sw (←FH t x (.pointer η)))):=by unfold binOp;cases x<;>rfl
 rw[e2]at h;have h':((FH t x (.pointer η)).bind _).run S s=.ok v s':=h;rw[fq]at h';cases hr:(FH t x (.pointer η)).run S s with
 |halt a b=>rw[hr]at h';cases h'
 |ok r s1=>
  rw[hr]at h';cases h'
  exact ahy (d:=9999) hu hr
theorem ahA(K:k6 S C)(hm:f.mode=.run)(ht:f.todo=cX C 6)(hs:ja f 6)(hN:oA ag s f 6)(h:(aF S (f::cs)).run S s=.ok fs s'):jb ag s' C f cs fs:=by
 have ho:(o5 C)[4]?=θ _:=rfl;obtain⟨v,h1,rfl⟩:=Dh (m:=(do wN .eql C.tp (.tmp 5) (.const (.pointer η)) (f.eval (.tmp 5)) (.pointer η);binOp .eql C.tp (f.eval (.tmp 5)) (.pointer η))) hm ht ho rfl rfl h;obtain⟨e,he⟩:=K.up;have:=ahz he h1;subst this;refine hU hm ht ho rfl hs.size (by decide) (n:=7) (by omega) rfl λg hg hz=>⟨⟨hz,λ_=>?_,λ_=>?_,λ_=>?_,λh=>?_,λh=>?_⟩,λ_ _=>?_,λh=>?_⟩
 .rw[hg,hg];exact hs.t2 (by omega)
 .rw[hg,hg];exact hs.t3 (by omega)
 .rw[hg,hg];exact hs.t4 (by omega)
 .omega
 .omega
 .rw[hg];exact hN.1 (by omega) (by omega)
 .omega
theorem FW{n'}(hm:f.mode=.run)(hs:ja f n)(hN:oA ag s f n)(hn:n'≤18)(h1:(n'≤2)∨(7≤n∧n≤10∧7≤n'∧n'≤10)):jb ag s C f cs ({f with todo:=cX C n' }::cs):=by
 refine⟨_,rfl,rfl,hm,λp=>⟨p.1,p.2,p.3⟩,.inl ⟨n',hn,rfl,⟨hs.size,λh=>?_,λh=>?_,λh=>?_,λh=>?_,λh=>?_⟩,λh h'=>?_,λh=>?_⟩⟩
 .exact hs.t2 (by omega)
 .exact hs.t3 (by omega)
 .exact hs.t4 (by omega)
 .exact hs.t8 (by omega)
 .exact hs.t10 (by omega)
 .exact hN.1 (by omega) (by omega)
 .exact hN.2 (by omega)
theorem ahB(hm:f.mode=.run)(ht:f.todo=cX C 0)(hs:ja f 0)(hN:oA ag s f 0)(h:(aF S (f::cs)).run S s=.ok fs s'):jb ag s' C f cs fs:=by
 have e:aF S (f::cs)=pure ({f with todo:=cX C 1 }::cs):=by unfold aF;simp only[hm,ht,cX,yT]
 rw[e]at h;cases h
 exact FW hm hs hN (by omega) (.inl (by omega))
theorem ahC(hm:f.mode=.run)(ht:f.todo=cX C 1)(hs:ja f 1)(hN:oA ag s f 1)(h:(aF S (f::cs)).run S s=.ok fs s'):jb ag s' C f cs fs:=by
 have e:aF S (f::cs)=pure ({f with todo:=cX C 2 }::cs):=by unfold aF;simp only[hm,ht,cX];rfl
 rw[e]at h;cases h
 exact FW hm hs hN (by omega) (.inl (by omega))
theorem ahD(hm:f.mode=.run)(ht:f.todo=cX C 7)(hs:ja f 7)(hN:oA ag s f 7)(h:(aF S (f::cs)).run S s=.ok fs s'):jb ag s' C f cs fs:=by
 have e:aF S (f::cs)=pure ({f with todo:=cX C 8 }::cs):=by unfold aF;simp only[hm,ht,cX]
 rw[e]at h;cases h
 exact FW hm hs hN (by omega) (.inr (by omega))
theorem ahE(hm:f.mode=.run)(ht:f.todo=cX C 8)(hs:ja f 8)(hN:oA ag s f 8)(h:(aF S (f::cs)).run S s=.ok fs s'):jb ag s' C f cs fs:=by
 cases hb:f.eval (.tmp 6)with
 |bool x=>
  have e:aF S (f::cs)=pure ({f with todo:=[.code (if x then .region 1 (gy C) ο else C.rest)] }::cs):=by unfold aF;simp only[hm,ht,cX,hb]
  rw[e]at h;cases h
  cases x with
  |true=>exact FW (n':=9) hm hs hN (by omega) (.inr (by omega))
  |false=>exact⟨_,rfl,rfl,hm,λp=>⟨p.1,p.2,p.3⟩,.inr (.inl rfl)⟩
 |_=>
  unfold aF at h;simp only[hm,ht,cX,hb]at h;cases h
theorem ahF(hm:f.mode=.run)(ht:f.todo=cX C 9)(hs:ja f 9)(hN:oA ag s f 9)(h:(aF S (f::cs)).run S s=.ok fs s'):jb ag s' C f cs fs:=by
 have e:aF S (f::cs)=pure ({f with todo:=cX C 10 }::cs):=by unfold aF;simp only[hm,ht,cX];rfl
 rw[e]at h;cases h
 exact FW hm hs hN (by omega) (.inr (by omega))
theorem ahG(hm:f.mode=.run)(ht:f.todo=cX C 10)(hs:ja f 10)(hN:oA ag s f 10)(h:(aF S (f::cs)).run S s=.ok fs s'):jb ag s' C f cs fs:=by
 have ho:(gy C)[0]?=θ _:=rfl;obtain⟨x,s1,h1,h2⟩:=A2 hm ht ho rfl h;cases h1
 cases h2
 refine hU hm ht ho rfl hs.size (by decide) (n:=11) (by omega) rfl λg hg hz=>⟨⟨hz,λ_=>?_,λ_=>?_,λ_=>?_,λh=>?_,λh=>?_⟩,λ_ _=>?_,λh=>?_⟩
 .rw[hg,hg];exact hs.t2 (by omega)
 .rw[hg,hg];exact hs.t3 (by omega)
 .rw[hg,hg];exact hs.t4 (by omega)
 .omega
 .omega
 .rw[hg];exact hN.1 (by omega) (by omega)
 .omega
theorem ahH(hm:f.mode=.run)(ht:f.todo=cX C 11)(hs:ja f 11)(hN:oA ag s f 11)(h:(aF S (f::cs)).run S s=.ok fs s'):jb ag s' C f cs fs:=by
 have ho:(gy C)[1]?=θ _:=rfl;obtain⟨x,s1,h1,h2⟩:=A2 hm ht ho rfl h;cases h1
 cases h2
 refine hU hm ht ho rfl hs.size (by decide) (n:=12) (by omega) rfl λg hg hz=>⟨⟨hz,λ_=>?_,λ_=>?_,λ_=>?_,λ_=>?_,λh=>?_⟩,λ_ _=>?_,λh=>?_⟩
 .rw[hg,hg];exact hs.t2 (by omega)
 .rw[hg,hg];exact hs.t3 (by omega)
 .rw[hg,hg];exact hs.t4 (by omega)
 .rw[hg,hg];rfl
 .omega
 .rw[hg];exact hN.1 (by omega) (by omega)
 .omega
theorem qd{α β:Type}{x:Sem α}{g:α→Sem β}{v:β}{s s'}(h:(x >>= g).run S s=.ok v s'):∃a s1,x.run S s=.ok a s1∧(g a).run S s1=.ok v s':=by
 have h':(x.bind g).run S s=.ok v s':=h;rw[fq]at h';cases hx:x.run S s with
 |halt a b=>rw[hx]at h';cases h'
 |ok a s1=>rw[hx]at h';exact⟨a,s1,rfl,h'⟩
theorem ahI{r}{n}{s s'}(hl:yP ag s r)(h:(FB r).run S s=.ok n s'):s'=s:=by
 unfold FB at h;obtain⟨x,s1,h1,h2⟩:=qd h;obtain⟨rfl,rfl⟩:=Ww h1;obtain⟨_,c,t,z,hc⟩:=hl;have hsh:s1.shape? r=θ (t,c.size):=by simp[wS,hc]
 rw[hsh]at h2;cases h2
 rfl
theorem ahJ{t:Θ}{s s'}(h:(qU t).run S s=.ok n s'):s'=s:=by
 unfold qU se at h;cases hi:S.info? t with
 |none=>simp[go_sem,hi]at h
 |some i=>
  simp[go_sem,hi]at h;exact h.2.symm
theorem ahK{a b e:Θ}{s s'}(hs:S.underlying a=θ (.pointer e))(hd:S.underlying b=θ .unsafePointer)(hp:yU ag s x)(h:(convert a b x).run S s=.ok v s'):yU ag s' v:=by
 unfold convert at h;obtain⟨d1,s1,h1,h⟩:=qd h;obtain⟨rfl,q⟩:=JO h1;rw[hs]at q;cases q
 obtain⟨d2,s2,h2,h⟩:=qd h;obtain⟨rfl,q⟩:=JO h2;rw[hd]at q;cases q
 have h:(yI a b x).run S s2=.ok v s':=by cases x<;>exact h
 unfold yI at h;obtain⟨d1,s1,h1,h⟩:=qd h;obtain⟨rfl,q⟩:=JO h1;rw[hs]at q;cases q
 obtain⟨d2,s3,h2,h⟩:=qd h;obtain⟨rfl,q⟩:=JO h2;rw[hd]at q;cases q
 cases x with
 |pointer o=>
  cases o with
  |none=>cases h;exact hp
  |some a=>
   (dsimp only at h;obtain⟨p,JQ,h3,k1⟩:=qd h;obtain⟨rfl,hrow⟩:=Pq (hp a rfl) h3;obtain⟨c,Pw,h4,k2⟩:=qd k1;have:=ahI hrow h4;subst this;obtain⟨n,A3,h5,bz⟩:=qd k2;have:=ahJ h5;subst this;have ahL:∀{v:ay}{s':υ},(do pure (AR (θ ⟨←uZ (.view p e),0,η⟩)):Sem ay).run S A3=.ok v s'→yU ag s' v:=λ{v s'} h=>by(cases h);intro b hb;(cases hb);obtain⟨x1,c1,t1,z1,x2⟩:=hrow;have lt:=(ξ.1 x2).1;refine .inr ⟨p,e,by simp,x1,c1,t1,z1,?_⟩;show (A3.heap.push _)[p.block]?=_;rw[iV,ς (by omega)];exact x2);have two:∀{x:Bool},(if x=ν then(do pure (AR (θ ⟨←uZ (.view p e),0,η⟩)):Sem ay)else pure (.pointer (θ p))).run S A3=.ok v s'→yU ag s' v:=λ{x} bz=>by
    split at bz
    .exact ahL bz
    ·(cases bz);intro b hb;(cases hb);exact .inl hrow
   exact two bz
 |_=>cases h
theorem ahM(K:k6 S C)(hm:f.mode=.run)(ht:f.todo=cX C 12)(hs:ja f 12)(hN:oA ag s f 12)(h:(aF S (f::cs)).run S s=.ok fs s'):jb ag s' C f cs fs:=by
 have ho:(gy C)[2]?=θ _:=rfl;obtain⟨v,h1,rfl⟩:=Dh (m:=convert C.tp C.tu (f.eval (.tmp 8))) hm ht ho rfl rfl h;obtain⟨e,he⟩:=K.up;have hp:yU ag s (f.eval (.tmp 8)):=by show yU ag s (slot f 8);rw[hs.t8 (by omega)];exact hN.1 (by omega) (by omega)
 have:=ahK he K.uu hp h1;refine hU hm ht ho rfl hs.size (by decide) (n:=13) (by omega) rfl λg hg hz=>⟨⟨hz,λ_=>?_,λ_=>?_,λ_=>?_,λ_=>?_,λh=>?_⟩,λh h'=>?_,λ_=>?_⟩
 .rw[hg,hg];exact hs.t2 (by omega)
 .rw[hg,hg];exact hs.t3 (by omega)
 .rw[hg,hg];exact hs.t4 (by omega)
 .rw[hg,hg];exact hs.t8 (by omega)
 .omega
 .omega
 .rw[hg];exact this
theorem Px(K:k6 S C){n}(h:(gX C.ne #[x]).run S s=.ok n s'):n=.value x∧s'=s:=by
 obtain⟨fn,k1,k2,bz,eB⟩:=K.ne;unfold gX at h
 have e1 : (fn.name == "runtime.NumGoroutine") = ο := by rw [k2]; decide
 have h:((do mark (.extern C.ne);pure (Next.value (←C1 #[x])):Sem Next)).run S s=.ok n s':=by obtain⟨p,s1,h1,h2⟩:=qd h;obtain⟨rfl,rfl⟩:=Wx h1;simpa only[k1,e1,bz,eB,Po k2,OW,Bool.false_eq_true,fh,dF]using h2
 cases h
 exact⟨rfl,rfl⟩
theorem ahN(K:k6 S C)(hm:f.mode=.run)(ht:f.todo=cX C 13)(hs:ja f 13)(hN:oA ag s f 13)(h:(aF S (f::cs)).run S s=.ok fs s'):jb ag s' C f cs fs:=by
 have ho:(gy C)[3]?=θ _:=rfl;obtain⟨x,s1,h1,h2⟩:=A2 hm ht ho rfl h
 have h1 : (aL f.eval { dst := θ 10, op := .call { callee := .value (.func C.ne), args := #[.tmp 9], argTypes := #[C.tu] }, type := C.tu, pos := "builder.go:39", after := af [(2, .data)], guard := η }).run S s = .ok x s1 := h1
 simp[aL,Fw,Deferred.ofValue,invoke,Frame.eval]at h1;obtain⟨rfl,rfl⟩:=Px K h1;cases h2
 refine hU hm ht ho rfl hs.size (by decide) (n:=14) (by omega) rfl λg hg hz=>⟨⟨hz,λ_=>?_,λ_=>?_,λ_=>?_,λ_=>?_,λ_=>?_⟩,λh h'=>?_,λ_=>?_⟩
 .rw[hg,hg];exact hs.t2 (by omega)
 .rw[hg,hg];exact hs.t3 (by omega)
 .rw[hg,hg];exact hs.t4 (by omega)
 .rw[hg,hg];exact hs.t8 (by omega)
 .rw[hg,hg,χ rfl,ς (by decide)];simp[slot]
 .omega
 .rw[hg];exact hN.2 (.inl rfl)
theorem ahO(hm:f.mode=.run)(ht:f.todo=cX C 14)(hs:ja f 14)(h:(aF S (f::cs)).run S s=.ok fs s'):jb ag s' C f cs fs:=by
 have ho:(gy C)[4]?=θ _:=rfl;obtain⟨v,h1,rfl⟩:=Dh (m:=convert C.tu C.tp (f.eval (.tmp 10))) hm ht ho rfl rfl h;refine hU hm ht ho rfl hs.size (by decide) (n:=15) (by omega) rfl λg hg hz=>⟨⟨hz,λ_=>?_,λ_=>?_,λ_=>?_,λ_=>?_,λ_=>?_⟩,λh h'=>?_,λ_=>?_⟩
 .rw[hg,hg];exact hs.t2 (by omega)
 .rw[hg,hg];exact hs.t3 (by omega)
 .rw[hg,hg];exact hs.t4 (by omega)
 .rw[hg,hg];exact hs.t8 (by omega)
 .rw[hg,hg];exact hs.t10 (by omega)
 .omega
 .omega
theorem ahP(hm:f.mode=.run)(ht:f.todo=cX C 15)(hs:ja f 15)(h:(aF S (f::cs)).run S s=.ok fs s'):jb ag s' C f cs fs:=by
 have ho:(gy C)[5]?=θ _:=rfl;obtain⟨x,s1,h1,h2⟩:=A2 hm ht ho rfl h;have e:=Di (v:=slot f 7) rfl rfl h1;subst e;cases h2
 refine hU hm ht ho rfl hs.size (by decide) (n:=16) (by omega) rfl λg hg hz=>⟨⟨hz,λ_=>?_,λ_=>?_,λ_=>?_,λ_=>?_,λ_=>?_⟩,λh h'=>?_,λ_=>?_⟩
 .rw[hg,hg];exact hs.t2 (by omega)
 .rw[hg,hg];exact hs.t3 (by omega)
 .rw[hg,hg];exact hs.t4 (by omega)
 .rw[hg,hg];exact hs.t8 (by omega)
 .rw[hg,hg];exact hs.t10 (by omega)
 .omega
 .omega
theorem ahQ(hm:f.mode=.run)(ht:f.todo=cX C 16)(hs:ja f 16)(h:(aF S (f::cs)).run S s=.ok fs s'):jb ag s' C f cs fs:=by
 have ho:(gy C)[6]?=θ _:=rfl;obtain⟨v,h1,rfl⟩:=Dh (m:=tM C.tb (f.eval (.tmp 12)) 0) hm ht ho rfl rfl h;refine hU hm ht ho rfl hs.size (by decide) (n:=17) (by omega) rfl λg hg hz=>⟨⟨hz,λ_=>?_,λ_=>?_,λ_=>?_,λ_=>?_,λ_=>?_⟩,λh h'=>?_,λ_=>?_⟩
 .rw[hg,hg];exact hs.t2 (by omega)
 .rw[hg,hg];exact hs.t3 (by omega)
 .rw[hg,hg];exact hs.t4 (by omega)
 .rw[hg,hg];exact hs.t8 (by omega)
 .rw[hg,hg];exact hs.t10 (by omega)
 .omega
 .omega
theorem ahR(hm:f.mode=.run)(ht:f.todo=cX C 17)(hs:ja f 17)(h:(aF S (f::cs)).run S s=.ok fs s'):jb ag s' C f cs fs:=by
 have ho:(gy C)[7]?=θ _:=rfl;obtain⟨x,s1,h1,h2⟩:=A2 hm ht ho rfl h;have h1:=h1;obtain⟨u,s2,_,h3⟩:=qd h1;cases h3
 cases h2
 have e:(f.finish undef).tmps=f.tmps:=by unfold Frame.finish;rw[ht];rfl
 have sl:∀t,slot (f.finish undef) t=slot f t:=λt=>by unfold slot;rw[e]
 refine⟨_,rfl,(JP _ _).1,(JP _ _).2.trans hm,λp=>Pm p _,.inl ⟨18,by omega,WI ht _,⟨by rw[e];exact hs.size,λ_=>?_,λ_=>?_,λ_=>?_,λ_=>?_,λ_=>?_⟩,λh h'=>?_,λ_=>?_⟩⟩
 .rw[sl,sl];exact hs.t2 (by omega)
 .rw[sl,sl];exact hs.t3 (by omega)
 .rw[sl,sl];exact hs.t4 (by omega)
 .rw[sl,sl];exact hs.t8 (by omega)
 .rw[sl,sl];exact hs.t10 (by omega)
 .omega
 .omega
theorem ahS(hm:f.mode=.run)(ht:f.todo=cX C 18)(h:(aF S (f::cs)).run S s=.ok fs s'):jb ag s' C f cs fs:=by
 have e:aF S (f::cs)=pure ({f with todo:=[] }::cs):=by unfold aF;simp only[hm,ht,cX]
 rw[e]at h;cases h
 exact⟨_,rfl,rfl,hm,λp=>⟨p.1,p.2,p.3⟩,.inr (.inr rfl)⟩
theorem WK(K:k6 S C)(hv:Sh ag s)(hn:n≤18)(hm:f.mode=.run)(ht:f.todo=cX C n)(hs:ja f n)(hN:oA ag s f n)(h:(aF S (f::cs)).run S s=.ok fs s'):jb ag s' C f cs fs:=by
 match n,hn with
 |0,_=>exact ahB hm ht hs hN h
 |1,_=>exact ahC hm ht hs hN h
 |2,_=>exact ahu hm ht hs h
 |3,_=>exact ahv hm ht hs h
 |4,_=>exact ahw K hm ht hs h
 |5,_=>exact ahx K hv hm ht hs h
 |6,_=>exact ahA K hm ht hs hN h
 |7,_=>exact ahD hm ht hs hN h
 |8,_=>exact ahE hm ht hs hN h
 |9,_=>exact ahF hm ht hs hN h
 |10,_=>exact ahG hm ht hs hN h
 |11,_=>exact ahH hm ht hs hN h
 |12,_=>exact ahM K hm ht hs hN h
 |13,_=>exact ahN K hm ht hs hN h
 |14,_=>exact ahO hm ht hs h
 |15,_=>exact ahP hm ht hs h
 |16,_=>exact ahQ hm ht hs h
 |17,_=>exact ahR hm ht hs h
 |18,_=>exact ahS hm ht h
 |n+19,hn=>omega
end
end
variable{ops:Array Oper}{fs:List Frame}{k:List kD}{l:List Nat}{i n:Nat}{x:Next}{o:Oper}{ev:Operand→ay}{m:Sem ay}{s1:υ}
section
variable {av:FuncId}{S R:Program}{ag:cV}{ok:FuncId→Bool}{sp:FuncId}{C:tO}{f:Frame}{cs:List Frame}{s:υ}
theorem WL(H:aE S R){x}(ho:o.op=.nilCheck x)(ev:Operand→ay):aG av S R ag Eq (aL ev o) (aL ev o):=by
 unfold aL;rw[ho];simp only;split
 .exact k4 H
 .exact k4 H
 .exact k4 H
 .split
  .exact k4 H
  .refine iY.bind ?_;rintro p q ⟨hp,hq⟩;rw[hp,hq,H.types];refine(Pj H _ _ _ _).on λr=>?_;split
   .exact(dw.left (iX _)).k3
   .exact az _
  .exact az _
 .exact az _
theorem FX(hm:f.mode=.run)(ht:f.todo=.inRegion ops (i::l)::k)(ho:ops[i]?=θ o)(hg:o.guard=η)(he:hO av S R ag Eq (aL f.eval o) (aL f.eval o) s)(hq:∀n s1,(aL f.eval o).run S s=.ok n s1→(∃v,n=.value v)∨n=.skip):hO av S R ag Eq (aF S (f::cs)) (aF R (f::cs)) s:=by
 have e:∀P:Program,aF P (f::cs)=(aL f.eval o >>= jQ P f cs):=λP=>by unfold aF;simp[hm,ht,ho,cF,hg]
 rw[e,e];refine he.bind λa b s1 hr hv q=>?_;subst q;rcases hq a s1 hr with⟨v,rfl⟩|rfl
 .exact(az _).at hv
 .exact(az _).at hv
theorem wX(hm:f.mode=.run)(ht:f.todo=.inRegion ops (i::l)::k)(ho:ops[i]?=θ o)(hg:o.guard=η)(he:aL f.eval o=(do pure (Next.value (←m))))(hk:hO av S R ag Eq m m s):hO av S R ag Eq (aF S (f::cs)) (aF R (f::cs)) s:=by
 refine FX hm ht ho hg ?_ λn s1 hr=>?_
 .rw[he];refine hk.bind λa b s1 hr hv q=>?_;subst q;exact(az _).at hv
 .rw[he]at hr;obtain⟨a,s2,_,h2⟩:=qd hr;cases h2
  exact .inl ⟨a,rfl⟩
theorem ahT(F:iP S R ok sp)(K:k6 S C)(hk:ok C.ne=ν)x:aG av S R ag Eq (gX C.ne x) (gX C.ne x):=by
 obtain⟨fn,k1,k2,bz,eB⟩:=K.ne;have ahU:R.funcs[C.ne]?=θ fn:=by
  obtain⟨Pv,fn',h1,h2,_,h4,_⟩:=F.same C.ne hk;rw[k1]at h1;cases h1
  rcases h4 with rfl|⟨h4,_⟩
  .exact h2
  .rw[bz]at h4;cases h4
 have e1 : (fn.name == "runtime.NumGoroutine") = ο := by rw [k2]; decide
 unfold gX;refine iY.bind ?_;rintro p q ⟨hp,hq⟩;rw[hp,hq,k1,ahU];simp only[e1,bz,eB,Po k2,OW,Bool.false_eq_true,fh,dF];exact(O6 (.inr ⟨_,rfl⟩)).on λ_=>(Wu x).on λ_=>az _
theorem Dj(hv:Sh ag s)(h:∀P:Program,aF P (f::cs)=pure fs):hO av S R ag Eq (aF S (f::cs)) (aF R (f::cs)) s:=by rw[h,h];exact(az _).at hv
theorem ahV(F:iP S R ok sp)(K:k6 S C):ok C.ne=true:=by
 obtain⟨fn,k1,_,bz,_⟩:=K.ne;cases h:ok C.ne with
 |true=>rfl
 |false=>obtain⟨why,hw⟩:=F.dead _ fn h k1;rw[bz]at hw;cases hw
theorem wY(he:aL ev o=(do pure (Next.value (←m))))(h:(aL ev o).run S s=.ok x s1):(∃v,x=.value v)∨x=.skip:=by
 rw[he]at h;obtain⟨v,_,_,h2⟩:=qd h;cases h2
 exact .inl ⟨v,rfl⟩
theorem ahW(K:k6 S C)(ht:cX C n=.inRegion ops (i::l)::k)(ho:ops[i]?=θ o)(h:(aL f.eval o).run S s=.ok x s1):o.guard=η∧((∃v,x=.value v)∨x=.skip):=by
 match n with
 |0|1|7|8|9=>simp[cX]at ht
 |2=>cases ht;cases ho;exact⟨rfl,wY (m:=pure (f.eval (.tmp 0))) rfl h⟩
 |3=>cases ht;cases ho;exact⟨rfl,.inl ⟨_,Di (v:=f.eval (.tmp 2)) rfl rfl h⟩⟩
 |4=>cases ht;cases ho;exact⟨rfl,wY (m:=tM C.tb (f.eval (.tmp 3)) 0) rfl h⟩
 |5=>cases ht;cases ho;exact⟨rfl,wY (m:=AL C.tp (f.eval (.tmp 4))) rfl h⟩
 |6=>cases ht;cases ho;exact⟨rfl,wY (m:=(do wN .eql C.tp (.tmp 5) (.const (.pointer η)) (f.eval (.tmp 5)) (.pointer η);binOp .eql C.tp (f.eval (.tmp 5)) (.pointer η))) rfl h⟩
 |10=>cases ht;cases ho;exact⟨rfl,wY (m:=pure (f.eval (.tmp 0))) rfl h⟩
 |11=>cases ht;cases ho;exact⟨rfl,wY (m:=pure (f.eval (.tmp 0))) rfl h⟩
 |12=>cases ht;cases ho;exact⟨rfl,wY (m:=convert C.tp C.tu (f.eval (.tmp 8))) rfl h⟩
 |13=>
  cases ht
  have e : o = { dst := θ 10, op := .call { callee := .value (.func C.ne), args := #[.tmp 9], argTypes := #[C.tu] }, type := C.tu, pos := "builder.go:39", after := af [(2, .data)], guard := η } := by cases ho; rfl
  subst e;simp[aL,Fw,Deferred.ofValue,invoke,Frame.eval]at h;exact⟨rfl,.inl ⟨_,(Px K h).1⟩⟩
 |14=>cases ht;cases ho;exact⟨rfl,wY (m:=convert C.tu C.tp (f.eval (.tmp 10))) rfl h⟩
 |15=>cases ht;cases ho;exact⟨rfl,.inl ⟨_,Di (v:=f.eval (.tmp 7)) rfl rfl h⟩⟩
 |16=>cases ht;cases ho;exact⟨rfl,wY (m:=tM C.tb (f.eval (.tmp 12)) 0) rfl h⟩
 |17=>
  cases ht;cases ho
  have h:=h;obtain⟨_,_,_,h2⟩:=qd h;cases h2
  exact⟨rfl,.inr rfl⟩
 |n+18=>simp[cX]at ht
theorem ahX(F:iP S R ok sp)(K:k6 S C)(hv:Sh ag s)(hn:n≤18)(hm:f.mode=.run)(ht:f.todo=cX C n)(hs:ja f n)(hN:oA ag s f n):hO av S R ag Eq (aF S (f::cs)) (aF R (f::cs)) s:=by
 have H:=F.sm;have hk:=ahV F K;have ahY:Df S C.tp C.tu=true:=by obtain⟨e,he⟩:=K.up;simp[Df,he,K.uu]
 have ahZ:Df S C.tu C.tp=true:=by obtain⟨e,he⟩:=K.up;simp[Df,he,K.uu]
 match n,hn with
 |0,_=>exact Dj (fs:={f with todo:=cX C 1 }::cs) hv λP=>by unfold aF;simp only[hm,ht,cX,yT]
 |1,_=>exact Dj (fs:={f with todo:=cX C 2 }::cs) hv λP=>by unfold aF;simp only[hm,ht,cX];rfl
 |2,_=>exact wX (m:=pure (f.eval (.tmp 0))) hm ht rfl rfl rfl ((az _).at hv)
 |3,_=>exact FX hm ht rfl rfl ((WL H rfl _).at hv) λn s1 hr=>.inl ⟨_,Di (v:=f.eval (.tmp 2)) rfl rfl hr⟩
 |4,_=>exact wX (m:=tM C.tb (f.eval (.tmp 3)) 0) hm ht rfl rfl rfl ((Pd H _ _ _).at hv)
 |5,_=>exact wX (m:=AL C.tp (f.eval (.tmp 4))) hm ht rfl rfl rfl ((Wa H _ _).at hv)
 |6,_=>exact wX (m:=(do wN .eql C.tp (.tmp 5) (.const (.pointer η)) (f.eval (.tmp 5)) (.pointer η);binOp .eql C.tp (f.eval (.tmp 5)) (.pointer η))) hm ht rfl rfl rfl (((Wp H _ _ _ _ _ _).on λ_=>Wo H _ _ _ _).at hv)
 |7,_=>exact Dj (fs:={f with todo:=cX C 8 }::cs) hv λP=>by unfold aF;simp only[hm,ht,cX]
 |8,_=>
  cases hb:f.eval (.tmp 6)with
  |bool x=>exact Dj (fs:={f with todo:=[.code (if x then .region 1 (gy C) ο else C.rest)] }::cs) hv λP=>by unfold aF;simp only[hm,ht,cX,hb]
  |_=>
   unfold aF;simp only[hm,ht,cX,hb];exact aG.at aZ hv
 |9,_=>exact Dj (fs:={f with todo:=cX C 10 }::cs) hv λP=>by unfold aF;simp only[hm,ht,cX];rfl
 |10,_=>exact wX (m:=pure (f.eval (.tmp 0))) hm ht rfl rfl rfl ((az _).at hv)
 |11,_=>exact wX (m:=pure (f.eval (.tmp 0))) hm ht rfl rfl rfl ((az _).at hv)
 |12,_=>
  refine wX (m:=convert C.tp C.tu (f.eval (.tmp 8))) hm ht rfl rfl rfl (WB H ahY hv λa ha=>hN.1 (by omega) (by omega) a ?_);rw[←hs.t8 (by omega)];exact ha
 |13,_=>
  refine FX hm ht (o := { dst := θ 10, op := .call { callee := .value (.func C.ne), args := #[.tmp 9], argTypes := #[C.tu] }, type := C.tu, pos := "builder.go:39", after := af [(2, .data)], guard := η }) rfl rfl ?_ fun n s1 hr => ?_
  .simp[aL,Fw,Deferred.ofValue,invoke,Frame.eval];exact(ahT F K hk _).at hv
  .simp[aL,Fw,Deferred.ofValue,invoke,Frame.eval]at hr;exact .inl ⟨_,(Px K hr).1⟩
 |14,_=>
  refine wX (m:=convert C.tu C.tp (f.eval (.tmp 10))) hm ht rfl rfl rfl (WB H ahZ hv λa ha=>hN.2 (by omega) a ?_);rw[←hs.t10 (by omega)];exact ha
 |15,_=>exact FX hm ht rfl rfl ((WL H rfl _).at hv) λn s1 hr=>.inl ⟨_,Di (v:=f.eval (.tmp 7)) rfl rfl hr⟩
 |16,_=>exact wX (m:=tM C.tb (f.eval (.tmp 12)) 0) hm ht rfl rfl rfl ((Pd H _ _ _).at hv)
 |17,_=>
  refine FX hm ht rfl rfl ?_ λn s1 hr=>?_
  .exact aG.at (aG.on (x:=Jw C.tp (f.eval (.tmp 13)) (f.eval (.tmp 11))) (Wb H _ _ _) λ_=>az _) hv
  .have hr:(do Jw C.tp (f.eval (.tmp 13)) (f.eval (.tmp 11));pure Next.skip:Sem Next).run S s=.ok n s1:=hr;obtain⟨_,_,_,h2⟩:=qd hr;(cases h2);exact .inr rfl
 |18,_=>exact Dj (fs:={f with todo:=[] }::cs) hv λP=>by unfold aF;simp only[hm,ht,cX]
 |n+19,hn=>omega
end
variable{C:tO}{cs fs l:List Frame}{k:List kD}{s s':υ}
def jz(S:Program):kD->Bool
 | .code c=>codeOk S c
 | .inBlock _=>ν
 | .inLoop b | .inScope b=>codeOk S b
 | .inRegion ops _=>ops.all λo=>FV S o.op
 |_=>ο
def known(S:Program):FuncId->Bool:=λf=>decide (f<S.funcs.size)
def Own(S:Program):Prop:=iP S S (known S) S.funcs.size
structure gz(S:Program)(f:Frame):Prop where
 known:∃fn,S.funcs[f.fn]?=θ fn
 calm:f.mode=.run\/f.mode=.returning
 plain:Plain f
 items:f.todo.all (jz S)=ν
def tP(S:Program)(fs:List Frame):Prop:=∀f∈fs,gz S f
structure WM(ag:cV)(S:Program)(f:Frame)(s:υ):Prop where
 known:∃fn,S.funcs[f.fn]?=θ fn
 plain:Plain f
 run:f.mode=.run
 at_:∃C n,k6 S C/\n<=18/\f.todo=cX C n/\ja f n/\oA ag s f n
structure JR(S:Program)(f:Frame):Prop where
 known:∃fn,S.funcs[f.fn]?=θ fn
 plain:Plain f
 run:f.mode=.run
 at_:∃C,k6 S C/\f.todo=cX C 0/\20<=f.tmps.size
theorem JR.fI{ag}{S}{f}(h:JR S f):WM ag S f s:=
 let ⟨C,hC,ht,hz⟩:=h.at_
 ⟨h.known,h.plain,h.run,C,0,hC,by omega,ht,⟨hz,by omega,by omega,by omega,by omega,by omega⟩,by omega,by omega⟩
def vn(S:Program):List Frame->Prop
 |[]=>True
 |f::cs=>(gz S f\/JR S f)/\tP S cs
def fO(ag:cV)(S:Program):List Frame->υ->Prop
 |[],_=>True
 |f::cs,s=>(gz S f\/WM ag S f s)/\tP S cs
theorem vn.at{S}(h:vn S fs){ag}s:fO ag S fs s:=by
 cases fs with
 |nil=>trivial
 |cons f cs=>exact⟨h.1.imp id (·.fI),h.2⟩
theorem tP.f{S}(h:tP S fs):vn S fs:=by
 cases fs with
 |nil=>trivial
 |cons f cs=>exact⟨.inl (h f List.mem_cons_self),λg hg=>h g (List.mem_cons_of_mem _ hg)⟩
theorem fO.known{ag}{S}{f}(h:fO ag S (f::cs) s):∃fn,S.funcs[f.fn]?=θ fn:=h.1.elim (·.known) (·.known)
theorem fO.plain{ag}{S}{f}(h:fO ag S (f::cs) s):Plain f:=h.1.elim (·.plain) (·.plain)
theorem fO.calm{ag}{S}{f}(h:fO ag S (f::cs) s):f.mode=.run\/f.mode=.returning:=h.1.elim (·.calm) (.inl ·.run)
section
variable {av:FuncId}{S R:Program}{ag:cV}{ok:FuncId->Bool}{sp:FuncId}
theorem gz.to{f}(h:gz S f)(hk:k.all (jz S)=ν):gz S {f with todo:=k }:=⟨h.known,h.calm,⟨h.plain.1,h.plain.2,h.plain.3⟩,hk⟩
theorem gz.finish{f}(h:gz S f)v:gz S (f.finish v):=by
 have hp:=Pm h.plain v;obtain⟨jy,tmps,todo,defers,mode,kind,roundOf⟩:=f;obtain⟨h1,h2,h3,h4⟩:=h;cases todo with
 |nil=>exact⟨h1,h2,hp,h4⟩
 |cons it k=>
  have vk:=h4;simp only[List.all_cons,Bool.and_eq_true]at vk;cases it with
  |inRegion ops l=>
   cases l with
   |nil=>exact⟨h1,h2,hp,h4⟩
   |cons i l=>exact⟨h1,h2,hp,h4⟩
  |inRangeFunc l=>exact absurd vk.1 (by simp[jz])
  |beginRound=>exact absurd vk.1 (by simp[jz])
  |call d wr re sa=>exact absurd vk.1 (by simp[jz])
  |extern r a=>exact absurd vk.1 (by simp[jz])
  |_=>exact⟨h1,h2,hp,h4⟩
theorem gz.enter(F:iP S R ok sp){f}{fn}(hf:S.funcs[f]?=θ fn){c}(hb:fn.body=θ c)x:gz S (Frame.enter S f x .normal)\/JR S (Frame.enter S f x .normal):=by
 obtain⟨_,⟨c1,aj,hc⟩|⟨aj,_⟩⟩:=F.all f fn hf
 .rw[hb]at aj;cases aj
  rcases hc with hc|⟨C,hC,rfl,hz⟩
  .exact .inl ⟨⟨fn,hf⟩,.inl rfl,⟨rfl,rfl,rfl⟩,by simp[Frame.enter,hf,hb,jz,hc]⟩
  .exact .inr ⟨⟨fn,hf⟩,⟨rfl,rfl,rfl⟩,rfl,C,hC,by simp[Frame.enter,hf,hb,cX],by simp[Frame.enter,hf,hz];omega⟩
 .rw[hb]at aj;cases aj
theorem Py{id}:∀{k k':List kD},FE id k=θ k'->k.all (jz S)=ν->k'.all (jz S)=ν
 |[],k',h,_=>by cases h
 |it::k,k',h,ha=>by
  simp only[List.all_cons,Bool.and_eq_true]at ha;cases it with
  |inBlock i=>
   simp only[FE]at h;split at h
   .cases h;exact ha.2
   .exact Py h ha.2
  |_=>exact Py (k:=k) (by simpa only[FE]using h) ha.2
def Pz(S:Program)(ok:FuncId->Bool)(fs l:List Frame):Prop:=vn S l/\∃f x,ok f=ο/\l=Frame.enter S f x .normal::fs
def Lk(S R:Program)(sp:FuncId)(fs l l':List Frame):Prop:=vn S l/\((l=l'/\∀x,l≠Frame.enter S sp x .normal::fs)\/∃x,l=Frame.enter S sp x .normal::fs/\l'=Frame.enter R sp x .normal::fs)
theorem all_cons{f}:tP S (f::cs)↔gz S f/\tP S cs:=by simp[tP]
theorem FY(H:aE S R)fn x:aG av S R ag Eq (results fn x) (results fn x):=by
 unfold results;rw[VR,map_eq_pure_bind,bind_assoc];refine(mapM_ok _ (λr=>?_) _).on λl=>?_
 .cases r with
  |tmp t=>exact az _
  |cell a t=>exact(FQ H _).on λ_=>FO H _ _
 .rw[pure_bind];exact az _
theorem PC(F:iP S R ok sp){f}(ho:ok f=ν)(hs:f≠sp)x:Frame.enter R f x .normal=Frame.enter S f x .normal:=by obtain⟨fn,fn',h1,h2,h3,_⟩:=F.same f ho;have:=h3 hs;subst this;simp[Frame.enter,h1,h2]
theorem WN(F:iP S R ok sp){f:Frame}(h:tP S (f::cs))(PD:ok f.fn=ν)(hs:f.fn≠sp):nG sp S R ag (Pz S ok (f::cs)) (Lk S R sp (f::cs)) (aF S (f::cs)) (aF R (f::cs)):=by
 obtain⟨hf,hc⟩:=all_cons.1 h;have fJ:=hf.finish;have hto:∀{k:List kD},k.all (jz S)=ν->gz S {f with todo:=k }:=λh=>hf.to h;have WO:gz S {f with mode:=.returning }:=⟨hf.known,.inr rfl,⟨hf.plain.1,hf.plain.2,hf.plain.3⟩,hf.items⟩;have hsame:S.funcs[f.fn]?=R.funcs[f.fn]?:=by obtain⟨fn,fn',h1,h2,h3,_⟩:=F.same _ PD;rw[h1,h2,h3 hs]
 have pu:∀{g:Frame},gz S g->nG sp S R ag (Pz S ok (f::cs)) (Lk S R sp (f::cs)) (pure (g::cs)) (pure (g::cs)):=λhg=>(gZ ⟨⟨.inl hg,hc⟩,.inl ⟨rfl,λx e=>by have:=jM List.length e;simp at this⟩⟩).k5;have hh:=h;obtain⟨jy,tmps,todo,defers,mode,kind,roundOf⟩:=f;obtain⟨⟨fn0,h1⟩,h7,h8,h10⟩:=hf;simp only at h7 h10 hsame;rcases h7 with rfl|rfl
 .have one:∀{k:List kD},k.all (jz S)=ν->nG sp S R ag (Pz S ok _) (Lk S R sp _) (pure (({fn:=jy,tmps:=tmps,todo:=k,defers:=defers,mode:=.run,kind:=kind,roundOf:=roundOf }:Frame)::cs)) (pure (({fn:=jy,tmps:=tmps,todo:=k,defers:=defers,mode:=.run,kind:=kind,roundOf:=roundOf }:Frame)::cs)):=λhk=>pu (hto hk);cases todo with
  |nil=>exact pu WO
  |cons it k=>
   simp only[List.all_cons,Bool.and_eq_true]at h10;obtain⟨hi,hk⟩:=h10;cases it with
   |inBlock id=>exact one hk
   |inScope b=>exact one hk
   |inLoop b=>exact one (by simp only[List.all_cons,Bool.and_eq_true];exact⟨hi,hi,hk⟩)
   |inRegion ops l=>
    cases l with
    |nil=>exact one hk
    |cons i l=>
     unfold aF;simp only;cases ho:ops[i]? with
     |none=>exact pu (fJ undef)
     |some o=>
      simp only;split
      .have PE:FV S o.op=true:=Fs.1 hi o (Ft ho);refine nG.bind (WH F PE _) (λx y h=>?_) (λx h=>?_)
       .obtain⟨rfl,hg⟩:=h;cases x with
        |value v=>exact pu (fJ v)
        |skip=>exact pu (fJ undef)
        |enter g y=>
         intro s hv;refine⟨λh s' hr=>(by cases hr),λa s' hr=>?_⟩;(cases hr);obtain⟨fn,c,hfn,hb⟩:=hg;have hA:vn S (Frame.enter S g y .normal::_::cs):=⟨gz.enter F hfn hb y,hh⟩;refine⟨.refl _,hv,?_⟩;cases A4:ok g with
         |false=>exact .inl ⟨hA,g,y,A4,rfl⟩
         |true=>
          by_cases JS:g=sp
          .subst JS;exact .inr ⟨⟨_,hA,.inr ⟨y,rfl,rfl⟩⟩,λw es hw _=>⟨_,w,#[],by simp only[nF];rfl,⟨hA,.inr ⟨y,rfl,rfl⟩⟩,.refl hw⟩⟩
          .refine .inr ⟨⟨_,hA,.inl ⟨rfl,λx e=>JS (jM Frame.fn (List.cons.inj e).1)⟩⟩,λw es hw _=>⟨_,w,#[],by simp only[nF];rfl,⟨hA,.inl ⟨?_,λx e=>JS (jM Frame.fn (List.cons.inj e).1)⟩⟩,.refl hw⟩⟩;rw[PC F A4 JS]
        |_=>exact hg.elim
       .obtain⟨g,y,rfl,hg,fn,c,hfn,hb⟩:=h;intro s hv;refine⟨λh s' hr=>(by cases hr),λc s' hr=>?_⟩;(cases hr);exact⟨.refl _,hv,⟨gz.enter F hfn hb y,hh⟩,g,y,hg,rfl⟩
      .exact pu (fJ undef)
   |code c=>
    cases c with
    |ret=>exact pu WO
    |skip=>exact one hk
    |label l=>exact one hk
    |seq a b=>
     simp only[jz,codeOk,Bool.and_eq_true]at hi;exact one (by simp only[List.all_cons,Bool.and_eq_true];exact⟨hi.1,hi.2,hk⟩)
    |cond c a b=>
     simp only[jz,codeOk,Bool.and_eq_true]at hi;unfold aF;simp only;generalize Frame.eval _ c=v;cases v with
     |bool x=>
      cases x
      .exact one (by simp only[List.all_cons,Bool.and_eq_true];exact⟨hi.2,hk⟩)
      .exact one (by simp only[List.all_cons,Bool.and_eq_true];exact⟨hi.1,hk⟩)
     |_=>exact vh
    |block id b=>exact one (by simp only[List.all_cons,Bool.and_eq_true];exact⟨hi,rfl,hk⟩)
    |loop b=>exact one (by simp only[List.all_cons,Bool.and_eq_true];exact⟨hi,hi,hk⟩)
    |scope b=>exact one (by simp only[List.all_cons,Bool.and_eq_true];exact⟨hi,hi,hk⟩)
    |exit id=>
     unfold aF;simp only;cases he:FE id k with
     |none=>exact vh
     |some k'=>exact one (Py he hk)
    |region id ops draw=>
     unfold aF;simp only;cases draw with
     |false=>exact one (by simp only[List.all_cons,Bool.and_eq_true];exact⟨hi,hk⟩)
     |true=>
      simp only[Bool.not_true,Bool.false_eq_true,fh];rw[<-F.sm.follows];exact(mQ _ (λj e=>by cases e;exact hs rfl)).yS λt=>one (by simp only[List.all_cons,Bool.and_eq_true];exact⟨hi,hk⟩)
    |rangeFunc=>simp[jz,codeOk]at hi
    |goto=>simp[jz,codeOk]at hi
    |refuse=>exact vh
   |inRangeFunc=>simp[jz]at hi
   |endRangeFunc=>simp[jz]at hi
   |beginRound=>simp[jz]at hi
   |call=>simp[jz]at hi
   |extern=>simp[jz]at hi
 .unfold aF;simp only at hsame ⊢;rw[<-hsame,h1];cases cs with
  |nil=>exact vh
  |cons g cs=>
   simp only;obtain⟨hg,hc⟩:=all_cons.1 hc;exact(FY F.sm _ _).yS λv=>(gZ ⟨⟨.inl (hg.finish v),hc⟩,.inl ⟨rfl,λx e=>by have:=jM List.length e;simp at this⟩⟩).k5
def ah0(S:Program)(ok:FuncId->Bool)(fs l:List Frame):Prop:=∃f x,ok f=ο/\l=Frame.enter S f x .normal::fs
def ah1(S R:Program)(sp:FuncId)(fs l l':List Frame):Prop:=(l=l'/\∀x,l≠Frame.enter S sp x .normal::fs)\/∃x,l=Frame.enter S sp x .normal::fs/\l'=Frame.enter R sp x .normal::fs
theorem jb.all{f}(K:k6 S C)(hk:∃fn,S.funcs[f.fn]?=θ fn)(hp:Plain f)(hc:tP S cs)(h:jb ag s' C f cs fs):fO ag S fs s':=by
 obtain⟨f',rfl,e,hm,hpl,hn⟩:=h;rcases hn with⟨n,h1,h2,h3,h4⟩|h|h
 .exact⟨.inr ⟨e▸hk,hpl hp,hm,C,n,K,h1,h2,h3,h4⟩,hc⟩
 .exact⟨.inl ⟨e▸hk,.inl hm,hpl hp,by simp[h,jz,K.rest]⟩,hc⟩
 .exact⟨.inl ⟨e▸hk,.inl hm,hpl hp,by simp[h]⟩,hc⟩
theorem yV(F:Own S)(h:fO ag S fs s)(hv:Sh ag s)(hr:(aF S fs).run S s=.ok l s'):fO ag S l s':=by
 cases fs with
 |nil=>cases hr
 |cons f cs=>
  obtain⟨hf|hf,hc⟩:=h
  .obtain⟨fn,hfn⟩:=hf.known;have hz:=(ξ.1 hfn).1;obtain⟨_,_,hd⟩:=(WN F (all_cons.2 ⟨hf,hc⟩) (by simp[known,hz]) (Nat.ne_of_lt hz) s hv).2 _ _ hr;rcases hd with⟨hA,_⟩|⟨⟨_,hA,_⟩,_⟩<;>exact hA.at s'
  .obtain⟨C,n,K,hn,ht,hs,hN⟩:=hf.at_;exact(WK K hv hn hf.run ht hs hN hr).all K hf.known hf.plain hc
theorem JU(F:iP S R ok sp){f}(h:fO ag S (f::cs) s)(hv:Sh ag s)(PD:ok f.fn=ν)(hs:f.fn≠sp):(∀h s',(aF S (f::cs)).run S s=.halt h s'->l9 h)/\∀l s',(aF S (f::cs)).run S s=.ok l s'->Kept s s'/\Sh ag s'/\(ah0 S ok (f::cs) l\/∀w es,di ag s w->FL sp s s' w->∃l' w' u,(aF R (f::cs)).runT R w es=(.ok l' w',es++u)/\ah1 S R sp (f::cs) l l'/\u7 ag s s' w w' u):=by
 obtain⟨hf|hf,hc⟩:=h
 .obtain⟨h1,h2⟩:=WN (ag:=ag) F (all_cons.2 ⟨hf,hc⟩) PD hs s hv;refine⟨h1,λl s' hr=>?_⟩;obtain⟨k,v,hd⟩:=h2 l s' hr;refine⟨k,v,hd.imp (·.2) λ⟨_,hw⟩ w es a b=>?_⟩;obtain⟨l',w',u,r,q,g⟩:=hw w es a b;exact⟨l',w',u,r,q.2,g⟩
 .obtain⟨C,n,K,hn,ht,wZ,hN⟩:=hf.at_;obtain⟨h1,h2⟩:=ahX (av:=sp) (cs:=cs) F K hv hn hf.run ht wZ hN;refine⟨h1,λl s' hr=>?_⟩;obtain⟨k,v,_,hw⟩:=h2 l s' hr;refine⟨k,v,.inr λw es a b=>?_⟩;obtain⟨l',w',u,r,rfl,g⟩:=hw w es a b;refine⟨l,w',u,r,.inl ⟨rfl,λx e=>?_⟩,g⟩;obtain⟨f',e',_⟩:=WK K hv hn hf.run ht wZ hN hr;have:=jM List.length (e'.symm.trans e);simp at this
end
variable{fr':Frame}{av:FuncId}{vo aV cs cs' fs l:List Frame}{P:Program}{s s' s1 s2 w w':υ}{ag:cV}
def dI(P : Program): Frame := { fn := P.funcs.size, tmps := #[], todo := [.call { target := .nil, args := #[] } ο "fmt's door" #[]], defers := [], mode := .run, kind := .normal, roundOf := η }
theorem WQ P ch:((dI P).raise ch).mode=.panicking ch∧((dI P).raise ch).catches P=ν∧((dI P).raise ch).defers=[]:=by
 refine⟨rfl,?_,rfl⟩;have:P.funcs[P.funcs.size]?=none:=by simp
 simp only[Frame.catches,Frame.raise,dI,this];decide+kernel
theorem ah2: Extern.next "fmt's door" = η := by decide
theorem A5{fr}(h:eZ fr cs w=eZ fr' cs' w'):fr=fr'∧cs=cs'∧w=w':=by have h1:=jM Machine.world h;have h2:=jM (λm=>(m.gs[0]?).map (λg=>(g.frame,g.callers))) h;simp[eZ]at h1 h2;exact⟨h2.1,h2.2,h1⟩
theorem WR{P}{fr'}{w'}(hm':fr'.mode=.returning):∀(n:Nat) (cs:List Frame) (fr:Frame) (w:υ),fr.defers=[]→(∀f∈cs,f.defers=[])→(∃ch,fr.mode=.panicking ch)→
  jN P n (eZ fr (cs++[dI P]) w)≠.next (eZ fr' [dI P] w')
 |0,cs,fr,w,_,_,⟨ch,hch⟩=>by intro h;simp only[jN,AQ]at h;obtain⟨rfl,_⟩:=A5 h;rw[hm']at hch;cases hch
 |n+1,cs,fr,w,hd,hds,⟨ch,hch⟩=>by
  intro h;simp only[jN]at h;by_cases hc:fr.catches P=ν
  .have : step P (eZ fr (cs ++ [dI P]) w) = .ended (.unsupported (.noEntry "a panic or Goexit out of a method that fmt calls behind a cut's door") (fr.pos P)) w :=
    r9 (by simp[bh,nH,hd,hch,hc])
   rw[this]at h;cases h
  ·(have dV:fr.catches P=false:=by simpa using hc);cases cs with
   |nil=>
    (have:step P (eZ fr ([]++[dI P]) w)=.next (eZ ((dI P).raise ch) [] w):=AJ (by simp[bh,nH,hd,hch,dV]));rw[this]at h;obtain⟨r1,r2,r3⟩:=WQ P ch;cases n with
    |zero=>
     simp only[jN,AQ]at h;have:=(A5 h).2.1;cases this
    |succ n=>
     simp only[jN]at h
     have : step P (eZ ((dI P).raise ch) [] w) = .ended (.unsupported (.noEntry "a panic or Goexit out of a method that fmt calls behind a cut's door") (((dI P).raise ch).pos P)) w :=
      r9 (by simp[bh,nH,r1,r2,r3])
     rw[this]at h;cases h
   |cons c cs=>
    (have:step P (eZ fr ((c::cs)++[dI P]) w)=.next (eZ (c.raise ch) (cs++[dI P]) w):=AJ (by simp[bh,nH,hd,hch,dV]));rw[this]at h;have hcd:=hds c (by simp);refine WR hm' n cs (c.raise ch) w ?_ (λf hf=>hds f (by simp[hf])) ?_ h
    .unfold Frame.raise;split<;>exact hcd
    .unfold Frame.raise;split<;>exact⟨_,rfl⟩
theorem WS{fr}{fn}(hp:Plain fr)(hm:fr.mode=.returning)(hf:P.funcs[fr.fn]?=θ fn)n:jN P (n+1) (eZ fr [dI P] w)≠.next (eZ fr' [dI P] w'):=by
 intro h;simp only[jN]at h;cases hr:(results fn fr.tmps).run P w with
 |halt x w1=>
  have:∃o,step P (eZ fr [dI P] w)=.ended o w1:=by cases x<;>exact⟨_,r9 (by simp[bh,nH,hp.defers,hm,hf,hr];rfl)⟩
  obtain⟨o,ho⟩:=this;rw[ho]at h;cases h
 |ok v w1=>
  have:step P (eZ fr [dI P] w)=.next (eZ ((dI P).finish v) [] w1):=AJ (by simp[bh,nH,hp.defers,hm,hf,hr,doReturn,hp.kind])
  rw[this]at h;cases n with
  |zero=>
   simp only[jN,AQ]at h;have:=(A5 h).2.1;cases this
  |succ n=>
   simp only[jN]at h;have:∃o,step P (eZ ((dI P).finish v) [] w1)=.ended o w1:=⟨_,r9 (by simp[bh,iW,Frame.finish,dI,ah2];rfl)⟩;obtain⟨o,ho⟩:=this;rw[ho]at h;cases h
def no:cV:=⟨λ_=>False,λ_=>η⟩
def tp(s:υ)(τ:Nat→dM→Nat)(d:Nat):World:={s with tape:=τ,drawn:=d }
theorem q4 s(τ fK:Nat→dM→Nat)d d':tp (tp s τ d) fK d'=tp s fK d':=rfl
section
variable {S:Program}
theorem Sh.tp{ag}{s}(h:Sh ag s)(τ:Nat→dM→Nat)d:Sh ag (tp s τ d):=⟨h.nl,h.bad⟩
theorem fO.tp{ag}{fs}{s}(h:fO ag S fs s)(τ:Nat→dM→Nat)d:fO ag S fs (tp s τ d):=by
 cases fs with
 |nil=>trivial
 |cons f cs=>exact⟨h.1.imp id λh=>⟨h.known,h.plain,h.run,h.at_⟩,h.2⟩
theorem Sh.no(h:Sh ag s):Sh no s:=⟨h.nl,λ_ hb=>False.elim hb⟩
theorem FZ(F:Own S){f}(h:fO no S (f::cs) s)(hv:Sh no s):hO S.funcs.size S S no Eq (aF S (f::cs)) (aF S (f::cs)) s:=by
 obtain⟨fn,hf⟩:=h.known;have hz:=(ξ.1 hf).1;obtain⟨h1,h2⟩:=JU F h hv (by simp[known,hz]) (Nat.ne_of_lt hz);refine⟨h1,λfs s' hr=>?_⟩;obtain⟨k,v,hd⟩:=h2 fs s' hr;rcases hd with⟨g,x,hg,rfl⟩|hw
 .obtain⟨fn,hf⟩:=(yV F h hv hr).known;have hl:=(ξ.1 hf).1;exact absurd hl (NP hg)
 .refine⟨k,v,⟨_,rfl⟩,λw es hwr hag=>?_⟩;obtain⟨b,w',u,r,q,g⟩:=hw w es hwr hag;rcases q with⟨rfl,_⟩|⟨x,rfl,rfl⟩
  .exact⟨_,w',u,r,rfl,g⟩
  .exact⟨_,w',u,r,rfl,g⟩
theorem WT(h:Sh no s)(τ:Nat→dM→Nat)d:di no s (tp s τ d):=by
 refine⟨rfl,λb _=>?_,λb hb=>False.elim hb,λb o v _ _ _ hv=>by cases hv⟩;show eW s.heap[b]? s.heap[b]?;cases hb:s.heap[b]? with
 |none=>exact .inl ⟨rfl,by simp⟩
 |some o=>
  exact .inl ⟨rfl,λp hp=>by
   (cases hp);exact⟨λl e=>h.nl.1 b l (by rw[hb,e]),λc t e=>h.nl.2 b c t (by rw[hb,e])⟩⟩
theorem hO.local{α:Type}{x:Sem α}(h:∀τ d,hO av S S no Eq x x (tp s τ d))(hs:Sh no s){a:α}(hr:x.run S s=.ok a s'):s.drawn≤s'.drawn∧s'.tape=s.tape∧∀τ d,(∀i q,i<s'.drawn-s.drawn→τ (d+i) q=s.tape (s.drawn+i) q)→x.run S (tp s τ d)=.ok a (tp s' τ (d+(s'.drawn-s.drawn))):=by
 obtain⟨k,v,_,hw⟩:=(h s.tape s.drawn).2 a s' hr;refine⟨k.dr,k.tape,λτ d hag=>?_⟩;obtain⟨b,w',u,r,e,g⟩:=hw (tp s τ d) #[] (WT hs τ d) λi q _ hi=>hag i q hi;subst e;rw[AP]at r;have r1:=jM Prod.fst r;simp only at r1;rw[r1];congr 1;obtain⟨_,v',_⟩:=(h τ d).2 a w' r1;have hh:w'.heap=s'.heap:=by
  apply Jo;intro b;rcases g.wr.same b (λh=>h)with⟨e,_⟩|⟨o,e1,e2,e3⟩
  .exact e.symm
  .rcases e3 with⟨l,rfl⟩|⟨c,t,rfl⟩
   .exact absurd e2 (v'.nl.1 _ _)
   .exact absurd e2 (v'.nl.2 _ _ _)
 have h1:=g.dr;have h2:=g.kept.tape;have h3:=g.kept.os;have h4:=g.kept.out;have bz:=k.os;have eB:=k.out;obtain⟨a1,a2,a3,a4,a5⟩:=w';obtain⟨b1,b2,b3,b4,b5⟩:=s';simp only[tp]at*;simp only[World.mk.injEq];exact⟨hh,h2,h1,h3.trans bz.symm,h4.trans eB.symm⟩
theorem aG.local{α:Type}{x:Sem α}(h:aG av S S no Eq x x)(hs:Sh no s){a:α}(hr:x.run S s=.ok a s'):s.drawn≤s'.drawn∧s'.tape=s.tape∧∀τ d,(∀i q,i<s'.drawn-s.drawn→τ (d+i) q=s.tape (s.drawn+i) q)→x.run S (tp s τ d)=.ok a (tp s' τ (d+(s'.drawn-s.drawn))):=hO.local (λτ d=>h _ (hs.tp τ d)) hs hr
def ah3:kD→Bool
 | .code (.rangeFunc ..) | .code (.goto ..)=>ο
 | .code _ | .inBlock _ | .inLoop _ | .inScope _ | .inRegion _ _=>ν
 |_=>ο
theorem ah4(F:Own S){fr}(h:fO no S (fr::cs) s)(hs:Sh no s):(∀it k,fr.todo=it::k→ah3 it=ν)∧∀ops i l k o,fr.todo=.inRegion ops (i::l)::k→ops[i]?=θ o→∀x s1,(aL fr.eval o).run S s=.ok x s1→Good S x:=by
 rcases h.1 with hf|hf
 .have h10:=hf.items;refine⟨λit k e=>?_,λops i l k o e ho x s1 hr=>?_⟩
  .rw[e]at h10;simp only[List.all_cons,Bool.and_eq_true]at h10;have hi:=h10.1;cases it with
   |code c=>cases c<;>first|rfl|(simp[jz,codeOk]at hi)
   |_=>first|rfl|(simp[jz]at hi)
  .rw[e]at h10;simp only[List.all_cons,Bool.and_eq_true]at h10;have PE:=Fs.1 h10.1 o (Ft ho);obtain⟨_,_,⟨g,y,rfl,_,hg⟩|⟨⟨_,_,hg⟩,_⟩⟩:=(WH (av:=0) (ag:=no) F PE fr.eval s hs).2 _ _ hr
   .exact hg
   .exact hg
 .obtain⟨C,n,K,hn,ht,_⟩:=hf.at_;rw[ht];refine⟨λit k e=>?_,λops i l k o e ho x s1 hr=>?_⟩
  .match n with
   |0|1|2|3|4|5|6|7|8|9|10|11|12|13|14|15|16|17=>cases e;rfl
   |n+18=>cases e;rfl
  .rcases(ahW K e ho hr).2 with⟨v,rfl⟩|rfl<;>trivial
theorem WU(F:Own S){fr}(h:fO no S (fr::cs) s)(hs:Sh no s):(∃fr' cs' s',(aF S (fr::cs)).run S s=.ok (fr'::cs') s'∧step S (eZ fr (cs++[dI S]) s)=.next (eZ fr' (cs' ++[dI S]) s'))∨
  (cs=[]∧fr.mode=.returning)∨(∃o w',step S (eZ fr (cs++[dI S]) s)=.ended o w')∨
  (∃fr' s',step S (eZ fr (cs++[dI S]) s)=.next (eZ fr' (cs++[dI S]) s')∧(∃ch,fr'.mode=.panicking ch)∧fr'.defers=[]∧∃v,(aF S (fr::cs)).run S s=.halt (.panic v) s'):=by
 obtain⟨t1,t2⟩:=ah4 F h hs;have h0:=(FZ F h hs).1;obtain⟨fn,e1⟩:=h.known;have hpl:=h.plain;have hcm:=h.calm;cases hg:(aF S (fr::cs)).run S s with
 |ok fs s' =>
  have hT:(aF S (fr::cs)).runT S s #[]=(.ok fs s',Sem.events S (aF S (fr::cs)) s #[]):=by rw[AP,hg]
  obtain⟨fr',cs',rfl,hst⟩:=JK hpl hT ν [dI S] ⟨fn,e1⟩;exact .inl ⟨fr',cs',s',rfl,AJ (by simp only[gY]at hst;rw[hst];rfl)⟩
 |halt hl s' =>
  have hh:=h0 _ _ hg;refine .inr ?_;obtain⟨jy,tmps,todo,defers,mode,kind,roundOf⟩:=fr;obtain⟨p1,p2,p3⟩:=hpl;simp only at p1 p2 p3 hcm e1 t1;subst p1 p2 p3;rcases hcm with rfl|rfl
  .refine .inr ?_;cases todo with
   |nil=>cases hg
   |cons it k=>
    have hi:=t1 it k rfl;cases it with
    |inBlock id=>cases hg
    |inScope b=>cases hg
    |inLoop b=>cases hg
    |inRegion ops l=>
     cases l with
     |nil=>cases hg
     |cons i l=>
      cases ho:ops[i]? with
      |none=>
       unfold aF at hg;simp only[ho]at hg;cases hg
      |some o=>
       unfold aF at hg;simp only[ho]at hg;split at hg
       .rename_i hwn;have good:=t2 ops i l k o rfl ho;generalize hfr:({fn:=jy,tmps:=tmps,todo:=.inRegion ops (i::l)::k,defers:=[],mode:=.run,kind:=.normal,roundOf:=η }:Frame)=fr at hg good ⊢;have hst:bh S ν {frame:=fr,callers:=cs++[dI S],status:=.running,dying:=η } s=C4 S ν fr (cs++[dI S]) η (aL fr.eval o) s:=by subst hfr;simp[bh,iW,stepG.oper,Frame.oper?,ho,hwn]
        (have w5:fr.defers=[]∧fr.mode=.run:=by subst hfr;exact⟨rfl,rfl⟩);have hg':((aL fr.eval o).bind λx=>jQ S fr cs x).run S s=.halt hl s':=hg;rw[fq]at hg';cases r1:(aL fr.eval o).run S s with
        |halt hx PF=>
         rw[r1]at hg';(cases hg');cases hl with
         |panic v=>
          refine .inr ⟨fr.raise [{v,recovered:=ο }],_,AJ (by rw[hst];simp[C4,r1]),?_,?_,v,rfl⟩
          .unfold Frame.raise;rw[w5.2];exact⟨_,rfl⟩
          .unfold Frame.raise;rw[w5.2];exact w5.1
         |stuck y=>exact .inl ⟨_,s',r9 (by rw[hst];simp[C4,r1];rfl)⟩
         |unsupported y=>
          cases y with
          |initOrder g=>exact hh.elim
          |_=>exact .inl ⟨_,s',r9 (by rw[hst];simp[C4,r1];rfl)⟩
         |_=>exact hh.elim
        |ok x PF=>
         rw[r1]at hg';have good:=good x PF r1;cases x<;>first|exact good.elim|cases hg'
       .cases hg
    |code c=>
     cases c with
     |cond c a b=>
      unfold aF at hg;simp only at hg;split at hg
      .cases hg
      ·(rename_i hnb;have key:∃o,(bh S ν {frame:={fn:=jy,tmps:=tmps,todo:=.code (.cond c a b)::k,defers:=[],mode:=.run,kind:=.normal,roundOf:=η },callers:=cs++[dI S],status:=.running,dying:=η } s).bare=.ended o s:=by simp only[bh,iW];exact⟨_,rfl⟩);obtain⟨o,vp⟩:=key;exact .inl ⟨o,s,r9 vp⟩
     |exit id=>
      unfold aF at hg;simp only at hg;split at hg
      .cases hg
      .rename_i hnb;exact .inl ⟨_,s,r9 (by simp[bh,iW,hnb];rfl)⟩
     |region id ops draw=>
      cases draw with
      |false=>cases hg
      |true=>
       have hg':(C3 (.order jy id) λt=>o4 (({fn:=jy,tmps:=tmps,todo:=.inRegion ops (kY (S.follows .mixedOrders) ops t)::k,defers:=[],mode:=.run,kind:=.normal,roundOf:=η }:Frame)::cs)).run S s=.halt hl s':=hg;simp[jw,yK]at hg'
     |rangeFunc=>cases hi
     |goto=>cases hi
     |refuse why=>exact .inl ⟨_,s,r9 (by simp[bh,iW];rfl)⟩
     |_=>cases hg
    |_=>cases hi
  .cases cs with
   |nil=>exact .inl ⟨rfl,rfl⟩
   |cons c cs=>
    refine .inr (.inl ?_);unfold aF at hg;simp only[e1]at hg;have hg':((results fn tmps).bind λv=>o4 (c.finish v::cs)).run S s=.halt hl s':=hg;rw[fq]at hg';cases hr:(results fn tmps).run S s with
    |ok v s1=>rw[hr]at hg';cases hg'
    |halt x s1=>cases x<;>exact⟨_,s1,r9 (by simp[bh,nH,e1,hr];rfl)⟩
theorem fO.defers{fr}(h:fO ag S (fr::l) s):∀f∈l,f.defers=[]:=λf hf=>(h.2 f hf).plain.defers
def eC(S:Program):Nat→List Frame→υ→Option (List Frame×υ)
 |0,fs,s=>θ (fs,s)
 |n+1,fs,s=>match(aF S fs).run S s with
  | .ok aV s1=>eC S n aV s1
  | .halt _ _=>η
def w6(S:Program)(fs:List Frame)(s:υ)(fs':List Frame)(s':υ):Prop:=∃n,eC S n fs s=θ (fs',s')
theorem w6.refl S fs s:w6 S fs s fs s:=⟨0,rfl⟩
theorem w6.head{S}(h:(aF S fs).run S s=.ok aV s1)(h':w6 S aV s1 vo s2):w6 S fs s vo s2:=by obtain⟨n,hn⟩:=h';exact⟨n+1,by simp only[eC,h];exact hn⟩
theorem JV(F:Own S){fr'}{s'}(hm':fr'.mode=.returning):∀(n:Nat) (fr:Frame) (cs:List Frame) (s:υ),
  fO no S (fr::cs) s→Sh no s→jN S n (eZ fr (cs++[dI S]) s)=.next (eZ fr' [dI S] s')→w6 S (fr::cs) s [fr'] s'
 |0,fr,cs,s,h,hs,hr=>by
  simp only[jN,AQ]at hr;obtain⟨rfl,h2,rfl⟩:=A5 hr;have:cs=[]:=by
   cases cs with
   |nil=>rfl
   |cons c cs=>have:=jM List.length h2;simp at this
  subst this;exact .refl _ _ _
 |n+1,fr,cs,s,h,hs,hr=>by
  have tQ:=hr;simp only[jN]at hr;rcases WU F h hs with⟨A6,w8,s1,g1,g2⟩|⟨rfl,hm⟩|⟨o,w1,g⟩|⟨A6,s1,g1,g2,g3,_⟩
  .rw[g2]at hr;exact .head g1 (JV F hm' n A6 w8 s1 (yV F h hs g1) ((FZ F h hs).2 _ _ g1).2.1 hr)
  .obtain⟨fn,e1⟩:=h.known;exact absurd tQ (WS h.plain hm e1 n)
  .rw[g]at hr;cases hr
  .rw[g1]at hr;exact absurd hr (WR hm' n cs A6 s1 g3 h.defers g2)
end
variable{x:Array ay}{aV fs:List Frame}{d:Nat}{τ:Nat->dM->Nat}{s s1:υ}
structure nL(S:Program)(E:List Frame->υ->Prop):Prop where
 stuck:∀fs s,E fs s->∀τ d,¬∃aV s1,(aF S fs).run S (tp s τ d)=.ok aV s1
 tp:∀fs s τ d,E fs s->E fs (tp s τ d)
inductive jc (S:Program) (E:List Frame->υ->Prop):List Frame->υ->Prop
 |stop {fs:List Frame}{s:υ}:E fs s->jc S E fs s
 |step {fs:List Frame}{s:υ}:(∀τ d,∃aV s1,(aF S fs).run S (tp s τ d)=.ok aV s1)->(∀τ d aV s1,(aF S fs).run S (tp s τ d)=.ok aV s1->jc S E aV s1)->jc S E fs s
structure WF(S:Program)(fs:List Frame)(s:υ):Prop where
 all:fO no S fs s
 sh:Sh no s
section
variable {S:Program}{E:List Frame->υ->Prop}
theorem WF.tp{fs}{s}(h:WF S fs s)τ d:WF S fs (tp s τ d):=⟨h.all.tp τ d,h.sh.tp τ d⟩
theorem PG s:∀fs s',(aF S []).run S s≠.ok fs s':=by intro fs s' h;cases h
theorem WF.local(F:Own S)(h:WF S fs s)(hr:(aF S fs).run S s=.ok aV s1):WF S aV s1/\s.drawn<=s1.drawn/\s1.tape=s.tape/\∀τ d,(∀i q,i<s1.drawn-s.drawn->τ (d+i) q=s.tape (s.drawn+i) q)->(aF S fs).run S (Lo.tp s τ d)=.ok aV (Lo.tp s1 τ (d+(s1.drawn-s.drawn))):=by
 cases fs with
 |nil=>exact absurd hr (PG _ _ _)
 |cons f cs=>
  exact⟨⟨yV F h.all h.sh hr,((FZ F h.all h.sh).2 _ _ hr).2.1⟩,hO.local (λτ d=>FZ F (h.all.tp τ d) (h.sh.tp τ d)) h.sh hr⟩
theorem A7(F:Own S):∀(n:Nat) (fs fs':List Frame) (s s':υ),WF S fs s->eC S n fs s=θ (fs',s') ->
  WF S fs' s'/\s.drawn<=s'.drawn/\s'.tape=s.tape/\∀τ d,(∀i q,i<s'.drawn-s.drawn->τ (d+i) q=s.tape (s.drawn+i) q)->eC S n fs (tp s τ d)=θ (fs',tp s' τ (d+(s'.drawn-s.drawn)))
 |0,fs,fs',s,s',hw,h=>by simp only[eC,Γ,l8]at h;obtain⟨rfl,rfl⟩:=h;exact⟨hw,Nat.le_refl _,rfl,λτ d _=>by simp[eC]⟩
 |n+1,fs,fs',s,s',hwf,h=>by
  simp only[eC]at h;cases hr:(aF S fs).run S s with
  |halt x y=>rw[hr]at h;cases h
  |ok aV s1=>
   (rw[hr]at h;simp only at h;obtain⟨w1,a1,a2,a3⟩:=hwf.local F hr;obtain⟨w2,b1,b2,b3⟩:=A7 F n aV fs' s1 s' w1 h;refine⟨w2,by omega,b2.trans a2,λτ d hag=>?_⟩;have e1:=a3 τ d λi q hi=>hag i q (by omega);simp only[eC,e1];have e2:=b3 τ (d+(s1.drawn-s.drawn)) λi q hi=>by have:=hag (s1.drawn-s.drawn+i) q (by omega);rw[<-Nat.add_assoc]at this;rw[this,a2,show s.drawn+(s1.drawn-s.drawn+i)=s1.drawn+i by omega]);rw[e2,show d+(s1.drawn-s.drawn)+(s'.drawn-s1.drawn)=d+(s'.drawn-s.drawn)by omega]
def AllEnd(S:Program)(E:List Frame->υ->Prop)(fs:List Frame)(s:υ):Prop:=∀τ d,∃fs' s',w6 S fs (tp s τ d) fs' s'/\E fs' s'
theorem AllEnd.step(F:Own S)(hP:nL S E){fs aV}{s s1}(hwf:WF S fs s)(h:AllEnd S E fs s){τ}{d}(hr:(aF S fs).run S (tp s τ d)=.ok aV s1):AllEnd S E aV s1:=by
 intro fK d';obtain⟨w1,a1,a2,a3⟩:=(hwf.tp τ d).local F hr;obtain⟨n,hn⟩:∃n,n=s1.drawn-d:=⟨_,rfl⟩;obtain⟨fs',s',⟨m,hm⟩,fJ⟩:=h (λx q=>if x<d+n then τ x q else fK (d'+(x-(d+n))) q) d;have e1:=a3 (λx q=>if x<d+n then τ x q else fK (d'+(x-(d+n))) q) d λi q hi=>by simp only[Lo.tp]at hi ⊢;rw[χ (by omega)]
 rw[q4]at e1;have e0:s1.drawn-(Lo.tp s τ d).drawn=n:=by rw[hn];rfl
 rw[e0]at e1;cases m with
 |zero=>
  simp only[eC,Γ,l8]at hm;obtain⟨rfl,rfl⟩:=hm;exact absurd ⟨_,_,e1⟩ (hP.stuck _ _ fJ _ _)
 |succ m=>
  simp only[eC,e1]at hm;obtain⟨_,_,_,b3⟩:=A7 F m aV fs' _ s' (w1.tp _ _) hm;have:=b3 fK d' λi q hi=>by simp only[Lo.tp];rw[ς (by omega),show d+n+i-(d+n)=i by omega]
  rw[q4]at this;exact⟨fs',_,⟨m,this⟩,hP.tp _ _ _ _ fJ⟩
theorem ah5(F:Own S)(hP:nL S E)(hwf:WF S fs s)(h:AllEnd S E fs s)(hb:¬jc S E fs s):∃τ d aV s1,(aF S fs).run S (tp s τ d)=.ok aV s1/\WF S aV s1/\AllEnd S E aV s1/\¬jc S E aV s1:=by
 apply wM;intro hno;apply hb;refine .step (λτ d=>?_) (λτ d aV s1 hr=>?_)
 .obtain⟨fs',s',⟨m,hm⟩,fJ⟩:=h τ d;cases m with
  |zero=>
   simp only[eC,Γ,l8]at hm;obtain⟨rfl,rfl⟩:=hm;have:=hP.tp fs (tp s τ d) s.tape s.drawn fJ;exact absurd (.stop this) hb
  |succ m=>
   simp only[eC]at hm;cases hr:(aF S fs).run S (tp s τ d)with
   |halt x y=>rw[hr]at hm;cases hm
   |ok aV s1=>exact⟨aV,s1,rfl⟩
 .apply wM;intro hnb;exact hno ⟨τ,d,aV,s1,hr,((hwf.tp τ d).local F hr).1,h.step F hP hwf hr,hnb⟩
structure Way(S:Program)(E:List Frame->υ->Prop) where
 fs:List Frame
 s:υ
 wf:WF S fs s
 all:AllEnd S E fs s
 bad:¬jc S E fs s
theorem ah6(F:Own S)(hP:nL S E)(hwf:WF S fs s)(h:AllEnd S E fs s):jc S E fs s:=by
 apply wM;intro hb;have hU:∀x:Way S E,∃(y:Way S E) (τ:Nat->dM->Nat) (d:Nat),(aF S x.fs).run S (tp x.s τ d)=.ok y.fs y.s:=λx=>
  let ⟨τ,d,aV,s1,h1,h2,h3,h4⟩:=ah5 F hP x.wf x.all x.bad
  ⟨⟨aV,s1,h2,h3,h4⟩,τ,d,h1⟩
 let A8:Way S E->Way S E:=λx=>mP (hU x);let vq:Way S E->(Nat->dM->Nat):=λx=>mP (l5 (hU x));let nd:Way S E->Nat:=λx=>mP (l5 (l5 (hU x)));have w9:∀x,(aF S x.fs).run S (tp x.s (vq x) (nd x))=.ok (A8 x).fs (A8 x).s:=λx=>l5 (l5 (l5 (hU x)));let X:Nat->Way S E:=λk=>Nat.rec ⟨fs,s,hwf,h,hb⟩ (λ_ x=>A8 x) k;let cn:Nat->Nat:=λk=>(X (k+1)).s.drawn-nd (X k);let D:Nat->Nat:=λk=>Nat.rec 0 (λk d=>d+cn k) k;have hD:∀k,D (k+1)=D k+cn k:=λk=>rfl;have F0:∀j k,j<=k->D j<=D k:=by
  intro j k hjk;induction hjk with
  |refl=>exact Nat.le_refl _
  |step _ ih=>rw[hD];omega
 have tape:∃τ:Nat->dM->Nat,∀k i q,i<cn k->τ (D k+i) q=vq (X k) (nd (X k)+i) q:=by
  refine⟨λx q=>open Classical in if hx:∃k,D k<=x/\x<D (k+1)then vq (X (mP hx)) (nd (X (mP hx))+(x-D (mP hx))) q else 0,λk i q hi=>?_⟩;have hx:∃j,D j<=D k+i/\D k+i<D (j+1):=⟨k,by omega,by rw[hD];omega⟩;simp only;rw[dif_pos hx];have hc:=l5 hx;have e:mP hx=k:=by
   generalize mP hx=j at hc;rcases Nat.lt_trichotomy j k with hlt|rfl|hgt
   .have:=F0 (j+1) k hlt;omega
   .rfl
   .have:=F0 (k+1) j hgt;rw[hD]at this;omega
  rw[e,show D k+i-D k=i by omega]
 obtain⟨τ,PI⟩:=tape;have hstep:∀k,(aF S (X k).fs).run S (tp (X k).s τ (D k))=.ok (X (k+1)).fs (tp (X (k+1)).s τ (D (k+1))):=by intro k;obtain⟨_,a1,a2,a3⟩:=((X k).wf.tp (vq (X k)) (nd (X k))).local F (w9 (X k));have:=a3 τ (D k) λi q hi=>PI k i q hi;rw[q4]at this;exact this
 have PK:∀k j,eC S k (X j).fs (tp (X j).s τ (D j))=θ ((X (j+k)).fs,tp (X (j+k)).s τ (D (j+k))):=by
  intro k;induction k with
  |zero=>intro j;rfl
  |succ k ih=>
   intro j;simp only[eC,hstep j];rw[ih (j+1),show j+1+k=j+(k+1)by omega]
 obtain⟨fs',s',⟨m,hm⟩,fJ⟩:=h τ 0;have:=PK m 0;rw[show tp (X 0).s τ (D 0)=tp s τ 0 from rfl,show (X 0).fs=fs from rfl,hm]at this;simp only[Γ,l8]at this;obtain⟨e1,e2⟩:=this;subst e1;have:=hstep (0+m);exact hP.stuck _ _ fJ τ (D (0+m)) ⟨_,_,by rw[show tp s' τ (D (0+m))=tp (X (0+m)).s τ (D (0+m))by rw[e2];rfl];exact this⟩
def o6(S:Program)(Q:ay->Array Obj->Prop)(fs:List Frame)(s:υ):Prop:=
 ∃fr,fs=[fr]/\fr.mode=.returning/\∃fn v,S.funcs[fr.fn]?=θ fn/\(∀τ d,(results fn fr.tmps).run S (tp s τ d)=.ok v (tp s τ d))/\Q v s.heap
theorem sx S Q:nL S (o6 S Q):=by
 refine⟨?_,?_⟩
 .rintro fs s ⟨fr,rfl,hm,fn,v,hf,_⟩ τ d ⟨aV,s1,h⟩;unfold aF at h;simp only[hm,hf]at h;cases h
 .rintro fs s τ d ⟨fr,rfl,hm,fn,v,hf,hr,hv⟩;exact⟨fr,rfl,hm,fn,v,hf,λfK d'=>hr fK d',hv⟩
theorem ah7(F:Own S){Q}{f}(hwf:WF S [Frame.enter S f x .normal] s)(hC:∀τ d,Calls S f x (tp s τ d) λe w'=>∃v,e=.returned v/\Q v w'.heap):jc S (o6 S Q) [Frame.enter S f x .normal] s:=by refine ah6 F (sx S Q) hwf λτ d=>?_;obtain⟨e,w',fr,⟨v,rfl,hv⟩,⟨n,hn⟩,hfn,hm,hd,hk,fn,hfs,hres⟩:=hC τ d [dI S];have hg:=JV F hm n _ [] (tp s τ d) (hwf.tp τ d).all (hwf.tp τ d).sh hn;obtain⟨m,hm'⟩:=hg;have hw':=(A7 F m _ _ _ _ (hwf.tp τ d) hm').1;refine⟨[fr],w',⟨m,hm'⟩,fr,rfl,hm,fn,v,hfs,λfK d'=>?_,hv⟩;obtain⟨_,_,h3⟩:=(FY (av:=0) (ag:=no) F.sm fn fr.tmps).local hw'.sh hres;have:=h3 fK d' (λi q hi=>by omega);rwa[Nat.sub_self,Nat.add_zero]at this
theorem jc.next(hE:nL S E)(h:jc S E fs s)(hr:(aF S fs).run S (tp s τ d)=.ok aV s1):jc S E aV s1:=by
 cases h with
 |stop he=>exact absurd ⟨_,_,hr⟩ (hE.stuck _ _ he _ _)
 |step _ h2=>exact h2 _ _ _ _ hr
end
variable{x:Array ay}{aV cs fs l:List Frame}{s s1 w w':υ}
theorem Dk(f:Frame)v:(f.finish v).fn=f.fn:=by obtain⟨jy,tmps,todo,defers,mode,kind,roundOf⟩:=f;unfold Frame.finish;split<;>rfl
theorem PL{S}{f}(h:(aF S (f::cs)).run S w=.ok l w'):(∀fr∈l,∃f0∈f::cs,fr.fn=f0.fn)∨∃g x,l=Frame.enter S g x .normal::f::cs:=by
 have bad:∀{why:String},(oz why:Sem (List Frame)).run S w=.ok l w'→False:=by intro why hc;simp[oz]at hc
 have low:∀c∈cs,∃f0∈f::cs,c.fn=f0.fn:=λc hc=>⟨c,List.mem_cons_of_mem _ hc,rfl⟩;have kp:∀f',f'.fn=f.fn→l=f'::cs→∀fr∈l,∃f0∈f::cs,fr.fn=f0.fn:=by
  rintro f' he rfl fr hfr;rcases List.mem_cons.1 hfr with rfl|hfr
  .exact⟨f,List.mem_cons_self,he⟩
  .exact low fr hfr
 have ctl:∀f',f'.fn=f.fn→(Jz (f'::cs):Sem (List Frame)).run S w=.ok l w'→(∀fr∈l,∃f0∈f::cs,fr.fn=f0.fn)∨∃g x,l=Frame.enter S g x .normal::f::cs:=by intro f' he hc;have dV:qX (f'::cs) w=.ok l w':=hc;simp only[l7]at dV;exact .inl (kp f' he dV.1.symm)
 unfold aF at h;simp only at h;split at h
 .exact(bad h).elim
 .cases cs with
  |nil=>
   split at h
   .rename_i hx;cases hx
   .exact(bad h).elim
  |cons c cs=>
   cases hfn:S.funcs[f.fn]? with
   |none=>rw[hfn]at h;exact(bad h).elim
   |some fn=>
    rw[hfn]at h;have h':((results fn f.tmps).bind λv=>o4 (c.finish v::cs)).run S w=.ok l w':=h;rw[fq]at h';cases hr:(results fn f.tmps).run S w with
    |halt x w1=>rw[hr]at h';cases h'
    |ok v w1=>
     rw[hr]at h';have h2:qX (c.finish v::cs) w1=.ok l w':=h';simp only[l7]at h2;obtain⟨rfl,_⟩:=h2;refine .inl λfr hfr=>?_;rcases List.mem_cons.1 hfr with rfl|hfr
     .exact⟨c,by simp,Dk c v⟩
     .exact⟨fr,by simp[hfr],rfl⟩
 .split at h
  .exact ctl _ (by rfl) h
  .exact ctl _ (by rfl) h
  .exact ctl _ (by rfl) h
  .exact ctl _ (by rfl) h
  .exact ctl _ (by rfl) h
  .exact ctl _ (by rfl) h
  .exact ctl _ (by rfl) h
  .split at h
   .exact ctl _ (by rfl) h
   .exact(bad h).elim
  .exact ctl _ (by rfl) h
  .exact ctl _ (by rfl) h
  .exact ctl _ (by rfl) h
  .exact ctl _ (by rfl) h
  .split at h
   .exact ctl _ (by rfl) h
   .exact(bad h).elim
  .split at h
   .exact ctl _ (by rfl) h
   .rename_i id ops draw k _ _;have h':(C3 (.order f.fn id) λt=>o4 ({f with todo:=.inRegion ops (kY (S.follows .mixedOrders) ops t)::k }::cs)).run S w=.ok l w':=h;simp only[jw,yK,AO,Bool.false_eq_true,fh,l7]at h';exact .inl (kp _ (by rfl) h'.1.symm)
  .exact ctl _ (by rfl) h
  .split at h
   .rename_i o _;split at h
    .have h':((aL f.eval o).bind λx=>jQ S f cs x).run S w=.ok l w':=h;rw[fq]at h';cases hr:(aL f.eval o).run S w with
     |halt x w1=>rw[hr]at h';cases h'
     |ok x w1=>
      rw[hr]at h';cases x with
      |value v=>
       have h2:qX (f.finish v::cs) w1=.ok l w':=h';simp only[l7]at h2;exact .inl (kp _ (Dk f v) h2.1.symm)
      |skip=>
       have h2:qX (f.finish undef::cs) w1=.ok l w':=h';simp only[l7]at h2;exact .inl (kp _ (Dk f _) h2.1.symm)
      |enter g x=>
       have h2:qX (Frame.enter S g x .normal::f::cs) w1=.ok l w':=h';simp only[l7]at h2;exact .inr ⟨g,x,h2.1.symm⟩
      |_=>simp[jQ,oz,jw]at h'
    .exact ctl _ (Dk f _) h
   .exact ctl _ (Dk f _) h
  .exact(bad h).elim
inductive sA (S:Program) (ep:List Frame) (s0:υ):List Frame→υ→Prop
 |refl:sA S ep s0 ep s0
 |step {fs aV:List Frame}{s s1:υ}{τ:Nat→dM→Nat}{d:Nat}:sA S ep s0 fs s→(aF S fs).run S (tp s τ d)=.ok aV s1→sA S ep s0 aV s1
section
variable {S:Program}{E:List Frame→υ→Prop}
theorem sA.bar(hE:nL S E)(h:jc S E fs s)(hr:sA S fs s aV s1):jc S E aV s1:=by
 induction hr with
 |refl=>exact h
 |step _ h1 ih=>exact ih.next hE h1
theorem ah8{f}{fn}{Q:ay→Array Obj→Prop}(hf:S.funcs[f]?=θ fn)(hb:∃why,fn.body=θ (.refuse why))(h:jc S (o6 S Q) (Frame.enter S f x .normal::cs) s):False:=by
 obtain⟨why,hb⟩:=hb;cases h with
 |stop he=>
  obtain⟨fr,e,hm,_⟩:=he;cases e
  simp[Frame.enter]at hm
 |step h1 _=>
  obtain⟨aV,s1,hr⟩:=h1 s.tape s.drawn
  have : aF S (Frame.enter S f x .normal :: cs) = oz "not here" := by simp [aF,Frame.enter,hf,hb]
  rw[this]at hr;simp[oz]at hr
end
theorem WV{P}{fr'}{w'}:∀(n:Nat) (cs:List Frame) (fr:Frame) (w:υ),fr.defers=[]→(∀f∈cs,f.defers=[])→(∃ch,fr.mode=.panicking ch)→
  jN P n (eZ fr (cs++[dI P]) w)=.next (eZ fr' [dI P] w')→w'=w
 |0,cs,fr,w,_,_,_,h=>by simp only[jN,AQ]at h;exact(A5 h).2.2.symm
 |n+1,cs,fr,w,hd,hds,⟨ch,hch⟩,h=>by
  simp only[jN]at h;by_cases hc:fr.catches P=ν
  .have : step P (eZ fr (cs ++ [dI P]) w) = .ended (.unsupported (.noEntry "a panic or Goexit out of a method that fmt calls behind a cut's door") (fr.pos P)) w :=
    r9 (by simp[bh,nH,hd,hch,hc])
   rw[this]at h;cases h
  ·(have dV:fr.catches P=false:=by simpa using hc);cases cs with
   |nil=>
    (have:step P (eZ fr ([]++[dI P]) w)=.next (eZ ((dI P).raise ch) [] w):=AJ (by simp[bh,nH,hd,hch,dV]));rw[this]at h;obtain⟨r1,r2,r3⟩:=WQ P ch;cases n with
    |zero=>
     simp only[jN,AQ]at h;have:=(A5 h).2.1;cases this
    |succ n=>
     simp only[jN]at h
     have : step P (eZ ((dI P).raise ch) [] w) = .ended (.unsupported (.noEntry "a panic or Goexit out of a method that fmt calls behind a cut's door") (((dI P).raise ch).pos P)) w :=
      r9 (by simp[bh,nH,r1,r2,r3])
     rw[this]at h;cases h
   |cons c cs=>
    (have:step P (eZ fr ((c::cs)++[dI P]) w)=.next (eZ (c.raise ch) (cs++[dI P]) w):=AJ (by simp[bh,nH,hd,hch,dV]));rw[this]at h;have hcd:=hds c (by simp);refine WV n cs (c.raise ch) w ?_ (λf hf=>hds f (by simp[hf])) ?_ h
    .unfold Frame.raise;split<;>exact hcd
    .unfold Frame.raise;split<;>exact⟨_,rfl⟩
section
variable {S:Program}
theorem WW(F:Own S){fr'}{s'}{ch}(hm':fr'.mode=.panicking ch):∀(n:Nat) (fr:Frame) (cs:List Frame) (s:υ),
  fO no S (fr::cs) s→Sh no s→jN S n (eZ fr (cs++[dI S]) s)=.next (eZ fr' [dI S] s')→∃aV s1 v,w6 S (fr::cs) s aV s1∧(aF S aV).run S s1=.halt (.panic v) s'
 |0,fr,cs,s,h,hs,hr=>by simp only[jN,AQ]at hr;obtain⟨rfl,_,_⟩:=A5 hr;have:=h.calm;rw[hm']at this;rcases this with h|h<;>cases h
 |n+1,fr,cs,s,h,hs,hr=>by
  have tQ:=hr;simp only[jN]at hr;rcases WU F h hs with⟨A6,w8,s1,g1,g2⟩|⟨rfl,hm⟩|⟨o,w1,g⟩|⟨A6,s1,g1,g2,g3,v,g4⟩
  .rw[g2]at hr;obtain⟨aV,s2,v,k1,k2⟩:=WW F hm' n A6 w8 s1 (yV F h hs g1) ((FZ F h hs).2 _ _ g1).2.1 hr;exact⟨aV,s2,v,.head g1 k1,k2⟩
  .obtain⟨fn,e1⟩:=h.known;exact absurd tQ (WS h.plain hm e1 n)
  .rw[g]at hr;cases hr
  .rw[g1]at hr;have:=WV n cs A6 s1 g3 h.defers g2 hr;subst this;exact⟨fr::cs,s,v,.refl _ _ _,g4⟩
end
variable{x:Array ay}{aV fs ep:List Frame}{d:Nat}{τ:Nat->dM->Nat}{s s0 s1:υ}
def eH(bG:dM->Bool)(τ:Nat->dM->Nat):Prop:=∀k q,bG q=ν->τ k q=0
inductive fu (S:Program) (bG:dM->Bool) (E:List Frame->υ->Prop):List Frame->υ->Prop
 |stop {fs:List Frame}{s:υ}:E fs s->fu S bG E fs s
 |step {fs:List Frame}{s:υ}:(∀τ d,eH bG τ->∃aV s1,(aF S fs).run S (tp s τ d)=.ok aV s1)->(∀τ d aV s1,eH bG τ->(aF S fs).run S (tp s τ d)=.ok aV s1->fu S bG E aV s1)->fu S bG E fs s
section
variable {S:Program}{bG:dM->Bool}{E:List Frame->υ->Prop}
def A9(S:Program)(bG:dM->Bool)(E:List Frame->υ->Prop)(fs:List Frame)(s:υ):Prop:=∀τ d,eH bG τ->∃fs' s',w6 S fs (tp s τ d) fs' s'/\E fs' s'
theorem A9.step(F:Own S)(hP:nL S E){fs aV}{s s1}(hwf:WF S fs s)(h:A9 S bG E fs s){τ}{d}(hz:eH bG τ)(hr:(aF S fs).run S (tp s τ d)=.ok aV s1):A9 S bG E aV s1:=by
 intro fK d' iZ;obtain⟨w1,a1,a2,a3⟩:=(hwf.tp τ d).local F hr;obtain⟨n,hn⟩:∃n,n=s1.drawn-d:=⟨_,rfl⟩;obtain⟨fs',s',⟨m,hm⟩,fJ⟩:=h (λx q=>if x<d+n then τ x q else fK (d'+(x-(d+n))) q) d (λx q hq=>by dsimp only;split<;>first|exact hz _ _ hq|exact iZ _ _ hq);have e1:=a3 (λx q=>if x<d+n then τ x q else fK (d'+(x-(d+n))) q) d λi q hi=>by simp only[Lo.tp]at hi ⊢;rw[χ (by omega)]
 rw[q4]at e1;have e0:s1.drawn-(Lo.tp s τ d).drawn=n:=by rw[hn];rfl
 rw[e0]at e1;cases m with
 |zero=>
  simp only[eC,Γ,l8]at hm;obtain⟨rfl,rfl⟩:=hm;exact absurd ⟨_,_,e1⟩ (hP.stuck _ _ fJ _ _)
 |succ m=>
  simp only[eC,e1]at hm;obtain⟨_,_,_,b3⟩:=A7 F m aV fs' _ s' (w1.tp _ _) hm;have:=b3 fK d' λi q hi=>by simp only[Lo.tp];rw[ς (by omega),show d+n+i-(d+n)=i by omega]
  rw[q4]at this;exact⟨fs',_,⟨m,this⟩,hP.tp _ _ _ _ fJ⟩
theorem ah9(F:Own S)(hP:nL S E)(hwf:WF S fs s)(h:A9 S bG E fs s)(hb:¬fu S bG E fs s):∃τ d aV s1,eH bG τ/\(aF S fs).run S (tp s τ d)=.ok aV s1/\WF S aV s1/\A9 S bG E aV s1/\¬fu S bG E aV s1:=by
 apply wM;intro hno;apply hb;refine .step (λτ d hz=>?_) (λτ d aV s1 hz hr=>?_)
 .obtain⟨fs',s',⟨m,hm⟩,fJ⟩:=h τ d hz;cases m with
  |zero=>
   simp only[eC,Γ,l8]at hm;obtain⟨rfl,rfl⟩:=hm;have:=hP.tp fs (tp s τ d) s.tape s.drawn fJ;exact absurd (.stop this) hb
  |succ m=>
   simp only[eC]at hm;cases hr:(aF S fs).run S (tp s τ d)with
   |halt x y=>rw[hr]at hm;cases hm
   |ok aV s1=>exact⟨aV,s1,rfl⟩
 .apply wM;intro hnb;exact hno ⟨τ,d,aV,s1,hz,hr,((hwf.tp τ d).local F hr).1,h.step F hP hwf hz hr,hnb⟩
structure Ba(S:Program)(bG:dM->Bool)(E:List Frame->υ->Prop) where
 fs:List Frame
 s:υ
 wf:WF S fs s
 all:A9 S bG E fs s
 bad:¬fu S bG E fs s
theorem aia(F:Own S)(hP:nL S E)(hwf:WF S fs s)(h:A9 S bG E fs s):fu S bG E fs s:=by
 apply wM;intro hb;have hU:∀x:Ba S bG E,∃(y:Ba S bG E) (τ:Nat->dM->Nat) (d:Nat),eH bG τ/\(aF S x.fs).run S (tp x.s τ d)=.ok y.fs y.s:=λx=>
  let ⟨τ,d,aV,s1,hz,h1,h2,h3,h4⟩:=ah9 F hP x.wf x.all x.bad
  ⟨⟨aV,s1,h2,h3,h4⟩,τ,d,hz,h1⟩
 let A8:Ba S bG E->Ba S bG E:=λx=>mP (hU x);let vq:Ba S bG E->(Nat->dM->Nat):=λx=>mP (l5 (hU x));let nd:Ba S bG E->Nat:=λx=>mP (l5 (l5 (hU x)));have w9:∀x,(aF S x.fs).run S (tp x.s (vq x) (nd x))=.ok (A8 x).fs (A8 x).s:=λx=>(l5 (l5 (l5 (hU x)))).2;have hnz:∀x,eH bG (vq x):=λx=>(l5 (l5 (l5 (hU x)))).1;let X:Nat->Ba S bG E:=λk=>Nat.rec ⟨fs,s,hwf,h,hb⟩ (λ_ x=>A8 x) k;let cn:Nat->Nat:=λk=>(X (k+1)).s.drawn-nd (X k);let D:Nat->Nat:=λk=>Nat.rec 0 (λk d=>d+cn k) k;have hD:∀k,D (k+1)=D k+cn k:=λk=>rfl;have F0:∀j k,j<=k->D j<=D k:=by
  intro j k hjk;induction hjk with
  |refl=>exact Nat.le_refl _
  |step _ ih=>rw[hD];omega
 have tape:∃τ:Nat->dM->Nat,eH bG τ/\∀k i q,i<cn k->τ (D k+i) q=vq (X k) (nd (X k)+i) q:=by
  refine⟨λx q=>open Classical in if hx:∃k,D k<=x/\x<D (k+1)then vq (X (mP hx)) (nd (X (mP hx))+(x-D (mP hx))) q else 0,λx q hq=>?_,λk i q hi=>?_⟩
  .dsimp only;split
   .exact hnz _ _ _ hq
   .rfl
  have hx:∃j,D j<=D k+i/\D k+i<D (j+1):=⟨k,by omega,by rw[hD];omega⟩;simp only;rw[dif_pos hx];have hc:=l5 hx;have e:mP hx=k:=by
   generalize mP hx=j at hc;rcases Nat.lt_trichotomy j k with hlt|rfl|hgt
   .have:=F0 (j+1) k hlt;omega
   .rfl
   .have:=F0 (k+1) j hgt;rw[hD]at this;omega
  rw[e,show D k+i-D k=i by omega]
 obtain⟨τ,aib,PI⟩:=tape;have hstep:∀k,(aF S (X k).fs).run S (tp (X k).s τ (D k))=.ok (X (k+1)).fs (tp (X (k+1)).s τ (D (k+1))):=by intro k;obtain⟨_,a1,a2,a3⟩:=((X k).wf.tp (vq (X k)) (nd (X k))).local F (w9 (X k));have:=a3 τ (D k) λi q hi=>PI k i q hi;rw[q4]at this;exact this
 have PK:∀k j,eC S k (X j).fs (tp (X j).s τ (D j))=θ ((X (j+k)).fs,tp (X (j+k)).s τ (D (j+k))):=by
  intro k;induction k with
  |zero=>intro j;rfl
  |succ k ih=>
   intro j;simp only[eC,hstep j];rw[ih (j+1),show j+1+k=j+(k+1)by omega]
 obtain⟨fs',s',⟨m,hm⟩,fJ⟩:=h τ 0 aib;have:=PK m 0;rw[show tp (X 0).s τ (D 0)=tp s τ 0 from rfl,show (X 0).fs=fs from rfl,hm]at this;simp only[Γ,l8]at this;obtain⟨e1,e2⟩:=this;subst e1;have:=hstep (0+m);exact hP.stuck _ _ fJ τ (D (0+m)) ⟨_,_,by rw[show tp s' τ (D (0+m))=tp (X (0+m)).s τ (D (0+m))by rw[e2];rfl];exact this⟩
theorem adW(F:Own S){Q}{f}(hwf:WF S [Frame.enter S f x .normal] s)(hC:∀τ d,eH bG τ->Calls S f x (tp s τ d) λe w'=>∃v,e=.returned v/\Q v w'.heap):fu S bG (o6 S Q) [Frame.enter S f x .normal] s:=by refine aia F (sx S Q) hwf λτ d hz=>?_;obtain⟨e,w',fr,⟨v,rfl,hv⟩,⟨n,hn⟩,hfn,hm,hd,hk,fn,hfs,hres⟩:=hC τ d hz [dI S];have hg:=JV F hm n _ [] (tp s τ d) (hwf.tp τ d).all (hwf.tp τ d).sh hn;obtain⟨m,hm'⟩:=hg;have hw':=(A7 F m _ _ _ _ (hwf.tp τ d) hm').1;refine⟨[fr],w',⟨m,hm'⟩,fr,rfl,hm,fn,v,hfs,λfK d'=>?_,hv⟩;obtain⟨_,_,h3⟩:=(FY (av:=0) (ag:=no) F.sm fn fr.tmps).local hw'.sh hres;have:=h3 fK d' (λi q hi=>by omega);rwa[Nat.sub_self,Nat.add_zero]at this
theorem fu.next(hE:nL S E)(h:fu S bG E fs s)(hz:eH bG τ)(hr:(aF S fs).run S (tp s τ d)=.ok aV s1):fu S bG E aV s1:=by
 cases h with
 |stop he=>exact absurd ⟨_,_,hr⟩ (hE.stuck _ _ he _ _)
 |step _ h2=>exact h2 _ _ _ _ hz hr
theorem fu.PM(hE:nL S E)(h:fu S bG E fs (tp s τ d)):fu S bG E fs s:=by
 cases h with
 |stop he=>exact .stop (hE.tp _ (tp s τ d) s.tape s.drawn he)
 |step h1 h2=>exact .step h1 h2
theorem jc.WX(h:jc S E fs s):fu S bG E fs s:=by
 induction h with
 |stop he=>exact .stop he
 |step h1 _ ih=>exact .step (λτ d _=>h1 τ d) λτ d aV s1 _ hr=>ih τ d aV s1 hr
theorem WY τ:eH (λ_=>ο) τ:=λ_ _ h=>by cases h
theorem Bb bG:eH bG (λ_ _=>0):=λ_ _ _=>rfl
def Rec(S:Program)(ep:List Frame)(s0:υ)(fs:List Frame)(s:υ):Prop:=∃n τ d,eC S n ep (tp s0 τ 0)=θ (fs,tp s τ d)
theorem Rec.start fs s:Rec S fs s fs s:=⟨0,s.tape,0,rfl⟩
theorem WZ:∀(n m:Nat) {fs aV vo:List Frame}{s s1 s2:υ},eC S n fs s=θ (aV,s1)->eC S m aV s1=θ (vo,s2)->eC S (n+m) fs s=θ (vo,s2)
 |0,m,fs,aV,vo,s,s1,s2,h,h'=>by simp only[eC,Γ,l8]at h;obtain⟨rfl,rfl⟩:=h;rw[Nat.zero_add];exact h'
 |n+1,m,fs,aV,vo,s,s1,s2,h,h'=>by
  rw[Nat.add_right_comm];simp only[eC]at h ⊢;cases hr:(aF S fs).run S s with
  |halt x y=>rw[hr]at h;cases h
  |ok aic s3=>
   rw[hr]at h;simp only at h ⊢;exact WZ n m h h'
theorem Rec.with(F:Own S)(hwf:WF S ep s0)(h:Rec S ep s0 fs s)(fK:Nat->dM->Nat)d':∃n τ d,eC S n ep (Lo.tp s0 τ 0)=θ (fs,Lo.tp s τ d)/\∀i q,τ (d+i) q=fK (d'+i) q:=by
 obtain⟨n,τ,d,h⟩:=h;obtain⟨_,b1,b2,b3⟩:=A7 F n ep fs _ _ (hwf.tp τ 0) h;have e:=b3 (λx q=>if x<d then τ x q else fK (d'+(x-d)) q) 0 λi q hi=>by have hi':i<d- 0:=hi;show (if 0+i<d then τ (0+i) q else _)=τ (0+i) q;rw[χ (by omega)]
 rw[q4,q4]at e;refine⟨n,_,_,e,λi q=>?_⟩;have e0:0+((Lo.tp s τ d).drawn-(Lo.tp s0 τ 0).drawn)=d:=by show 0+(d- 0)=d;omega
 rw[e0];rw[ς (by omega),show d+i-d=i by omega]
theorem Rec.wf(F:Own S)(hwf:WF S ep s0)(h:Rec S ep s0 fs s):WF S fs s:=by obtain⟨n,τ,d,h⟩:=h;have:=(A7 F n ep fs _ _ (hwf.tp τ 0) h).1;exact⟨this.all.tp s.tape s.drawn,⟨this.sh.nl,this.sh.bad⟩⟩
theorem Rec.step(F:Own S){ep fs aV:List Frame}{s0 s s1}(hwf:WF S ep s0)(h:Rec S ep s0 fs s){JW}{d1}(hr:(aF S fs).run S (Lo.tp s JW d1)=.ok aV s1):Rec S ep s0 aV s1:=by obtain⟨n,τ,d,h1,h2⟩:=h.with F hwf JW d1;obtain⟨_,a1,a2,a3⟩:=((h.wf F hwf).tp JW d1).local F hr;have e:=a3 τ d λi q _=>h2 i q;rw[q4]at e;exact⟨n+1,τ,d+(s1.drawn-(Lo.tp s JW d1).drawn),WZ n 1 h1 (by simp only[eC,e])⟩
end
theorem JX T A B:∀(d:Nat) (t:Θ) (o:Nat),tI ⟨T,A⟩ d t o=tI ⟨T,B⟩ d t o
 |0,_,_=>rfl
 |d+1,t,o=>by have hu:Program.underlying ⟨T,A⟩ t=Program.underlying ⟨T,B⟩ t:=rfl;have hc:∀e,Program.cellsOf ⟨T,A⟩ e=Program.cellsOf ⟨T,B⟩ e:=λ_=>rfl;have hb:∀e,Program.bytesOf ⟨T,A⟩ e=Program.bytesOf ⟨T,B⟩ e:=λ_=>rfl;unfold tI;simp only[hu,hc,hb,JX T A B d]
theorem W0 T A B:∀(d:Nat) (t:Θ) (o:Nat),N3 ⟨T,A⟩ d t o=N3 ⟨T,B⟩ d t o
 |0,_,_=>rfl
 |d+1,t,o=>by have hu:Program.underlying ⟨T,A⟩ t=Program.underlying ⟨T,B⟩ t:=rfl;have hc:∀e,Program.cellsOf ⟨T,A⟩ e=Program.cellsOf ⟨T,B⟩ e:=λ_=>rfl;have hb:∀e,Program.bytesOf ⟨T,A⟩ e=Program.bytesOf ⟨T,B⟩ e:=λ_=>rfl;unfold N3;simp only[hu,hc,hb,W0 T A B d]
theorem aid T A B d(e:Θ)n o k:uY ⟨T,A⟩ d e n o k=uY ⟨T,B⟩ d e n o k:=by have hc:∀e,Program.cellsOf ⟨T,A⟩ e=Program.cellsOf ⟨T,B⟩ e:=λ_=>rfl;have hb:∀e,Program.bytesOf ⟨T,A⟩ e=Program.bytesOf ⟨T,B⟩ e:=λ_=>rfl;unfold uY;simp only[hc,hb,JX T A B d,W0 T A B d]
theorem W1 T A B:∀(d:Nat) (t:Θ),Program.eqGuardType ⟨T,A⟩ d t=Program.eqGuardType ⟨T,B⟩ d t
 |0,_=>rfl
 |d+1,t=>by have hu:∀t,Program.underlying ⟨T,A⟩ t=Program.underlying ⟨T,B⟩ t:=λ_=>rfl;unfold Program.eqGuardType;simp only[hu,W1 T A B d]
theorem W2 T A B:∀(d:Nat) (t u:Θ),Program.alikeButTags ⟨T,A⟩ d t u=Program.alikeButTags ⟨T,B⟩ d t u
 |0,_,_=>rfl
 |d+1,t,u=>by have hi:∀t,Tables.info? (Program.toTables ⟨T,A⟩) t=Tables.info? (Program.toTables ⟨T,B⟩) t:=λ_=>rfl;unfold Program.alikeButTags;simp only[hi,W2 T A B d]
theorem Dl T A B(t:Θ):Program.stoodInHeld ⟨T,A⟩ t=Program.stoodInHeld ⟨T,B⟩ t:=by have hu:∀t,Program.underlying ⟨T,A⟩ t=Program.underlying ⟨T,B⟩ t:=λ_=>rfl;have hi:∀t,Program.underlyingId ⟨T,A⟩ t=Program.underlyingId ⟨T,B⟩ t:=λ_=>rfl;have hd:Program.depth ⟨T,A⟩=Program.depth ⟨T,B⟩:=rfl;unfold Program.stoodInHeld Program.stoodInAs;simp only[hu,hi,hd,W2 T A B]
theorem W3 T A B:∀(d:Nat) (t:Θ) (o:Nat),Fy ⟨T,A⟩ d t o=Fy ⟨T,B⟩ d t o
 |0,_,_=>rfl
 |d+1,t,o=>by have hu:Program.underlying ⟨T,A⟩ t=Program.underlying ⟨T,B⟩ t:=rfl;have hc:∀e,Program.cellsOf ⟨T,A⟩ e=Program.cellsOf ⟨T,B⟩ e:=λ_=>rfl;unfold Fy;simp only[hu,hc,W3 T A B d]
theorem W4 T A B:∀(d:Nat) (t:Θ) (o:Nat),NZ ⟨T,A⟩ d t o=NZ ⟨T,B⟩ d t o
 |0,_,_=>rfl
 |d+1,t,o=>by have hu:Program.underlying ⟨T,A⟩ t=Program.underlying ⟨T,B⟩ t:=rfl;have hc:∀e,Program.cellsOf ⟨T,A⟩ e=Program.cellsOf ⟨T,B⟩ e:=λ_=>rfl;have hb:∀e,Program.bytesOf ⟨T,A⟩ e=Program.bytesOf ⟨T,B⟩ e:=λ_=>rfl;unfold NZ;simp only[hu,hc,hb,W4 T A B d]
theorem W5 T A B:∀(d:Nat) (t:Θ),tight ⟨T,A⟩ d t=tight ⟨T,B⟩ d t
 |0,_=>rfl
 |d+1,t=>by have hu:Program.underlying ⟨T,A⟩ t=Program.underlying ⟨T,B⟩ t:=rfl;have hb:∀e,Program.bytesOf ⟨T,A⟩ e=Program.bytesOf ⟨T,B⟩ e:=λ_=>rfl;unfold tight;simp only[hu,hb,W5 T A B d]
theorem W6 T A B c(e:Θ):∀(f x stop:Nat),Fx ⟨T,A⟩ c e f x stop=Fx ⟨T,B⟩ c e f x stop
 |0,_,_=>rfl
 |f+1,x,stop=>by have hd:Program.depth ⟨T,A⟩=Program.depth ⟨T,B⟩:=rfl;have hc:∀e,Program.cellsOf ⟨T,A⟩ e=Program.cellsOf ⟨T,B⟩ e:=λ_=>rfl;have hb:∀e,Program.bytesOf ⟨T,A⟩ e=Program.bytesOf ⟨T,B⟩ e:=λ_=>rfl;unfold Fx;simp only[hc,hb,hd,W4 T A B,W6 T A B c e f]
theorem aie T A B(w:υ)at_(u:Θ)k m:w.seen ⟨T,A⟩ at_ u k m=w.seen ⟨T,B⟩ at_ u k m:=by have hd:Program.depth ⟨T,A⟩=Program.depth ⟨T,B⟩:=rfl;have hc:∀e,Program.cellsOf ⟨T,A⟩ e=Program.cellsOf ⟨T,B⟩ e:=λ_=>rfl;have hb:∀e,Program.bytesOf ⟨T,A⟩ e=Program.bytesOf ⟨T,B⟩ e:=λ_=>rfl;unfold Jy;simp only[hc,hb,hd,W3 T A B,JX T A B,W6 T A B]
theorem W7 T A B(fits:Θ→Bool):∀(d:Nat) (e:Θ) (c o n:Nat),rowAt ⟨T,A⟩ fits d e c o n=rowAt ⟨T,B⟩ fits d e c o n
 |0,_,_,_,_=>rfl
 |d+1,e,c,o,n=>by have hu:∀t,Program.underlying ⟨T,A⟩ t=Program.underlying ⟨T,B⟩ t:=λ_=>rfl;have hc:∀e,Program.cellsOf ⟨T,A⟩ e=Program.cellsOf ⟨T,B⟩ e:=λ_=>rfl;unfold rowAt;simp only[hu,hc,Dl T A B,W7 T A B fits d]
theorem W8 T A B:∀(d:Nat) (t u:Θ),N4 ⟨T,A⟩ d t u=N4 ⟨T,B⟩ d t u
 |0,_,_=>rfl
 |d+1,t,u=>by have hu:∀t,Program.underlying ⟨T,A⟩ t=Program.underlying ⟨T,B⟩ t:=λ_=>rfl;have hi:∀t,Program.underlyingId ⟨T,A⟩ t=Program.underlyingId ⟨T,B⟩ t:=λ_=>rfl;unfold N4;simp only[hu,hi,Dl T A B,W8 T A B d]
theorem W9 T A B:∀(d:Nat) (e:Θ) (c o:Nat) (u:Θ) (n:Nat),FC ⟨T,A⟩ d e c o u n=FC ⟨T,B⟩ d e c o u n
 |0,_,_,_,_,_=>rfl
 |d+1,e,c,o,u,n=>by have hu:∀t,Program.underlying ⟨T,A⟩ t=Program.underlying ⟨T,B⟩ t:=λ_=>rfl;have hd:Program.depth ⟨T,A⟩=Program.depth ⟨T,B⟩:=rfl;unfold FC;simp only[hu,hd,W7 T A B,W8 T A B,W9 T A B d]
theorem Xa T A B:∀(d:Nat) (t:Θ),Program.holdsStoodIn ⟨T,A⟩ d t=Program.holdsStoodIn ⟨T,B⟩ d t
 |0,_=>rfl
 |d+1,t=>by have hu:∀t,Program.underlying ⟨T,A⟩ t=Program.underlying ⟨T,B⟩ t:=λ_=>rfl;unfold Program.holdsStoodIn;simp only[hu,Dl T A B,Xa T A B d]
theorem Xb(T:Tables)A B:aE ⟨T,A⟩ ⟨T,B⟩:=
 ⟨λ_=>rfl,λ_=>rfl,rfl,λt=>W1 T A B _ t,Dl T A B,λ_=>rfl,rfl,rfl,λe o=>JX T A B _ e o,λ_=>rfl,λe n o k=>aid T A B _ e n o k,λ_=>rfl,rfl,λw a u k m=>aie T A B w a u k m,λu=>W5 T A B _ u,λe c o u n=>W9 T A B _ e c o u n,λe=>Xa T A B _ e⟩
def Xc(f : Func): Func := { f with body := θ (.refuse ""), name := "" }
def yX(kn:List Nat)(sp:Nat)(g:Func)(i:Nat)(f:Func):Func:=if i=sp then g else if kn.contains i then f else Xc f
def mask(R:Program)(kn:List Nat)(sp:Nat)(g:Func):Program:=⟨R.toTables,(R.funcs.toList.mapIdx (yX kn sp g)).toArray⟩
theorem Bc R kn sp g f:(mask R kn sp g).funcs[f]?=(R.funcs[f]?).map (yX kn sp g f):=by simp[mask]
def dY(S:Program)(kn yY:List Nat)(sp:Nat):List Func→Nat→Bool
 |[],_=>ν
 | fn :: r, i => (i == sp || !(kn.contains i) || (fn.name != "runtime.NumGoroutine" && (match fn.body with | η => De fn | θ c => yY.contains i || codeOk S c))) && dY S kn yY sp r (i + 1)
theorem Xd{S}{kn yY}{sp}: ∀ (l : List Func) (i j : Nat) (fn : Func), dY S kn yY sp l i = ν → l[j]? = θ fn → i + j ≠ sp → kn.contains (i + j) = ν → fn.name ≠ "runtime.NumGoroutine" ∧ ((∃ c, fn.body = θ c ∧ (yY.contains (i + j) = ν ∨ codeOk S c = ν)) ∨ (fn.body = η ∧ De fn = ν))
 |[],_,_,_,_,h,_,_=>by simp at h
 |g::r,i,0,fn,h,hg,hs,hk=>by
  simp only[List.getElem?_cons_zero,Γ]at hg;subst hg;rw[Nat.add_zero]at hs hk;have h1:=(Bool.and_eq_true _ _▸h:_∧_).1;rw[hk]at h1;have hs':(i==sp)=false:=by simpa using hs
  rw[hs']at h1;simp only[Bool.not_true,Bool.or_false,Bool.false_or,Bool.and_eq_true]at h1;obtain⟨h1,h2⟩:=h1;refine⟨by simpa using h1,?_⟩;cases hb:g.body with
  |none=>rw[hb]at h2;exact .inr ⟨rfl,h2⟩
  |some c=>rw[hb]at h2;exact .inl ⟨c,rfl,by simpa using h2⟩
 |g::r,i,j+1,fn,h,hg,hs,hk=>by have h1:=(Bool.and_eq_true _ _▸h:_∧_).2;rw[show i+(j+1)=i+1+j from by omega]at hs hk ⊢;exact Xd r (i+1) j fn h1 (by simpa using hg) hs hk
theorem amn {R} {kn yY} {sp} {g} (h : dY (mask R kn sp g) kn yY sp R.funcs.toList 0 = ν) (PN : ∀ f fn c, yY.contains f = ν → R.funcs[f]? = θ fn → fn.body = θ c → ∃ C, k6 (mask R kn sp g) C ∧ c = yT C ∧ fn.ntmps = 20) (hg : g.name ≠ "runtime.NumGoroutine") (hb : ∃ c, g.body = θ c ∧ codeOk (mask R kn sp g) c = ν)
  (hk : kn.contains sp = ν) (hlt : ∀ f, kn.contains f = ν → f < R.funcs.size) {JY} (hR : R.funcs[sp]? = θ JY) (aif : JY.body.isSome = ν) (aih : JY.name ≠ "runtime.NumGoroutine") :
  iP (mask R kn sp g) R (λf=>kn.contains f) sp∧Own (mask R kn sp g):=by
 have all : ∀ (f : FuncId) (fn : Func), (mask R kn sp g).funcs[f]? = θ fn → fn.name ≠ "runtime.NumGoroutine" ∧ ((∃ c, fn.body = θ c ∧ (codeOk (mask R kn sp g) c = ν ∨ ∃ C, k6 (mask R kn sp g) C ∧ c = yT C ∧ fn.ntmps = 20)) ∨ (fn.body = η ∧ De fn = ν)) := by
  intro f fn hf;rw[Bc]at hf;obtain⟨f0,h0,rfl⟩:=kZ.1 hf;unfold yX;split
  .obtain⟨c,hc,h2⟩:=hb;exact⟨hg,.inl ⟨c,hc,.inl h2⟩⟩
  .rename_i hne;split
   .rename_i hc;obtain⟨h1,h2⟩:=Xd _ 0 f f0 h (by simpa using h0) (by rw[Nat.zero_add];exact hne) (by rw[Nat.zero_add];exact hc);rw[Nat.zero_add]at h2;exact⟨h1,h2.imp (λ⟨c,h3,h4⟩=>⟨c,h3,h4.symm.imp id λh4=>PN f f0 c h4 h0 h3⟩) id⟩
   .exact⟨by simp[Xc],.inl ⟨_,rfl,.inl rfl⟩⟩
 refine⟨⟨Xb R.toTables _ _,all,λf hf=>?_,λf fn hf h1=>?_⟩,⟨Xb R.toTables _ _,all,λf hf=>?_,λf fn hf h1=>?_⟩⟩
 .have hl:=hlt f hf;have e:=qT hl;by_cases hs:f=sp
  .subst hs;rw[hR]at e;obtain⟨c,hc,_⟩:=hb;exact⟨g,JY,by rw[Bc,hR];simp[yX],hR,λh=>absurd rfl h,.inr ⟨by rw[hc];rfl,aif⟩,aih⟩
  ·(have hp:yX kn sp g f R.funcs[f]=R.funcs[f]:=by unfold yX;rw[ς hs,χ hf]);(have h1:(mask R kn sp g).funcs[f]?=θ R.funcs[f]:=by rw[Bc,e];simp[hp]);exact⟨_,_,h1,e,λ_=>rfl,.inl rfl,(all f _ h1).1⟩
 .rw[Bc]at h1;obtain⟨f0,h0,rfl⟩:=kZ.1 h1;have hs:f≠sp:=λe=>by subst e;rw[hk]at hf;cases hf
  unfold yX;rw[ς hs,ς (by rw[hf];simp)];exact⟨_,rfl⟩
 .have hl:f<(mask R kn sp g).funcs.size:=AF hf;have e:=qT hl;exact⟨_,_,e,e,λ_=>rfl,.inl rfl,(all f _ e).1⟩
 .have hl:f<(mask R kn sp g).funcs.size:=(ξ.1 h1).1;exact absurd hl (NP hf)
noncomputable def aii:Code:=match Tryz.f25.body with
 |some (.seq _ (.cond _ _ c))=>c
 |_=>.skip
noncomputable def fI:tO:=⟨32,66,35,4,33,aii⟩
theorem aij:Tryz.f25.body=θ (yT fI):=by kernel_rfl
theorem aik:Tryz.f25.ntmps=20:=by kernel_rfl
def Xe(S:Program)(C:tO):Bool:=
 (match S.underlying C.tp with|some (.pointer _)=>ν|_=>ο)&&(match S.underlying C.tu with|some .unsafePointer=>ν|_=>ο)&&
 (match S.underlying C.tb with|some (.struct fs)=>(match fs[0]? with|some g=>(match S.info? g.type with|some i=>i.size !=0|none=>ο)|none=>ο)|_=>ο)&&
 codeOk S C.rest && (match S.funcs[C.ne]? with | θ fn => fn.name == "internal/abi.NoEscape" && fn.body.isNone && (Ju fn).isNone | η => ο)
theorem ail{S}{C}(h:Xe S C=ν):k6 S C:=by
 unfold Xe at h;simp only[Bool.and_eq_true]at h;obtain⟨⟨⟨⟨h1,h2⟩,h3⟩,h4⟩,h5⟩:=h;refine⟨?_,?_,?_,h4,?_⟩
 .split at h1
  .rename_i e he;exact⟨e,he⟩
  .cases h1
 .split at h2
  .rename_i he;exact he
  .cases h2
 .split at h3
  .rename_i fs hf;split at h3
   .rename_i g hg;split at h3
    .rename_i i hi;exact⟨fs,g,i,hf,hg,hi,by simpa using h3⟩
    .cases h3
   .cases h3
  .cases h3
 .split at h5
  .rename_i fn hf;simp only[Bool.and_eq_true,wK,AU]at h5;exact⟨fn,hf,h5.1.1,h5.1.2,h5.2⟩
  .cases h5
def mh(d : Option Nat)(o : Op)(t : Θ): Oper := { dst := d, op := o, type := t, pos := "", after := #[], guard := η }
def Bd:Operand:=.const (.agg #[])
def F1:Oper:=mh (θ 8) (.move (.const (.bool ν))) 4
def F2:Oper:={mh η (.load 3 (.const (.bool ν))) 3 with guard:=θ (0,ν) }
def F3:Oper:=mh (θ 7) (.makeFunc (.func 143) #[.tmp 0,.tmp 1,.tmp 2,.tmp 3,.tmp 4,.tmp 5,.tmp 6,.tmp 7] #[]) 3
def yZ:Array Oper:=#[F1,F2,F3]
def Be:Oper:=mh (θ 6) (.move (.const (.bool ν))) 4
def Bf:Oper:=mh (θ 6) (.move (.const (.bool ο))) 4
def k7:Array Oper:=#[Be,Bf]
def JZ:Oper:=mh η (.box 3 (.tmp 7)) 3
def J0:Oper:=mh η (.nilCheck (.const (.pointer η))) 3
def Dm:Array Oper:=#[JZ,J0]
def gA:Array Oper:=#[mh η (.box 189 Bd) 3,mh η (.box 191 Bd) 3,mh η (.box 3 Bd) 3,mh (θ 3) (.makeSlice 194 (.tmp 2) (.tmp 2)) 194,
 mh η (.box 194 Bd) 3,mh η (.box 217 Bd) 3,mh η (.box 3 Bd) 3,
 mh (θ 4) (.call {callee:=.value (.func 143),args:=#[.tmp 0,.tmp 1,.const (.int .i64 0),.const (.int .i64 1)],argTypes:=#[189,191,3,3] }) 189,
 mh (θ 5) (.indexAddr 194 (.tmp 3) (.const (.int .i64 0))) 3,mh η (.store 189 (.tmp 5) (.tmp 4)) 3]
def F4:Code:=.seq (.region 0 yZ ο) (.seq (.region 1 k7 ν) (.cond (.tmp 6) (.region 3 Dm ο) (.seq (.region 4 gA ο) .ret)))
noncomputable def Bg:Func:={Tryz.f131 with ntmps:=8,results:=#[.tmp 3],body:=θ F4 }
def kn:List Nat:=[3,4,5,6,7,8,9,10,11,12,13,14,15,16,17,18,19,20,21,22,23,24,25,26,27,28,29,30,31,32,33,34,35,36,37,38,39,40,41,42,43,44,45,46,47,48,49,50,51,52,53,54,55,56,57,58,59,60,61,62,63,64,65,66,67,68,69,70,71,72,73,74,75,76,77,78,79,80,81,82,83,84,85,86,87,88,89,90,91,92,93,94,95,96,97,98,99,100,101,102,103,104,105,106,107,108,109,110,111,112,113,114,115,116,117,118,119,120,121,122,123,124,125,126,127,128,129,130,131,132,133,134,135,136,137,138,139,142,143,145,146,147,148,149,150,157,158,160,161,164,167,170,171,172,173,174,175,176,177,178,179,180,181,182,187,189,190,191,192,193,194,195,196,197,198,199,200,201,202,203,204,205,206,207,208,209,210,211,212,213,214,215,216,217,218,219,220,221,222,223,248]
noncomputable def ah:Program:=mask Tryz.prog kn 131 Bg
theorem aim:dY ah kn [25] 131 Tryz.prog.funcs.toList 0=true:=by kernel_rfl
theorem ain:kn.all (λf=>decide (f<Tryz.prog.funcs.size))=true:=by kernel_rfl
theorem aio:k6 ah fI:=ail (by kernel_rfl)
theorem aip f fn c(h:[25].contains f=ν)(hf:Tryz.prog.funcs[f]?=θ fn)(hb:fn.body=θ c):∃C,k6 ah C∧c=yT C∧fn.ntmps=20:=by
 have e:f=25:=by simpa using h
 subst e;rw[Tryz.func25]at hf;cases hf
 rw[aij]at hb;cases hb
 exact⟨fI,aio,rfl,aik⟩
theorem oB:iP ah Tryz.prog (λf=>kn.contains f) 131∧Own ah:=
 amn aim aip (by show Tryz.f131.name≠_;decide+kernel) ⟨F4,rfl,by kernel_rfl⟩ (by kernel_rfl) (λf hf=>AF (List.all_eq_true.1 ain f (List.contains_iff_mem.1 hf))) Tryz.func131 (by kernel_rfl) (by decide+kernel)
theorem PO:ah.funcs[131]?=θ Bg:=by show (mask _ _ _ _).funcs[131]?=_;rw[Bc,Tryz.func131];rfl
variable{x:Array ay}{A:Ending->υ->Prop}{cs fs ep:List Frame}{E K K' P:List Frame->υ->Prop}{d n:Nat}{τ:Nat->dM->Nat}{bG:dM->Bool}{v:ay}{s s' s0 s1 s2:υ}
section
variable {S:Program}
theorem PR:∀(n m:Nat) {fs f1 f2:List Frame}{s s1 s2 t t':υ}{h h':Halt},eC S n fs s=θ (f1,s1)->(aF S f1).run S s1=.halt h t->eC S m fs s=θ (f2,s2)->(aF S f2).run S s2=.halt h' t'->f1=f2/\s1=s2
 |0,0,fs,f1,f2,s,s1,s2,t,t',h,h',a,b,c,d=>by simp only[eC,Γ,l8]at a c;exact⟨a.1.symm.trans c.1,a.2.symm.trans c.2⟩
 |0,m+1,fs,f1,f2,s,s1,s2,t,t',h,h',a,b,c,d=>by simp only[eC,Γ,l8]at a;obtain⟨rfl,rfl⟩:=a;simp only[eC,b]at c;cases c
 |n+1,0,fs,f1,f2,s,s1,s2,t,t',h,h',a,b,c,d=>by simp only[eC,Γ,l8]at c;obtain⟨rfl,rfl⟩:=c;simp only[eC,d]at a;cases a
 |n+1,m+1,fs,f1,f2,s,s1,s2,t,t',h,h',a,b,c,d=>by
  simp only[eC]at a c;cases hr:(aF S fs).run S s with
  |halt x y=>rw[hr]at a;cases a
  |ok aic s3=>
   rw[hr]at a c;exact PR n m a b c d
theorem Xf{fr}(hm:fr.mode=.returning)s:∃why,(aF S [fr]).run S s=.halt (.stuck why) s:=by
 unfold aF;simp only[hm];cases S.funcs[fr.fn]? with
 |none=>exact⟨_,rfl⟩
 |some fn=>exact⟨_,rfl⟩
theorem aiq(F:Own S){f}(hwf:WF S [Frame.enter S f x .normal] s){P:Array Obj->Prop}(hA:∀e w',A e w'->(∃v,e=.returned v)\/∃ch,e=.panicked ch/\P w'.heap)(hC:Calls S f x (tp s τ d) A)(hg:eC S n [Frame.enter S f x .normal] (tp s τ d)=θ (fs,s1))(hh:(aF S fs).run S s1=.halt (.panic v) s2):P s2.heap:=by
 obtain⟨e,w',fr,hR,Xg,_,hl⟩:=hC [dI S];rcases hA e w' hR with⟨v1,rfl⟩|⟨ch,rfl,hP⟩
 .obtain⟨m,hm⟩:=Xg;obtain⟨o7,_⟩:=hl;obtain⟨k,hk⟩:=JV F o7 m _ [] (tp s τ d) (hwf.tp τ d).all (hwf.tp τ d).sh hm;obtain⟨why,hs⟩:=Xf (S:=S) o7 w';obtain⟨rfl,rfl⟩:=PR n k hg hh hk hs;cases hs.symm.trans hh
 .obtain⟨m,hm⟩:=Xg;obtain⟨o7,_⟩:=hl;obtain⟨aV,s1',v1,⟨k,hk⟩,h2⟩:=WW F o7 m _ [] (tp s τ d) (hwf.tp τ d).all (hwf.tp τ d).sh hm;obtain⟨rfl,rfl⟩:=PR n k hg hh hk h2;cases h2.symm.trans hh
  exact hP
theorem air(F:Own S)sp:iP S S (known S) sp:=
 ⟨F.sm,F.all,λf hf=>by
  obtain⟨fn,fn',h1,h2,h3,h4,h5⟩:=F.same f hf;have hl:=AF hf;exact⟨fn,fn',h1,h2,λ_=>h3 (Nat.ne_of_lt hl),.inl (h3 (Nat.ne_of_lt hl)),h5⟩,F.dead⟩
theorem ais(F:Own S){sp}{f}(h:fO no S (f::cs) s)(hv:Sh no s)(hs:f.fn≠sp):hO sp S S no Eq (aF S (f::cs)) (aF S (f::cs)) s:=by
 obtain⟨fn,hf⟩:=h.known;obtain⟨h1,h2⟩:=JU (air F sp) h hv (by simp[known,(ξ.1 hf).1]) hs;refine⟨h1,λfs s' hr=>?_⟩;obtain⟨k,v,hd⟩:=h2 fs s' hr;rcases hd with⟨g,x,hg,rfl⟩|hw
 .obtain⟨fn,hf⟩:=(yV F h hv hr).known;exact absurd (ξ.1 hf).1 (NP hg)
 .refine⟨k,v,⟨_,rfl⟩,λw es hwr hag=>?_⟩;obtain⟨b,w',u,r,q,g⟩:=hw w es hwr hag;rcases q with⟨rfl,_⟩|⟨x,rfl,rfl⟩
  .exact⟨_,w',u,r,rfl,g⟩
  .exact⟨_,w',u,r,rfl,g⟩
def eX(sp:FuncId):dM->Bool
 | .order f _=>f==sp
 |_=>ο
def tR(sp:FuncId)(τ:Nat->dM->Nat):Nat->dM->Nat:=λi q=>if eX sp q=ν then 0 else τ i q
theorem J1 sp τ:eH (eX sp) (tR sp τ):=λi q h=>by simp[tR,h]
theorem Xh sp τ i q(h:∀j,q≠.order sp j):tR sp τ i q=τ i q:=by
 unfold tR;rw[ς];intro hq;cases q with
 |order f j=>
  have e:f=sp:=by simpa[eX]using hq
  subst e;exact h j rfl
 |_=>cases hq
theorem hO.ait{sp}{α:Type}{x:Sem α}(h:∀τ d,hO sp S S no Eq x x (tp s τ d))(hs:Sh no s){a:α}(hr:x.run S s=.ok a s'):∃d',x.run S (tp s (tR sp s.tape) s.drawn)=.ok a (tp s' (tR sp s.tape) d'):=by
 obtain⟨k,v,_,hw⟩:=(h s.tape s.drawn).2 a s' hr;obtain⟨b,w',u,r,e,g⟩:=hw (tp s (tR sp s.tape) s.drawn) #[] (WT hs _ _) λi q hz _=>Xh sp s.tape _ q hz;subst e;rw[AP]at r;have r1:=jM Prod.fst r;simp only at r1;refine⟨w'.drawn,?_⟩;rw[r1];congr 1;obtain⟨_,v',_⟩:=(h (tR sp s.tape) s.drawn).2 a w' r1;have hh:w'.heap=s'.heap:=by
  apply Jo;intro b;rcases g.wr.same b (λh=>h)with⟨e,_⟩|⟨o,e1,e2,e3⟩
  .exact e.symm
  .rcases e3 with⟨l,rfl⟩|⟨c,t,rfl⟩
   .exact absurd e2 (v'.nl.1 _ _)
   .exact absurd e2 (v'.nl.2 _ _ _)
 have h2:=g.kept.tape;have h3:=g.kept.os;have h4:=g.kept.out;have bz:=k.os;have eB:=k.out;obtain⟨a1,a2,a3,a4,a5⟩:=w';obtain⟨b1,b2,b3,b4,b5⟩:=s';simp only[tp]at*;simp only[World.mk.injEq];exact⟨hh,h2,trivial,h3.trans bz.symm,h4.trans eB.symm⟩
structure tS(S:Program)(bG:dM->Bool)(K:List Frame->υ->Prop):Prop where
 next:∀{fs aV:List Frame}{s s1:υ}{τ:Nat->dM->Nat}{d:Nat},K fs s->eH bG τ->(aF S fs).run S (Lo.tp s τ d)=.ok aV s1->K aV s1
 tp:∀{fs:List Frame}{s:υ}{τ:Nat->dM->Nat}{d:Nat},K fs (Lo.tp s τ d)->K fs s
theorem aiu(hE:nL S E):tS S bG (fu S bG E):=⟨λh hz hr=>h.next hE hz hr,λh=>fu.PM hE h⟩
theorem tS.and(h:tS S bG K)(h':tS S bG K'):tS S bG λfs s=>K fs s/\K' fs s:=⟨λk hz hr=>⟨h.next k.1 hz hr,h'.next k.2 hz hr⟩,λk=>⟨h.tp k.1,h'.tp k.2⟩⟩
theorem aiv(F:Own S)bG(hwf:WF S ep s0):tS S bG (Rec S ep s0):=⟨λh _ hr=>h.step F hwf hr,λh=>h⟩
inductive qf (S:Program) (bG:dM->Bool) (ep:List Frame) (s0:υ):List Frame->υ->Prop
 |one {aV:List Frame}{s1:υ}{τ:Nat->dM->Nat}{d:Nat}:eH bG τ->(aF S ep).run S (Lo.tp s0 τ d)=.ok aV s1->qf S bG ep s0 aV s1
 |more {fs aV:List Frame}{s s1:υ}{τ:Nat->dM->Nat}{d:Nat}:qf S bG ep s0 fs s->eH bG τ->(aF S fs).run S (Lo.tp s τ d)=.ok aV s1->qf S bG ep s0 aV s1
 |tp {fs:List Frame}{s:υ}{τ:Nat->dM->Nat}{d:Nat}:qf S bG ep s0 fs (Lo.tp s τ d)->qf S bG ep s0 fs s
theorem qf.aiw(h:qf S bG ep s0 fs s):qf S bG ep (Lo.tp s0 τ d) fs s:=by
 induction h with
 |one hz hr=>exact .one hz (by rw[q4];exact hr)
 |more _ hz hr ih=>exact .more ih hz hr
 |tp _ ih=>exact .tp ih
theorem aix(hE:nL S E)(hP:∀fs s,fu S bG E fs s->(∀fs' s',qf S bG fs s fs' s'->P fs' s')->P fs s)(h:fu S bG E fs s):P fs s:=by
 have key:∀{fs:List Frame}{s:υ},fu S bG E fs s->∀fs' s',qf S bG fs s fs' s'->P fs' s':=by
  intro fs s h;induction h with
  |@stop fs s he=>
   intro fs' s' hd;exfalso;induction hd with
   |one _ h=>exact hE.stuck _ _ he _ _ ⟨_,_,h⟩
   |more _ _ _ ih=>exact ih
   |tp _ ih=>exact ih
  |@step fs s h1 h2 ih=>
   intro fs' s' hd;have:∃τ d aV s1,eH bG τ/\(aF S fs).run S (Lo.tp s τ d)=.ok aV s1/\((fs'=aV/\∃fK d',Lo.tp s' fK d'=s1)\/qf S bG aV s1 fs' s'):=by
    induction hd with
    |one hz h=>exact⟨_,_,_,_,hz,h,.inl ⟨rfl,_,_,rfl⟩⟩
    |@more aiy axB sa sb Xi da _ hz h ih=>
     obtain⟨τ,d,aV,s1,k1,k2,bz⟩:=ih;refine⟨τ,d,aV,s1,k1,k2,.inr ?_⟩;rcases bz with⟨rfl,fK,d',rfl⟩|bz
     .exact .one (τ:=Xi) (d:=da) hz (by rw[q4];exact h)
     .exact .more bz hz h
    |@tp aiy sa Xi da _ ih=>
     obtain⟨τ,d,aV,s1,k1,k2,bz⟩:=ih;refine⟨τ,d,aV,s1,k1,k2,?_⟩;rcases bz with⟨rfl,fK,d',e⟩|bz
     .exact .inl ⟨rfl,fK,d',e⟩
     .exact .inr (.tp bz)
   obtain⟨τ,d,aV,s1,k1,k2,bz⟩:=this;rcases bz with⟨rfl,fK,d',rfl⟩|bz
   .exact hP _ _ (fu.PM hE (h2 τ d _ _ k1 k2)) λvo s2 nM=>ih τ d _ _ k1 k2 _ _ nM.aiw
   .exact ih τ d _ _ k1 k2 _ _ bz
 exact hP fs s h λfs' s' hd=>key h fs' s' hd
theorem aiz(F:Own S){sp}(hE:nL S E)(hK:tS S (eX sp) K)(hno:∀x cs s,jc S E (Frame.enter S sp x .normal::cs) s->False)(hwf:WF S ep s0)(h0:∀f∈ep,f.fn≠sp)(hB:jc S E ep s0)(hr:sA S ep s0 fs s):(∀f∈fs,f.fn≠sp)/\WF S fs s/\∀base,K (ep++base) s0->K (fs++base) s:=by
 induction hr with
 |refl=>exact⟨h0,hwf,λ_ h=>h⟩
 |@step aV vo s1 s2 τ d hr h1 ih=>
  obtain⟨a1,a2,a3⟩:=ih;have gj:=(sA.bar hE hB hr).next hE h1
  cases aV with
  |nil=>exact absurd h1 (PG _ _ _)
  |cons f cs=>
   refine⟨?_,⟨((a2.tp τ d).local F h1).1.all,((a2.tp τ d).local F h1).1.sh⟩,λbase hb=>?_⟩
   .rcases PL h1 with ht|⟨g,y,rfl⟩
    .intro fr hfr;obtain⟨f0,h2,e⟩:=ht fr hfr;rw[e];exact a1 f0 h2
    .intro fr hfr;rcases List.mem_cons.1 hfr with rfl|hfr
     .intro e;have e':=e;subst e';exact hno _ _ _ gj
     .exact a1 fr hfr
   .obtain⟨d',h2⟩:=hO.ait (λfK d'=>ais F (sp:=sp) (s:=tp (tp s1 τ d) fK d') (a2.all.tp fK d') (a2.sh.tp fK d') (a1 f List.mem_cons_self)) (a2.tp τ d).sh h1;rw[q4]at h2;exact hK.tp (hK.next (a3 base hb) (J1 sp _) (ag4 h2 base))
end
variable{x:Array ay}{h:Halt}{K:List Frame→υ→Prop}{id:Nat}{τ:Nat→dM→Nat}
def fr(T:Array ay)(k:List kD):Frame:={fn:=131,tmps:=T,todo:=k,defers:=[],mode:=.run,kind:=.normal,roundOf:=η }
theorem J2 x:Frame.enter ah 131 x .normal=fr (x++Δ (8-x.size) undef) [.code F4]:=by simp[Frame.enter,PO,fr,Bg]
section
variable {T:Array ay}{k:List kD}{cs:List Frame}{s s':υ}{ops:Array Oper}{o:Oper}{i:Nat}{l:List Nat}{v:ay}
theorem F5{a b}:(aF ah (fr T (.code (.seq a b)::k)::cs)).run ah s=.ok (fr T (.code a::.code b::k)::cs) s:=rfl
theorem s_reg:(aF ah (fr T (.code (.region id ops ο)::k)::cs)).run ah s=.ok (fr T (.inRegion ops (List.range ops.size)::k)::cs) s:=rfl
theorem J3:(aF ah (fr T (.inRegion ops []::k)::cs)).run ah s=.ok (fr T k::cs) s:=rfl
theorem aiA:(aF ah (fr T (.code .ret::k)::cs)).run ah s=.ok ({fr T (.code .ret::k)with mode:=.returning }::cs) s:=rfl
theorem s_cond{c}{a b}{x}(h:(fr T (.code (.cond c a b)::k)).eval c=.bool x):(aF ah (fr T (.code (.cond c a b)::k)::cs)).run ah s=.ok (fr T (.code (if x then a else b)::k)::cs) s:=by
 have:aF ah (fr T (.code (.cond c a b)::k)::cs)=pure (fr T (.code (if x then a else b)::k)::cs):=by unfold aF;show (match(fr T (.code (.cond c a b)::k)).eval c with | .bool x=>_|_=>_)=_;rw[h];rfl
 rw[this];rfl
theorem Xj:(aF ah (fr T (.code (.region id ops ν)::k)::cs)).run ah s=.ok (fr T (.inRegion ops (kY (ah.follows .mixedOrders) ops (s.tape s.drawn (.order 131 id)))::k)::cs) {s with drawn:=s.drawn+1 }:=by show (C3 (.order 131 id) λt=>o4 (fr T (.inRegion ops (kY (ah.follows .mixedOrders) ops t)::k)::cs)).run ah s=_;simp[jw,yK,AO]
def Dn(T:Array ay):Option Nat→ay→Array ay
 |some d,v=>T.setIfInBounds d v
 |none,_=>T
theorem J4(ho:ops[i]?=θ o):(fr T (.inRegion ops (i::l)::k)).finish v=fr (Dn T o.dst v) (.inRegion ops l::k):=by unfold Frame.finish fr;simp only[ho,C5];cases o.dst<;>rfl
def c8(T:Array ay):Operand→Value:=(fr T []).eval
theorem J5:(fr T k).eval=c8 T:=funext λx=>by cases x<;>rfl
theorem oC(ho:ops[i]?=θ o)(hg:o.guard=η)(hr:(aL (c8 T) o).run ah s=.ok (.value v) s'):(aF ah (fr T (.inRegion ops (i::l)::k)::cs)).run ah s=.ok (fr (Dn T o.dst v) (.inRegion ops l::k)::cs) s':=by
 have hw:cF o (jv ops T)=true:=by simp[cF,hg]
 have:aF ah (fr T (.inRegion ops (i::l)::k)::cs)=(aL (c8 T) o).bind λn=>jQ ah (fr T (.inRegion ops (i::l)::k)) cs n:=by unfold aF;show (match ops[i]? with|some o=>(if cF o (jv ops T)then _ else _)|none=>_)=_;rw[ho];simp only[hw,dF,J5];rfl
 rw[this,fq,hr];show qX (_::cs) s'=_;rw[J4 ho]
theorem aiB(ho:ops[i]?=θ o)(hg:o.guard=η)(hr:(aL (c8 T) o).run ah s=.ok .skip s'):(aF ah (fr T (.inRegion ops (i::l)::k)::cs)).run ah s=.ok (fr (Dn T o.dst undef) (.inRegion ops l::k)::cs) s':=by
 have hw:cF o (jv ops T)=true:=by simp[cF,hg]
 have:aF ah (fr T (.inRegion ops (i::l)::k)::cs)=(aL (c8 T) o).bind λn=>jQ ah (fr T (.inRegion ops (i::l)::k)) cs n:=by unfold aF;show (match ops[i]? with|some o=>(if cF o (jv ops T)then _ else _)|none=>_)=_;rw[ho];simp only[hw,dF,J5];rfl
 rw[this,fq,hr];show qX (_::cs) s'=_;rw[J4 ho]
theorem aiC(ho:ops[i]?=θ o)(hw:cF o (jv ops T)=ο):(aF ah (fr T (.inRegion ops (i::l)::k)::cs)).run ah s=.ok (fr (Dn T o.dst undef) (.inRegion ops l::k)::cs) s:=by
 have:aF ah (fr T (.inRegion ops (i::l)::k)::cs)=pure (fr (Dn T o.dst undef) (.inRegion ops l::k)::cs):=by unfold aF;show (match ops[i]? with|some o=>(if cF o (jv ops T)then _ else _)|none=>_)=_;rw[ho];simp only[hw,Bool.false_eq_true,fh];rw[J4 ho]
 rw[this];rfl
theorem J6(ho:ops[i]?=θ o)(hw:cF o (jv ops T)=ν)(hr:(aL (c8 T) o).run ah s=.halt h s'):(aF ah (fr T (.inRegion ops (i::l)::k)::cs)).run ah s=.halt h s':=by
 have:aF ah (fr T (.inRegion ops (i::l)::k)::cs)=(aL (c8 T) o).bind λn=>jQ ah (fr T (.inRegion ops (i::l)::k)) cs n:=by unfold aF;show (match ops[i]? with|some o=>(if cF o (jv ops T)then _ else _)|none=>_)=_;rw[ho];simp only[hw,dF,J5];rfl
 rw[this,fq,hr];rfl
end
section
variable {E:List Frame→υ→Prop}{bG:dM→Bool}
theorem PS(hR:∀f cs s,f.mode=.run→¬E (f::cs) s){f}{cs}{s}(h:fu ah bG E (f::cs) s)(hm:f.mode=.run)(hz:eH bG τ)d:∃aV s1,(aF ah (f::cs)).run ah (tp s τ d)=.ok aV s1:=by
 cases h with
 |stop he=>exact absurd he (hR _ _ _ hm)
 |step h1 _=>exact h1 τ d hz
theorem Xk:ah.follows .mixedOrders=true:=by kernel_rfl
theorem aiD:kY (ah.follows .mixedOrders) k7 1=[1,0]:=by rw[Xk];decide+kernel
theorem aiE:kY (ah.follows .mixedOrders) k7 0=[0,1]:=by rw[Xk];decide+kernel
def aiF:Code:=.cond (.tmp 6) (.region 3 Dm ο) (.seq (.region 4 gA ο) .ret)
def F6:Code:=.seq (.region 1 k7 ν) aiF
structure F7(K:List Frame→υ→Prop):Prop where
 next:∀{fs aV:List Frame}{s s1:υ}{τ:Nat→dM→Nat}{d:Nat},K fs s→(aF ah fs).run ah (tp s τ d)=.ok aV s1→K aV s1
 tp:∀{fs:List Frame}{s:υ}{τ:Nat→dM→Nat}{d:Nat},K fs (tp s τ d)→K fs s
theorem Xl(hE:nL ah E):F7 (fu ah (λ_=>ο) E):=⟨λh hr=>h.next hE (WY _) hr,λh=>fu.PM hE h⟩
structure F8(K:List Frame→υ→Prop):Prop where
 next:∀{fs aV:List Frame}{s s1:υ}{d:Nat},K fs s→(aF ah fs).run ah (tp s (λ_ _=>0) d)=.ok aV s1→K aV s1
 tp:∀{fs:List Frame}{s:υ}{τ:Nat→dM→Nat}{d:Nat},K fs (tp s τ d)→K fs s
theorem F7.z(h:F7 K):F8 K:=⟨λk hr=>h.next k hr,h.tp⟩
theorem PT(h:tS ah bG K):F8 K:=⟨λk hr=>h.next k (Bb _) hr,h.tp⟩
theorem few(hE:nL ah E)(hR:∀f cs s,f.mode=.run→¬E (f::cs) s){cs}{s}(h:fu ah bG E (Frame.enter ah 131 x .normal::cs) s):x.size≤8:=by
 rw[J2]at h;have h1:=h.next hE (τ:=λ_ _=>0) (d:=0) (Bb bG) F5
 have h2:=h1.next hE (τ:=λ_ _=>0) (d:=0) (Bb bG) s_reg
 have h3:=h2.next hE (τ:=λ_ _=>0) (d:=0) (Bb bG) (oC (o:=F1) rfl rfl rfl)
 apply Nat.le_of_not_lt;intro hlt;obtain⟨aV,s1,hr⟩:=PS hR h3 rfl (Bb bG) 0
 have hx := J6 (T := (x ++ Δ (8 - x.size) undef).setIfInBounds 8 (.bool ν)) (ops := yZ) (i := 1) (l := [2]) (k := [.code F6]) (cs := cs) (s := tp s (fun _ _ => 0) 0) (s' := tp s (fun _ _ => 0) 0) (h := .stuck "an address expected (no nilCheck in front?)") (o := F2) rfl (by
  show (jv yZ ((x++Δ (8-x.size) undef).setIfInBounds 8 (.bool ν)) 0==θ ν)=ν;have:((x++Δ (8-x.size) undef).setIfInBounds 8 (.bool ν))[8]?=θ (.bool ν):=by rw[CU (by simp;omega)]
  show ((match((x++Δ (8-x.size) undef).setIfInBounds 8 (.bool ν))[8]? with|some (sw b)=>θ b|_=>η)==θ ν)=ν;rw[this];rfl) rfl
 cases hr.symm.trans hx
def T1(x:Array ay):Array Value:=x++Δ (8-x.size) undef
def T2(x:Array ay):Array Value:=(T1 x).setIfInBounds 7 (.func (.func 143) ((#[.tmp 0,.tmp 1,.tmp 2,.tmp 3,.tmp 4,.tmp 5,.tmp 6,.tmp 7]:Array Operand).map (c8 (T1 x))) ((#[]:Array Operand).map (c8 (T1 x))))
theorem PU(hsz:x.size≤8):(T1 x).size=8:=by simp[T1];omega
theorem PV(hsz:x.size≤8):(T2 x).size=8:=by simp[T2,PU hsz]
theorem PW(hK:F8 K)(hsz:x.size≤8){cs}{s}(h:K (Frame.enter ah 131 x .normal::cs) s):K (fr (T2 x) [.code F6]::cs) s:=by
 rw[J2]at h;have h1:=hK.next (d:=0) h F5
 have h2:=hK.next (d:=0) h1 s_reg
 have h3:=hK.next (d:=0) h2 (oC (o:=F1) rfl rfl rfl)
 have hT:(x++Δ (8-x.size) undef).size=8:=by simp;omega
 have y3:(x++Δ (8-x.size) undef).setIfInBounds 8 (.bool ν)=x++Δ (8-x.size) undef:=by
  apply Jo;intro i;by_cases e:i=8
  .subst e;rw[gx (by simp[hT]),gx (by omega)]
  .rw[lZ (jx e)]
 have aiG:K (fr (x++Δ (8-x.size) undef) (.inRegion yZ [1,2]::[.code F6])::cs) (tp s (λ_ _=>0) 0):=by have:=y3;rw[←this];exact h3
 have h4:=hK.next (d:=0) aiG (aiC (o:=F2) rfl (by
  show (jv yZ (x++Δ (8-x.size) undef) 0==θ ν)=ο;show ((match(x++Δ (8-x.size) undef)[8]? with|some (sw b)=>θ b|_=>η)==θ ν)=ο;rw[gx (by omega)];rfl))
 have h5:=hK.next (d:=0) h4 (oC (o:=F3) rfl rfl rfl)
 have h6:=hK.next (d:=0) h5 J3
 exact hK.tp h6
end
variable{T x:Array ay}{cs:List Frame}{K:List Frame->υ->Prop}{s:υ}
theorem Xm s:∃v,(aF ah (fr T [.inRegion Dm [1]]::cs)).run ah s=.halt (.panic v) s:=by refine⟨_,J6 (o:=J0) rfl rfl rfl⟩
section
variable {E:List Frame->υ->Prop}
theorem Xn(hK:F7 K)(hT:T.size=8)(h:K (fr T [.code F6]::cs) s):∃aM s',K (fr aM [.inRegion Dm [1]]::cs) s'/\s'.heap=s.heap.push (.cells (T.getD 7 undef).cells 3):=by
 have h1:=hK.next (τ:=λ_ _=>1) (d:=0) h F5
 have h2:=hK.next (τ:=λ_ _=>1) (d:=0) h1 Xj
 rw[show kY (ah.follows .mixedOrders) k7 ((tp (tp s (λ_ _=>1) 0) (λ_ _=>1) 0).tape (tp (tp s (λ_ _=>1) 0) (λ_ _=>1) 0).drawn (.order 131 1))=[1,0]from aiD]at h2;have h3:=hK.next (τ:=λ_ _=>1) (d:=0) h2 (oC (o:=Bf) rfl rfl rfl)
 have h4:=hK.next (τ:=λ_ _=>1) (d:=0) h3 (oC (o:=Be) rfl rfl rfl)
 have h5:=hK.next (τ:=λ_ _=>1) (d:=0) h4 J3
 have hb:((T.setIfInBounds 6 (.bool ο)).setIfInBounds 6 (.bool ν)).getD 6 undef=.bool true:=by simp[oZ];intro h6;omega
 have h6:=hK.next (τ:=λ_ _=>1) (d:=0) h5 (s_cond (x:=ν) hb)
 have h7:=hK.next (τ:=λ_ _=>1) (d:=0) h6 s_reg
 have h8:=hK.next (τ:=λ_ _=>1) (d:=0) h7 (oC (o:=JZ) rfl rfl rfl)
 have kG:((T.setIfInBounds 6 (.bool ο)).setIfInBounds 6 (.bool ν)).getD 7 undef=T.getD 7 undef:=by simp[oZ,lZ]
 refine⟨_,_,h8,?_⟩;rw[<-kG];rfl
theorem Xo{Q:ay->Array Obj->Prop}(h:jc ah (o6 ah Q) (Frame.enter ah 131 x .normal::cs) s):False:=by
 have hR:∀(f:Frame) cs s,f.mode=.run->¬o6 ah Q (f::cs) s:=by
  rintro f cs s hm ⟨fr,e,hm',_⟩;cases e
  rw[hm]at hm';cases hm'
 have hx:=few (sx _ _) hR (h.WX (bG:=λ_=>ο));obtain⟨aM,s',h2,_⟩:=Xn (Xl (sx _ _)) (PV hx) (PW (Xl (sx _ _)).z hx h.WX);obtain⟨aV,s1,hr⟩:=PS hR h2 rfl (WY s'.tape) s'.drawn;obtain⟨v,hv⟩:=Xm (T:=aM) (cs:=cs) (tp s' s'.tape s'.drawn);cases hr.symm.trans hv
end
variable{ops:Array Oper}{T x:Array ay}{cs:List Frame}{K:List Frame->υ->Prop}{k:List kD}{l:List Nat}{i j:Nat}{o:Oper}{s s' w:υ}
theorem Xp(hop:o.op=.makeSlice 194 (.tmp 2) (.tmp 2))(h2:c8 T (.tmp 2)=.int .i64 1):(aL (c8 T) o).run ah w=.ok (.value (.slice (θ ⟨w.heap.size,0,η⟩) 1 1)) (w.alloc (.cells (fo #[.slice η 0 0] 1) 189)):=by
 have eb:Tryz.t189.bytes=24:=by kernel_rfl
 have hm:=run_make (P:=ah) w 194 189 Tryz.t189 (.slice η 0 0) Tryz.underlying194 Tryz.type189 (by kernel_rfl) .i64 .i64 (1:Int) (1:Int) (by omega) (by omega) (by rw[eb];omega) (by omega);have es:Tryz.t189.size=1:=by kernel_rfl
 rw[es]at hm;unfold aL;simp only[hop,h2];simp[go_sem,hm,Value.cells]
theorem Xq:ah.funcs[143]?=θ Tryz.f143:=by show (mask _ _ _ _).funcs[143]?=_;rw[Bc,Tryz.func143];rfl
theorem aiH{f}(ho:ops[i]?=θ o)(hg:o.guard=η)(hr:(aL (c8 T) o).run ah s=.ok (.enter f x) s'):(aF ah (fr T (.inRegion ops (i::l)::k)::cs)).run ah s=.ok (Frame.enter ah f x .normal::fr T (.inRegion ops (i::l)::k)::cs) s':=by
 have hw:cF o (jv ops T)=true:=by simp[cF,hg]
 have:aF ah (fr T (.inRegion ops (i::l)::k)::cs)=(aL (c8 T) o).bind λn=>jQ ah (fr T (.inRegion ops (i::l)::k)) cs n:=by unfold aF;show (match ops[i]? with|some o=>(if cF o (jv ops T)then _ else _)|none=>_)=_;rw[ho];simp only[hw,dF,J5];rfl
 rw[this,fq,hr];rfl
theorem Xr{args}{ts:Array Θ}(hop:o.op=.call {callee:=.value (.func 143),args:=args,argTypes:=ts }):(aL (c8 T) o).run ah w=.ok (.enter 143 (args.map (c8 T))) w:=by
 have he:c8 T=(⟨T,[]⟩:Act).eval:=funext λx=>by cases x<;>rfl
 rw[he];exact Go.Conc.run_call_body (P:=ah) (a:=⟨T,[]⟩) hop Xq (by kernel_rfl) (by kernel_rfl)
section
variable {E:List Frame->υ->Prop}{bG:dM->Bool}
theorem Xs{a b}(hj:j≠6):c8 ((T.setIfInBounds 6 a).setIfInBounds 6 b) (.tmp j)=c8 T (.tmp j):=by show ((T.setIfInBounds 6 a).setIfInBounds 6 b).getD j undef=T.getD j undef;simp[oZ,lZ (jx hj)]
theorem aiI(hK:F8 K)(hT:T.size=8)(h2:c8 T (.tmp 2)=.int .i64 1)(h:K (fr T [.code F6]::cs) s):∃aM s0,K (Frame.enter ah 143 #[c8 T (.tmp 0),c8 T (.tmp 1),.int .i64 0,.int .i64 1] .normal::fr aM [.inRegion gA [7,8,9],.code .ret]::cs) s0/\aM.size=8/\c8 aM (.tmp 3)=.slice (θ ⟨s.heap.size+3,0,η⟩) 1 1 /\
   s0.heap=((((((s.heap.push (.cells #[] 189)).push (.cells #[] 191)).push (.cells #[] 3)).push (.cells (fo #[.slice η 0 0] 1) 189)).push (.cells #[] 194)).push (.cells #[] 217)).push (.cells #[] 3):=by
 have h1:=hK.next (d:=0) h F5
 have jS:=hK.next (d:=0) h1 Xj
 rw[show kY (ah.follows .mixedOrders) k7 ((tp (tp s (λ_ _=>0) 0) (λ_ _=>0) 0).tape (tp (tp s (λ_ _=>0) 0) (λ_ _=>0) 0).drawn (.order 131 1))=[0,1]from aiE]at jS;have h3:=hK.next (d:=0) jS (oC (o:=Be) rfl rfl rfl)
 have h4:=hK.next (d:=0) h3 (oC (o:=Bf) rfl rfl rfl)
 have h5:=hK.next (d:=0) h4 J3
 have hb:((T.setIfInBounds 6 (.bool ν)).setIfInBounds 6 (.bool ο)).getD 6 undef=.bool false:=by simp[oZ];intro h6;omega
 have h6:=hK.next (d:=0) h5 (s_cond (x:=ο) hb)
 have h7:=hK.next (d:=0) h6 F5
 have h8:=hK.next (d:=0) h7 s_reg
 have h9:=hK.next (d:=0) h8 (oC rfl rfl rfl)
 have h10:=hK.next (d:=0) h9 (oC rfl rfl rfl)
 have h11:=hK.next (d:=0) h10 (oC rfl rfl rfl)
 have h12:=hK.next (d:=0) h11 (oC rfl rfl (Xp rfl ((Xs (T:=T) (by decide)).trans h2)))
 have F9:=hK.next (d:=0) h12 (oC rfl rfl rfl)
 have aiJ:=hK.next (d:=0) F9 (oC rfl rfl rfl)
 have aiK:=hK.next (d:=0) aiJ (oC rfl rfl rfl)
 have aiL:=hK.next (d:=0) aiK (aiH rfl rfl (Xr rfl))
 have ex:∀v:ay,(#[.tmp 0,.tmp 1,.const (.int .i64 0),.const (.int .i64 1)]:Array Operand).map (c8 (((T.setIfInBounds 6 (.bool ν)).setIfInBounds 6 (.bool ο)).setIfInBounds 3 v))=#[c8 T (.tmp 0),c8 T (.tmp 1),.int .i64 0,.int .i64 1]:=by
  intro v;have e:∀j,j≠3->j≠6->c8 (((T.setIfInBounds 6 (.bool ν)).setIfInBounds 6 (.bool ο)).setIfInBounds 3 v) (.tmp j)=c8 T (.tmp j):=λj h3 h6=>by rw[<-Xs (T:=T) (a:=.bool ν) (b:=.bool ο) h6];show (((T.setIfInBounds 6 (.bool ν)).setIfInBounds 6 (.bool ο)).setIfInBounds 3 v).getD j undef=((T.setIfInBounds 6 (.bool ν)).setIfInBounds 6 (.bool ο)).getD j undef;simp[oZ,lZ (jx h3)]
  rw[<-e 0 (by decide) (by decide),<- e 1 (by decide) (by decide)];simp only[List.map_toArray,List.map_cons,List.map_nil];rfl
 refine⟨_,_,ex _▸aiL,?_,?_,rfl⟩
 .simp[Dn,gA,mh,Bf,Be,hT]
 .show ((((T.setIfInBounds 6 (.bool ν)).setIfInBounds 6 (.bool ο)).setIfInBounds 3 _).getD 3 undef)=_;simp[oZ,hT,tp]
end
end Lo
end Go.Proofs.YtfphigmeppdocaaGreatDoor
namespace Go.Proofs.YtfphigmeppdocaaGreatDoor
namespace fV
open Go.Conc Go.ConcN
open Go.ConcR (KK wgBlock WgAt stA smA rd wr mk Payload DC0)
variable{x:MemAct}{y:MemOp}{B' i k q r:Nat}
def mj(B:Nat)(x:MemAct):Prop:=∀a,x.touch?=θ a->a.loc.low B
theorem mj.mono{B}(h:B<=B')(hx:mj B x):mj B' x:=λa ha=>Loc.low_mono h (hx a ha)
theorem J7{B}{t u:gS}(h:∀op∈t,mj B op.act)(hu:∀op∈u,mj B op.act):∀op∈t++u,mj B op.act:=λop hop=>(Jq.1 hop).elim (h op) (hu op)
theorem PX{B}(h:x.touch?=η):mj B x:=λa ha=>by rw[h]at ha;cases ha
theorem Ga{t}{a}(h:qV t i=θ a):∃op,t[i]?=θ op/\op.act.touch?=θ a:=touch_of h
section
variable {Sh Bh:Loc->Prop}{Own Dp Rd Dq:Nat->Loc->Prop}{t u:gS}{j J B:Nat}
theorem aiM(h:CT Sh Own Rd t j)(hS:∀l,Sh l->Bh l)(xb :∀i a,qV t i=θ a->Bh a.loc->Sh a.loc)(b8:∀k,1<=k->k<=j->∀l,Dp k l->Own k l\/∀i a,qV t i=θ a->a.loc≠l)(hR:∀k,1<=k->k<=j->∀l,Dq k l->Rd k l)(J8 :∀k,1<=k->k<=j->∀l,Own k l->Dp k l)(Gb :∀k,1<=k->k<=j->∀l,Rd k l->Dq k l):CT Bh Dp Dq t j:=by
 refine⟨λi op x ho hx hs=>h.quiet i op x ho hx (xb i x (by rw[N6 ho];exact hx) hs),λk k1 kj l hl=>?_,λk k1 kj l hl=>h.rd k k1 kj l (hR k k1 kj l hl),
  λl hs hl=>h.free l (λx=>hs (hS l x)) λk k1 kj=>⟨λx=>(hl k k1 kj).1 (J8 k k1 kj l x),λx=>(hl k k1 kj).2 (Gb k k1 kj l x)⟩,
  λl hs hl=>h.mine l (λx=>hs (hS l x)) λk k1 kj x=>hl k k1 kj (J8 k k1 kj l x),h.nr,h.gs⟩
 rcases b8 k k1 kj l hl with h1|h1
 .exact h.own k k1 kj l h1
 .exact λi a ha e=>absurd e (h1 i a ha)
structure e4(Sh:Loc->Prop)(Own Rd:Nat->Loc->Prop)(J j B:Nat)(t:gS):Prop where
 ct:CT Sh Own Rd t j
 kn:∀i x g,t.g? i=θ g->g≠0->g<=J->qV t i=θ x->¬Sh x.loc->Knows t 0 i
 ov:∀i g,t.g? i=θ g->g≠0->g<=J->t.counts i->∃q,t.g? q=θ 0/\Fv t i q
 seen:∀op∈t,mj B op.act
theorem e4.mono(h:e4 Sh Own Rd J j B t)(hB:B<=B'):e4 Sh Own Rd J j B' t:=⟨h.ct,h.kn,h.ov,λop hop=>(h.seen op hop).mono hB⟩
theorem e4.fresh(h:e4 Sh Own Rd J j B t){a}(ha:qV t i=θ a):a.loc.low B:=by obtain⟨op,ho,hx⟩:=Ga ha;exact h.seen op (mem_of_getElem? ho) a hx
theorem e4.grow(h:e4 Sh Own Rd J j B t)(hS:∀l,Sh l->Bh l)(xb :∀i a,qV t i=θ a->Bh a.loc->Sh a.loc)(b8:∀k,1<=k->k<=j->∀l,Dp k l->Own k l\/∀i a,qV t i=θ a->a.loc≠l)(hR:∀k,1<=k->k<=j->∀l,Dq k l->Rd k l)(J8 :∀k,1<=k->k<=j->∀l,Own k l->Dp k l)(Gb :∀k,1<=k->k<=j->∀l,Rd k l->Dq k l):e4 Bh Dp Dq J j B t:=
 ⟨aiM h.ct hS xb b8 hR J8 Gb,λi x g h1 h2 h3 h4 h5=>h.kn i x g h1 h2 h3 h4 λy=>h5 (hS _ y),h.ov,h.seen⟩
theorem J9(h:∀i x g,t.g? i=θ g->g≠0->g<=J->qV t i=θ x->¬Sh x.loc->Knows t 0 i)(hu:∀op∈u,op.g=0\/J<op.g\/op.act.touch?=η):∀i x g,(t++u).g? i=θ g->g≠0->g<=J->qV (t++u) i=θ x->¬Sh x.loc->Knows (t++u) 0 i:=by
 intro i x g hg hne hJ hx hs;obtain⟨op,ho,sB⟩:=Ga hx;rcases getElem?_append_cases ho with⟨hi,ho'⟩|⟨_,xd⟩
 .exact(h i x g (by rw[<-g?_old (u:=u) hi];exact hg) hne hJ (by rw[N6 ho'];exact sB) hs).app u
 .have hgo:op.g=g:=by simpa[su,ho]using hg
  rcases hu op xd with h0|h0|h0
  .omega
  .omega
  .rw[h0]at sB;cases sB
theorem Ka(h:∀i g,t.g? i=θ g->g≠0->g<=J->t.counts i->∃q,t.g? q=θ 0/\Fv t i q)(hu:∀op∈u,op.g=0\/J<op.g\/op.act.touch?=η):∀i g,(t++u).g? i=θ g->g≠0->g<=J->(t++u).counts i->∃q,(t++u).g? q=θ 0/\Fv (t++u) i q:=by
 intro i g hg hne hJ hc;obtain⟨x,hx,hx2⟩:=hc;obtain⟨op,ho,sB⟩:=touch_of hx;rcases getElem?_append_cases ho with⟨hi,ho'⟩|⟨_,xd⟩
 .obtain⟨q,hq,hb⟩:=h i g (by rw[<-g?_old (u:=u) hi];exact hg) hne hJ ((counts_old hi).1 ⟨x,hx,hx2⟩);have aiN:q<t.size:=by unfold su at hq;obtain⟨z,hz,_⟩:=kZ.1 hq;exact lt_size_of_getElem? hz
  exact⟨q,by rw[g?_old aiN];exact hq,hb_app u hb⟩
 .have hgo:op.g=g:=by simpa[su,ho]using hg
  rcases hu op xd with h0|h0|h0
  .omega
  .omega
  .rw[h0]at sB;cases sB
theorem e4.app0(A:C0 Sh Own Rd)(h:e4 Sh Own Rd J j B t)(hu:∀op∈u,Ok0 Sh Own Rd j op)(hl:∀op∈u,mj B op.act):e4 Sh Own Rd J j B (t++u):=
 ⟨h.ct.app0 A hu,J9 h.kn λop hop=>.inl (hu op hop).1,Ka h.ov λop hop=>.inl (hu op hop).1,J7 h.seen hl⟩
theorem e4.appW(A:C0 Sh Own Rd)(h:e4 Sh Own Rd J j B t)(k1:J<k)(kj:k<=j)(hu:∀op∈u,OkW Sh Own Rd k op)(hl:∀op∈u,mj B op.act):e4 Sh Own Rd J j B (t++u):=
 ⟨h.ct.appW A (by omega) kj hu,J9 h.kn λop hop=>.inr (.inl (by rw[(hu op hop).1];exact k1)),Ka h.ov λop hop=>.inr (.inl (by rw[(hu op hop).1];exact k1)),J7 h.seen hl⟩
theorem e4.mute(A:C0 Sh Own Rd)(h:e4 Sh Own Rd J j B t)(k1:1<=k)(kj:k<=j)(hg:∀op∈u,op.g=k)(hn:∀op∈u,op.act.touch?=η):e4 Sh Own Rd J j B (t++u):=
 ⟨h.ct.appW A k1 kj λop hop=>⟨hg op hop,λx hx=>by rw[hn op hop]at hx;cases hx⟩,J9 h.kn λop hop=>.inr (.inr (hn op hop)),Ka h.ov λop hop=>.inr (.inr (hn op hop)),J7 h.seen λop hop=>PX (hn op hop)⟩
theorem e4.fork(A:C0 Sh Own Rd)(h:e4 Sh Own Rd J j B t){x:MemOp}(hx:x.g=0/\x.act=.go (j+1))(hy:y.g=j+1/\y.act=.start)(h0:wQ t 0=0):e4 Sh Own Rd J (j+1) B (t++#[x,y]):=by
 have hn:∀op∈#[x,y],op.act.touch?=none:=by
  intro op hop;simp only[List.mem_toArray,List.mem_cons,List.not_mem_nil,Fq]at hop;rcases hop with rfl|rfl
  .rw[hx.2];rfl
  .rw[hy.2];rfl
 exact⟨h.ct.fork A hx hy h0,J9 h.kn λop hop=>.inr (.inr (hn op hop)),Ka h.ov λop hop=>.inr (.inr (hn op hop)),J7 h.seen λop hop=>PX (hn op hop)⟩
structure Rel(Sh:Loc->Prop)(a:bP)(t:gS)(k r:Nat):Prop where
 xe:RelBy a t k r
 late:∀i x,r<i->t.g? i=θ k->qV t i=θ x->Sh x.loc
theorem Rel.app{a}(h:Rel Sh a t k r)(hr:RelBy a (t++u) k r)(hu:∀op∈u,op.g=k->∀x,op.act.touch?=θ x->Sh x.loc):Rel Sh a (t++u) k r:=by
 refine⟨hr,λi x hi hg hx=>?_⟩;obtain⟨op,ho,sB⟩:=Ga hx;rcases getElem?_append_cases ho with⟨hlt,ho'⟩|⟨_,xd⟩
 .exact h.late i x hi (by rw[<-g?_old (u:=u) hlt];exact hg) (by rw[N6 ho'];exact sB)
 .exact hu op xd (by simpa[su,ho]using hg) x sB
theorem e4.back(h:e4 Sh Own Rd J j B t){a}{T0}(hn:∀i,T0<=i->t.act? i≠θ (.mark (.release a)))(hq:t.act? q=θ (.mark (.acquire a)))(hg:t.g? q=θ 0)(hh:t.heard q)(hr:∀k,J<k->k<=j->∃r,T0<=r/\Rel Sh a t k r/\r<q):e4 Sh (λ_ _=>False) (λ_ _=>False) j j B t:=by
 have Kb:∀k r,T0<=r->Rel Sh a t k r->r<q->Fv t r q:=λk r h0 hr hrq=>.single (.inr ⟨.marked hrq (.inr hr.xe.act) hq (λk hk _=>hn k (by omega)),hr.xe.heard,hh⟩);obtain⟨bG,aiO,aiP⟩:∃z,t[q]?=θ z/\z.g=0:=by unfold su at hg;obtain⟨z,hz,e⟩:=kZ.1 hg;exact⟨z,hz,e⟩
 have before:∀i k r,T0<=r->Rel Sh a t k r->r<q->t.g? i=θ k->i<=r->Fv t i q:=by
  intro i k r h0 hr hrq xg hle;rcases Nat.lt_or_ge i r with hlt|hge
  .exact .trans (.single (.inl ⟨hlt,k,xg,hr.xe.g⟩)) (Kb k r h0 hr hrq)
  ·(obtain rfl:i=r:=by omega);exact Kb k i h0 hr hrq
 have all:∀i x,qV t i=θ x->¬Sh x.loc->Knows t 0 i:=by
  intro i x hx hs;obtain⟨op,ho,sB⟩:=Ga hx;have xg:t.g? i=θ op.g:=by simp[su,ho]
  by_cases h0:op.g=0
  .have:=knows_own ho;rwa[h0]at this
  .by_cases hJ:op.g<=J
   .exact h.kn i x op.g xg h0 hJ hx hs
   .obtain⟨r,PY,hr,hrq⟩:=hr op.g (by omega) (h.ct.gs i op ho);have hle:=Nat.le_of_not_lt λhlt=>hs (hr.late i x hlt xg hx);exact⟨q,bG,aiO,aiP,.inr (before i op.g r PY hr hrq xg hle)⟩
 refine⟨⟨h.ct.quiet,λk _ _ l hl=>hl.elim,λk _ _ l hl=>hl.elim,λl hs _ i x hx e=>all i x hx (e▸hs),λl hs _ i x hx e _=>all i x hx (e▸hs),h.ct.nr,h.ct.gs⟩,λi x g _ _ _ hx hs=>all i x hx hs,λi g xg hne hj hc=>?_,h.seen⟩;by_cases hJ:g<=J
 .exact h.ov i g xg hne hJ hc
 .obtain⟨r,PY,hr,hrq⟩:=hr g (by omega) hj;have hle:=Nat.le_of_not_lt λhlt=>hr.xe.after i hlt xg hc;exact⟨q,hg,before i g r PY hr hrq xg hle⟩
theorem e4.start(h:e4 Sh (λ_ _=>False) (λ_ _=>False) j j B t):t.HandedOver:=λi g hg hne hc=>by
 refine h.ov i g hg hne ?_ hc;obtain⟨x,hx,_⟩:=hc;obtain⟨op,ho,_⟩:=touch_of hx;have:op.g=g:=by simpa[su,ho]using hg
 have:=h.ct.gs i op ho;omega
theorem PZ:C0 Sh (λ_ _=>False) (λ_ _=>False):=⟨λ_ _ _ h=>h.elim,λ_ _ _ h=>h.elim,λ_ _ h=>h.elim,λ_ _ h=>h.elim⟩
theorem e4.nil Sh B:e4 Sh (λ_ _=>False) (λ_ _=>False) 0 0 B #[]:=
 ⟨⟨λi op x h=>by simp at h,λ_ _ _ _ h=>h.elim,λ_ _ _ _ h=>h.elim,λl _ _ i a ha=>by simp[qV,OU]at ha,λl _ _ i a ha=>by simp[qV,OU]at ha,
  λsaid=>by rintro⟨i,j,_,⟨a,b,ha,_⟩,_⟩;simp[OU]at ha,λi op h=>by simp at h⟩,λi x g hg=>by simp[su]at hg,λi g hg=>by simp[su]at hg,by simp⟩
end
end fV
end Go.Proofs.YtfphigmeppdocaaGreatDoor
namespace Go.Proofs.YtfphigmeppdocaaGreatDoor
namespace fV
open Go.Conc Go.ConcN
open Go.ConcR (KK wgBlock WgAt stA smA rd wr mk Payload DC0 deafBehind_cons deafBehind_one)
def mm(ag:Nat->Prop):Loc->Prop:=λl=>∃a,l=.cell a/\ag a.block
def Ends(P:Program)(Post:ay->υ->Prop)(m:Machine)(t:gS):Prop:=
 ∃N last o w' t',runNT P (N+1) m t=(.ended o w',t')/\jN P N m=.next last/\step P last=.ended o w'/\Conc.Good P Post last o w' t'
theorem Ends.step{P}{Post}{m m'}{t}{ops}(hs:stepT P m=(.next m',ops))(h:Ends P Post m' (t++ops)):Ends P Post m t:=by
 obtain⟨N,last,o,w',t',h1,h2,h3,h4⟩:=h;refine⟨N+1,last,o,w',t',?_,?_,h3,h4⟩
 .rw[runNT];simp only[hs];exact h1
 .rw[jN];simp only[Go.step,hs];exact h2
structure Fr(P:Program)(ag:Nat->Prop)(gs:Array Goroutine)(q:Nat->Nat)(w:υ)(t:gS):Prop where
 lv:∀i g,0<i->gs[i]?=θ g->QuitsD P (q i) (wQ t i) g
 above:∀j,gs.size<=j->wQ t j=0
 tr:e4 (mm ag) (λ_ _=>False) (λ_ _=>False) (gs.size- 1) (gs.size- 1) w.heap.size t
 hears:wQ t 0=0
 sb:∀b,ag b->b<w.heap.size
def P3(ag:Nat->Prop)(B:Nat)(e:eU):Prop:=(∀x,(si e).touch?=θ x->¬mm ag x.loc)/\e.loc≠.mark .disable/\e.loc≠.mark .enable/\mj B (si e)
def tT(ag:Nat->Prop)(w w':υ)(es:Array eU):Prop:=w.heap.size<=w'.heap.size/\∀e∈es,P3 ag w'.heap.size e
section
variable {P:Program}{ag:Nat->Prop}{gs:Array Goroutine}{q:Nat->Nat}{w w':υ}{t:gS}{a a':Goroutine}{sl:Option (Nat×Nat)}{es:Array eU}
theorem ofEvents_g{g}{fn}{pos}{es}:∀op∈MemOp.ofEvents g fn pos es,op.g=g:=λop hop=>by obtain⟨e,_,rfl⟩:=kE hop;rfl
theorem Fr.at(h:Fr P ag gs q w t)d:Fr P ag gs q (w.at d) t:=⟨h.lv,h.above,h.tr,h.hears,h.sb⟩
theorem Dr(h0:gs[0]?=θ a)(hr:a.status=.running)(h:Fr P ag gs q w t)sl:(∃d sl',stepT P (dG gs w sl)=runT P (dG gs (w.at d) sl') 0) \/
  ∃gs' q' d sl' ops,stepT P (dG gs w sl)=(.next (dG gs' (w.at d) sl'),ops)/\gs'[0]?=θ a/\gs'.size=gs.size/\Fr P ag gs' q' (w.at d) (t++ops)/\dN gs.size q'<dN gs.size q:=by
 have P4:∀g∈gs,awake g:=by
  intro g hg;obtain⟨i,hi,rfl⟩:=Array.mem_iff_getElem.1 hg;rcases Nat.eq_zero_or_pos i with rfl|hpos
  ·(have:gs[0]=a:=by simpa[qT hi]using h0);rw[this];exact awake_of (.inl hr)
  .exact awake_of ((h.lv i _ hpos (qT hi)).status.elim .inl λx=>.inr (.inr x))
 obtain⟨i,g,d,sl',hi,hg,hst⟩:=crowd_pick (P:=P) (w:=w) (sl:=sl) P4 ⟨0,a,h0,hr⟩;rcases Nat.eq_zero_or_pos i with rfl|hpos
 .exact .inl ⟨d,sl',hst⟩
 .right;have hq:=h.lv i g hpos hi;have hi0:(i==0)=false:=by simp;omega
  have hlt:=(ξ.1 hi).1;cases hqi:q i with
  |zero=>rw[hqi]at hq;rw[hq.1]at hg;cases hg
  |succ k=>
   rw[hqi]at hq;rcases hq with⟨hf,_⟩|⟨_,g',es,hm,P5,vg⟩
   .rw[hf]at hg;cases hg
   (have xh:=yG (P:=P) (sl:=sl') (i:=i) hi (by rw[hi0];exact P5 (w.at d));(have hsz:((gs.map (sg P g g' (w.at d))).setIfInBounds i g').size=gs.size:=by simp);have hsum:dN gs.size (upd q i k)+(k+1)=dN gs.size q+k:=by have:=sumTo_upd q k id hlt;simpa[hqi]using this);(have hmem:∀op∈MemOp.ofEvents i g.frame.fn g.frame.place es,op.act.touch?=none:=by intro op hop;obtain⟨e,he,rfl⟩:=kE hop;exact touch_mute (hm e he));refine⟨_,upd q i k,d,sl',_,hst.trans xh,?_,hsz,⟨λj x hj hx=>?_,λj hj=>?_,?_,?_,h.sb⟩,by omega⟩
   ·(have hne:i≠0:=by omega);rw[lZ hne,NS,h0];simp[woken_run hr]
   .by_cases hji:i=j
    .subst hji;rw[CU (by simpa using hlt)]at hx;obtain rfl:=jP hx;rw[upd_same,FF];exact vg
    .rw[lZ hji,NS]at hx;obtain⟨y,hy,rfl⟩:=kZ.1 hx;have y4:=h.lv j y hj hy;rw[wP y4,upd_ne q k (jx hji),l6 t hji _ ofEvents_g];exact y4
   .rw[hsz]at hj;rw[l6 t (g':=i) (by omega) _ ofEvents_g];exact h.above j hj
   .rw[hsz];exact h.tr.mute PZ hpos (by omega) ofEvents_g hmem
   .rw[l6 t (g':=i) (by omega) _ ofEvents_g];exact h.hears
theorem Xt(h0:gs[0]?=θ a)(h:Fr P ag gs q w t)(hgo:bh P ν a w=.go a' w' es)(hd:tT ag w w' es)sl:∃gs' ops,runT P (dG gs w sl) 0=(.next (dG gs' w' sl),ops)/\gs'[0]?=θ a'/\gs'.size=gs.size/\Fr P ag gs' q w' (t++ops):=by
 have xh:=yG (P:=P) (sl:=sl) (i:=0) h0 (show bh P (0==0) a w=_ from hgo);have hsz:((gs.map (sg P a a' w')).setIfInBounds 0 a').size=gs.size:=by simp
 have hlt:=(ξ.1 h0).1;refine⟨_,_,xh,by simp[hlt],hsz,⟨λj x hj hx=>?_,λj hj=>?_,?_,?_,λb hb=>Nat.lt_of_lt_of_le (h.sb b hb) hd.1⟩⟩
 .have hne:0≠j:=by omega
  rw[lZ hne,NS]at hx;obtain⟨y,hy,rfl⟩:=kZ.1 hx;have y4:=h.lv j y hj hy;rw[wP y4,l6 t (by omega) _ ofEvents_g];exact y4
 .rw[hsz]at hj;rw[l6 t (g':=0) (by omega) _ ofEvents_g];exact h.above j hj
 .rw[hsz];refine(h.tr.mono hd.1).app0 PZ (λop hop=>?_) (λop hop=>?_)
  .obtain⟨e,he,rfl⟩:=kE hop;exact⟨rfl,λx hx=>.inr ⟨(hd.2 e he).1 x hx,λ_ _ _ hf=>hf,λ_ _ _ _ hf=>hf⟩⟩
  .obtain⟨e,he,rfl⟩:=kE hop;exact(hd.2 e he).2.2.2
 .rw[FF,deafBehind_still (λe he=>⟨(hd.2 e he).2.1,(hd.2 e he).2.2.1⟩)];exact h.hears
theorem Xu{Post}(hr:a.status=.running)(hstep:∀d,∃a' w' es,bh P ν a (w.at d)=.go a' w' es/\tT ag (w.at d) w' es /\
   ∀gs' q' sl' t',gs'[0]?=θ a'->gs'.size=gs.size->Fr P ag gs' q' w' t'->Ends P Post (dG gs' w' sl') t'):∀(M:Nat) (mo:Array Goroutine) (q:Nat->Nat) (d:Nat) (sl:Option (Nat×Nat)) (t:gS),dN mo.size q<=M->mo[0]?=θ a->mo.size=gs.size->Fr P ag mo q (w.at d) t->Ends P Post (dG mo (w.at d) sl) t:=by
 intro M;induction M with
 |zero=>
  intro mo q d sl t hM h0 hsz h;rcases Dr h0 hr h sl with⟨d',sl',hst⟩|⟨gs',q',d',sl',ops,_,_,_,_,hlt⟩
  .obtain⟨a',w',es,hgo,hd,hk⟩:=hstep d';obtain⟨gs',ops,hrun,h0',hs',nN⟩:=Xt h0 (h.at d') hgo hd sl';exact .step (hst.trans hrun) (hk gs' q sl' _ h0' (hs'.trans hsz) nN)
  .omega
 |succ M ih=>
  intro mo q d sl t hM h0 hsz h;rcases Dr h0 hr h sl with⟨d',sl',hst⟩|⟨gs',q',d',sl',ops,hst,h0',hs',nN,hlt⟩
  .obtain⟨a',w',es,hgo,hd,hk⟩:=hstep d';obtain⟨gs',ops,hrun,h0',hs',nN⟩:=Xt h0 (h.at d') hgo hd sl';exact .step (hst.trans hrun) (hk gs' q sl' _ h0' (hs'.trans hsz) nN)
  .exact .step hst (ih gs' q' d' sl' _ (by rw[hs'];omega) h0' (hs'.trans hsz) nN)
theorem Kc{Post}{Stop}:∀(n:Nat) (gs:Array Goroutine) (a:Goroutine) (q:Nat->Nat) (w:υ) (sl:Option (Nat×Nat)) (t:gS),
  gs[0]?=θ a->Fr P ag gs q w t->Goes P ν AtRel (tT ag) Stop n a w ->
  (∀gs' a' q' w' sl' t',gs'[0]?=θ a'->gs'.size=gs.size->Fr P ag gs' q' w' t'->Stop a' w'->Ends P Post (dG gs' w' sl') t')->Ends P Post (dG gs w sl) t:=by
 intro n;induction n with
 |zero=>exact λgs a q w sl t h0 hF hG hk=>hk gs a q w sl t h0 rfl hF (hG w (atRel_refl w))
 |succ n ih=>
  intro gs a q w sl t h0 hF hG hk;rcases hG with hstop|⟨hr,hstep⟩
  .exact hk gs a q w sl t h0 rfl hF (hstop w (atRel_refl w))
  .refine Xu (w:=w) (gs:=gs) hr (λd=>?_) (dN gs.size q) gs q w.drawn sl t (Nat.le_refl _) h0 rfl hF;have hs:=hstep (w.at d) ⟨d,rfl⟩;cases hgo:bh P ν a (w.at d)with
   |go a' w' es=>
    rw[hgo,goes_go]at hs;exact⟨a',w',es,rfl,hs.1,λgs' q' sl' t' h0' hs' nN=>ih gs' a' q' w' sl' t' h0' nN hs.2 λP6 a2 q2 w2 P7 t2 x1 x2 x3 iy=>hk P6 a2 q2 w2 P7 t2 x1 (x2.trans hs') x3 iy⟩
   |_=>rw[hgo]at hs;exact hs.elim
end
theorem aiQ P a w:Fr P (λ_=>False) #[a] (λ_=>0) w #[]:=
 ⟨λi g hi hg=>by
  have:i<1:=by simpa using(ξ.1 hg).1
  omega,λ_ _=>rfl,e4.nil _ _,rfl,λ_ h=>h.elim⟩
end fV
end Go.Proofs.YtfphigmeppdocaaGreatDoor
namespace Go.Proofs.YtfphigmeppdocaaGreatDoor
namespace fV
open Go.Conc Go.ConcN
open Go.ConcR (KK wgBlock WgAt stA smA rd wr mk Payload DC0 Bk g_of_ofEvents again_blocked)
def gB:Nat->Loc->Prop:=λ_ _=>False
structure q5(Wg:Nat)(w w₁:υ):Prop where
 same:∀b,b≠Wg->w₁.heap[b]?=w.heap[b]?
 size:w₁.heap.size=w.heap.size
section
variable [u5]
structure P8(Wg C:Nat)(w w₁:υ):Prop where
 same:∀b,b≠Wg->b≠C->w₁.heap[b]?=w.heap[b]?
 size:w₁.heap.size=w.heap.size
 pay:PayAt C 1 w->PayAt C 1 w₁
theorem q5.c{Wg C}{w w₁}(h:q5 Wg w w₁)(hC:C≠Wg):P8 Wg C w w₁:=⟨λb h1 _=>h.same b h1,h.size,λ⟨cs,h1,h2⟩=>⟨cs,(h.same C hC).trans h1,h2⟩⟩
structure Ds(Wg:Nat)(w w':υ):Prop where
 out:w'.os=w.os/\w'.output=w.output/\w'.tape=w.tape
 size:w.heap.size<=w'.heap.size
 wg:w'.heap[Wg]?=w.heap[Wg]?
structure Dt(ag:Nat->Prop)(Wg B:Nat)(e:eU):Prop where
 tch:∀x,(si e).touch?=θ x->¬mm ag x.loc
 dis:e.loc≠.mark .disable
 en:e.loc≠.mark .enable
 rel:e.loc≠.mark (.release (stA Wg))
 low:mj B (si e)
structure sC(P:Program)(ag:Nat->Prop)(ty:Θ)(Wg C Low:Nat) where
 X:Type
 lt:X->X->Prop
 vr:X->Goroutine->υ->Prop
 Fin:ay->υ->Prop
 acc:∀{x g w},vr x g w->Acc lt x
 run:∀{x g w},vr x g w->g.status=.running
 stay:∀{x g w w₁},vr x g w->q5 Wg w w₁->RW ty Wg C 1 Low 0 w w₁->vr x g w₁
 Gc:∀{v w w₁},Fin v w->P8 Wg C w w₁->Fin v w₁
 go:∀{x g w},vr x g w->dy ty Wg w->∃g' w' es,bh P ο g w=.go g' w' es/\Ds Wg w w'/\(∀e∈es,Dt ag Wg w'.heap.size e) /\
  ((∃x',lt x' x/\vr x' g' w')\/∃v m,Fin v w'/\Goes P ο (RW ty Wg C 1 Low 0) (DWs Wg gB gB C 1 1) (AtR0 P ty Wg C 1 Low 1 v) m g' w')
def R0(ty:Θ)(Wg:Nat)(w w₁:υ):Prop:=dy ty Wg w->dy ty Wg w₁
def Gd(Wg:Nat)(e:eU):Prop:=
 (∀x,(si e).touch?=θ x->(∃a,x.loc=.cell a/\a.block=Wg)/\x.kind≠.plain)/\e.loc≠.mark .disable/\e.loc≠.mark .enable/\e.loc≠.mark (.release (stA Wg))
def D0(Wg:Nat)(w w':υ)(es:Array eU):Prop:=w'=w/\∀e∈es,Gd Wg e
end
section
theorem R0.refl(ty:Θ)Wg w:R0 ty Wg w w:=id
end
section
variable [u5]
end
section
theorem R0.tr(ty:Θ)Wg:∀a b c,R0 ty Wg a b->R0 ty Wg b c->R0 ty Wg a c:=λ_ _ _ h h'=>h' ∘h
end
section
variable [u5]
section
variable (P:Program) (ty:Θ) (Wg:Nat) (AnchW:Goroutine->υ->Prop) (Out:Goroutine->Prop)
def AtAcq(g:Goroutine)(w:υ):Prop:=g.status=.running/\∃g',bh P ν g w=.go g' w #[mk (.acquire (stA Wg))]/\Out g'
def AtKe(g:Goroutine)(w:υ):Prop:=g.status=.running/\∃g',bh P ν g w=.go g' w #[mk .enable]/\∃m,(Goes P ν (R0 ty Wg) (D0 Wg)) (AtAcq P Wg Out) m g' w
def AtW4(g:Goroutine)(w:υ):Prop:=g.status=.running/\(jO ty Wg w 0 0->∃g',bh P ν g w=.go g' w #[rd (stA Wg)]/\∃m,(Goes P ν (R0 ty Wg) (D0 Wg)) (AtKe P ty Wg Out) m g' w)
def AtW3(g:Goroutine)(w:υ):Prop:=
 g.status=.running/\g.offers=η/\((∃st,jO ty Wg w st 0)->bh P ν g w=.go {g with status:=.blocked } w #[]) /\
  (jO ty Wg w 0 1->∃g',bh P ν g w=.go g' (w.setCell (smA Wg) (.int .u32 0)) (semEvents (smA Wg))/\∃m,(Goes P ν (R0 ty Wg) (D0 Wg)) (AtW4 P ty Wg Out) m g' (w.setCell (smA Wg) (.int .u32 0)))
def AtW2(vs:Nat)(g:Goroutine)(w:υ):Prop:=
 g.status=.running/\∀v:Nat,v<2147483648->jO ty Wg w (v*KK) 0 ->
  (v=vs->∃g',bh P ν g w=.go g' (w.setCell (stA Wg) (.int .u64 (v*KK+1))) #[rd (stA Wg),wr (stA Wg)]/\∃m,(Goes P ν (R0 ty Wg) (D0 Wg)) (AtW3 P ty Wg Out) m g' (w.setCell (stA Wg) (.int .u64 (v*KK+1)))) /\
  (v≠vs->∃g',bh P ν g w=.go g' w #[rd (stA Wg)]/\∃m,(Goes P ν (R0 ty Wg) (D0 Wg)) AnchW m g' w)
def AtW1(g:Goroutine)(w:υ):Prop:=
 g.status=.running/\∀v:Nat,v<2147483648->jO ty Wg w (v*KK) 0->∃g',bh P ν g w=.go g' w #[rd (stA Wg)] /\
  (v=0->∃m,(Goes P ν (R0 ty Wg) (D0 Wg)) (AtKe P ty Wg Out) m g' w)/\(v≠0->∃m,(Goes P ν (R0 ty Wg) (D0 Wg)) (AtW2 P ty Wg AnchW Out v) m g' w)
def AtKd(g:Goroutine)(w:υ):Prop:=g.status=.running/\∃g',bh P ν g w=.go g' w #[mk .disable]/\∃m,(Goes P ν (R0 ty Wg) (D0 Wg)) AnchW m g' w
variable {ag:Nat->Prop}{C Low:Nat} (W:sC P ag ty Wg C Low) (w0:υ) (o0 o1:Obj) (v1:ay)
def AtGoS(Next:Goroutine->υ->Prop)(g:Goroutine)(w:υ):Prop:=
 g.status=.running/\∃g' child,bh P ν g w=.spawn g' child w #[]/\Next g' w /\
  (w.heap[Low]?=θ o1->(∀b,b<Low->b≠Wg->w.heap[b]?=w0.heap[b]?)->w.heap.size=Low+1->dy ty Wg w->∃x,W.vr x child w)
def AtKeS(Next:Goroutine->υ->Prop)(g:Goroutine)(w:υ):Prop:=
 g.status=.running/\∃g',bh P ν g w=.go g' w #[mk .enable]/\∃m,(Goes P ν (R0 ty Wg) (D0 Wg)) (AtGoS P ty Wg W w0 o1 Next) m g' w
def AtA1(Next:Goroutine->υ->Prop)(g:Goroutine)(w:υ):Prop:=
 g.status=.running/\∀v:Nat,v<2147483647->jO ty Wg w (v*KK) 0 ->
  ∃g',bh P ν g w=.go g' (w.setCell (stA Wg) (.int .u64 ((v+1)*KK))) #[rd (stA Wg),wr (stA Wg)]/\∃m,(Goes P ν (R0 ty Wg) (D0 Wg)) (AtKeS P ty Wg W w0 o1 Next) m g' (w.setCell (stA Wg) (.int .u64 ((v+1)*KK)))
def AtKdS(Next:Goroutine->υ->Prop)(g:Goroutine)(w:υ):Prop:=
 g.status=.running/\∃g',bh P ν g w=.go g' w #[mk .disable]/\∃m,(Goes P ν (R0 ty Wg) (D0 Wg)) (AtA1 P ty Wg W w0 o1 Next) m g' w
def Xv(Next:Goroutine->υ->Prop)(g:Goroutine)(w:υ):Prop:=
 g.status=.running/\(w.heap[Low]?=θ o0->∃g',bh P ν g w=.go g' (w.setCell ⟨Low,0,η⟩ v1) #[⟨.cell ⟨Low,0,η⟩,ν,ο⟩]/\(w.setCell ⟨Low,0,η⟩ v1).heap[Low]?=θ o1/\∃m,(Goes P ν (R0 ty Wg) (D0 Wg)) (AtKdS P ty Wg W w0 o1 Next) m g' (w.setCell ⟨Low,0,η⟩ v1))
def P9(Next:Goroutine->υ->Prop)(g:Goroutine)(w:υ):Prop:=
 g.status=.running/\(w.heap.size=Low->∃g',bh P ν g w=.go g' {w with heap:=w.heap.push o0 } #[]/\∃m,(Goes P ν (R0 ty Wg) (D0 Wg)) (Xv P ty Wg W w0 o0 o1 v1 Next) m g' {w with heap:=w.heap.push o0 })
def y5(g:Goroutine)(w:υ):Prop:=∃m,(Goes P ν (R0 ty Wg) (D0 Wg)) (AtKd P ty Wg AnchW) m g w
inductive fy:CTag->Nat->Nat->Nat->Option Obj->Goroutine->υ->Prop
 |Du {m:Nat}{g:Goroutine}{w:υ}:(Goes P ν (R0 ty Wg) (D0 Wg)) (P9 P ty Wg W w0 o0 o1 v1 (y5 P ty Wg AnchW)) m g w->fy (.sp 0 7) 0 m 0 η g w
 |Dv {m:Nat}{g:Goroutine}{w:υ}:(Goes P ν (R0 ty Wg) (D0 Wg)) (Xv P ty Wg W w0 o0 o1 v1 (y5 P ty Wg AnchW)) m g w->fy (.sp 0 6) 0 m 0 (θ o0) g w
 |skd {m:Nat}{g:Goroutine}{w:υ}:(Goes P ν (R0 ty Wg) (D0 Wg)) (AtKdS P ty Wg W w0 o1 (y5 P ty Wg AnchW)) m g w->fy (.sp 0 5) 0 m 0 (θ o1) g w
 |sa1 {m:Nat}{g:Goroutine}{w:υ}:(Goes P ν (R0 ty Wg) (D0 Wg)) (AtA1 P ty Wg W w0 o1 (y5 P ty Wg AnchW)) m g w->fy (.sp 0 4) 0 m 1 (θ o1) g w
 |ske {m:Nat}{g:Goroutine}{w:υ}:(Goes P ν (R0 ty Wg) (D0 Wg)) (AtKeS P ty Wg W w0 o1 (y5 P ty Wg AnchW)) m g w->fy (.sp 0 3) 0 m 1 (θ o1) g w
 |sgo {m:Nat}{g:Goroutine}{w:υ}:(Goes P ν (R0 ty Wg) (D0 Wg)) (AtGoS P ty Wg W w0 o1 (y5 P ty Wg AnchW)) m g w->fy (.sp 0 2) 0 m 0 (θ o1) g w
 |kd {m:Nat}{g:Goroutine}{w:υ}:(Goes P ν (R0 ty Wg) (D0 Wg)) (AtKd P ty Wg AnchW) m g w->fy .kd 1 m 0 η g w
 |anch {m:Nat}{g:Goroutine}{w:υ}:(Goes P ν (R0 ty Wg) (D0 Wg)) AnchW m g w->fy .anch 1 m 1 η g w
 |w1 {m:Nat}{g:Goroutine}{w:υ}:(Goes P ν (R0 ty Wg) (D0 Wg)) (AtW1 P ty Wg AnchW Out) m g w->fy .w1 1 m 1 η g w
 |w2 {vs m:Nat}{g:Goroutine}{w:υ}:(Goes P ν (R0 ty Wg) (D0 Wg)) (AtW2 P ty Wg AnchW Out vs) m g w->fy (.w2 vs) 1 m 1 η g w
 |w3 {m:Nat}{g:Goroutine}{w:υ}:(Goes P ν (R0 ty Wg) (D0 Wg)) (AtW3 P ty Wg Out) m g w->fy .w3 1 (m+1) 1 η g w
 |blk {g:Goroutine}{w:υ}:(∀w₁,R0 ty Wg w w₁->AtW3 P ty Wg Out g w₁)->fy .blk 1 0 1 η {g with status:=.blocked } w
 |w4 {m:Nat}{g:Goroutine}{w:υ}:(Goes P ν (R0 ty Wg) (D0 Wg)) (AtW4 P ty Wg Out) m g w->fy .w4 1 m 1 η g w
 |ke {m:Nat}{g:Goroutine}{w:υ}:(Goes P ν (R0 ty Wg) (D0 Wg)) (AtKe P ty Wg Out) m g w->fy .ke 1 m 1 η g w
 |acq {m:Nat}{g:Goroutine}{w:υ}:(Goes P ν (R0 ty Wg) (D0 Wg)) (AtAcq P Wg Out) m g w->fy .acq 1 m 0 η g w
end
section
variable {P:Program}{ty:Θ}{Wg:Nat}{AnchW:Goroutine->υ->Prop}{Out:Goroutine->Prop}{ag:Nat->Prop}{C Low:Nat}{W:sC P ag ty Wg C Low}{w0:υ}{o0 o1:Obj}{v1:ay}
 {tag:CTag}{j f d:Nat}{eD:Option Obj}{a:Goroutine}{w w':υ}
theorem fy.rely(h:fy P ty Wg AnchW Out W w0 o0 o1 v1 tag j f d eD a w)(hr:R0 ty Wg w w'):fy P ty Wg AnchW Out W w0 o0 o1 v1 tag j f d eD a w':=by
 cases h with
 |Du h=>exact .Du (Goes.rely (R0.tr _ _) h hr)
 |Dv h=>exact .Dv (Goes.rely (R0.tr _ _) h hr)
 |skd h=>exact .skd (Goes.rely (R0.tr _ _) h hr)
 |sa1 h=>exact .sa1 (Goes.rely (R0.tr _ _) h hr)
 |ske h=>exact .ske (Goes.rely (R0.tr _ _) h hr)
 |sgo h=>exact .sgo (Goes.rely (R0.tr _ _) h hr)
 |kd h=>exact .kd (Goes.rely (R0.tr _ _) h hr)
 |anch h=>exact .anch (Goes.rely (R0.tr _ _) h hr)
 |w1 h=>exact .w1 (Goes.rely (R0.tr _ _) h hr)
 |w2 h=>exact .w2 (Goes.rely (R0.tr _ _) h hr)
 |w3 h=>exact .w3 (Goes.rely (R0.tr _ _) h hr)
 |blk h=>exact .blk (λw₂ h₂=>h w₂ (h₂∘hr))
 |w4 h=>exact .w4 (Goes.rely (R0.tr _ _) h hr)
 |ke h=>exact .ke (Goes.rely (R0.tr _ _) h hr)
 |acq h=>exact .acq (Goes.rely (R0.tr _ _) h hr)
theorem fy.status(hAr:∀g w,AnchW g w->g.status=.running)(h:fy P ty Wg AnchW Out W w0 o0 o1 v1 tag j f d eD a w):(a.status=.running/\tag≠.blk)\/(a.status=.blocked/\tag=.blk):=by
 have run:∀{Stop:Goroutine->υ->Prop}{m:Nat}{g:Goroutine},(∀g w,Stop g w->g.status=.running)->Goes P ν (R0 ty Wg) (D0 Wg) Stop m g w->g.status=.running:=λhs h=>Goes.running hs w (R0.refl ty Wg w) h;cases h with
 |Du h=>exact .inl ⟨run (λ_ _ x=>x.1) h,by simp⟩
 |Dv h=>exact .inl ⟨run (λ_ _ x=>x.1) h,by simp⟩
 |skd h=>exact .inl ⟨run (λ_ _ x=>x.1) h,by simp⟩
 |sa1 h=>exact .inl ⟨run (λ_ _ x=>x.1) h,by simp⟩
 |ske h=>exact .inl ⟨run (λ_ _ x=>x.1) h,by simp⟩
 |sgo h=>exact .inl ⟨run (λ_ _ x=>x.1) h,by simp⟩
 |kd h=>exact .inl ⟨run (λ_ _ x=>x.1) h,by simp⟩
 |anch h=>exact .inl ⟨run hAr h,by simp⟩
 |w1 h=>exact .inl ⟨run (λ_ _ x=>x.1) h,by simp⟩
 |w2 h=>exact .inl ⟨run (λ_ _ x=>x.1) h,by simp⟩
 |w3 h=>exact .inl ⟨run (λ_ _ x=>x.1) h,by simp⟩
 |blk h=>exact .inr ⟨rfl,rfl⟩
 |w4 h=>exact .inl ⟨run (λ_ _ x=>x.1) h,by simp⟩
 |ke h=>exact .inl ⟨run (λ_ _ x=>x.1) h,by simp⟩
 |acq h=>exact .inl ⟨run (λ_ _ x=>x.1) h,by simp⟩
theorem fy.bound(h:fy P ty Wg AnchW Out W w0 o0 o1 v1 tag j f d eD a w):j+pend tag<=1:=by cases h<;>simp only[pend]<;>(try simp)<;>omega
theorem fy.wokenBy(hAr:∀g w,AnchW g w->g.status=.running)(h:fy P ty Wg AnchW Out W w0 o0 o1 v1 tag j f d eD a w)(hr:R0 ty Wg w w')g g':∃tag' f',fy P ty Wg AnchW Out W w0 o0 o1 v1 tag' j f' d eD (sg P g g' w' a) w'/\f'<=f+1/\(tag'=tag\/(tag=.blk/\tag'=.w3))/\(mayWake P g=ν->g'.status=.running->tag'≠.blk):=by
 have h':=h.rely hr;unfold Go.Conc.woken;split
 .rcases h'.status hAr with⟨hs,hne⟩|⟨_,rfl⟩
  .exact⟨tag,f,by rw[again_running _ (.inl hs)];exact h',by omega,.inl rfl,λ_ _=>hne⟩
  .cases h' with
   |blk hb=>
    have h3:=hb w' (R0.refl ty Wg w');exact⟨.w3,0+1,by rw[again_blocked h3.1 h3.2.1];exact .w3 (Goes.stop hb),by omega,.inr ⟨rfl,rfl⟩,λ_ _=>by simp⟩
 .rename_i hc;exact⟨tag,f,h',by omega,.inl rfl,λh1 h2=>absurd (by simp[h1,h2]) hc⟩
end
end
variable{a' g g':Goroutine}{x y:MemOp}{k:Nat}{o:Obj}{vt:Option Obj}{u:gS}{d d':WD}
def Bi(base:Nat)(ag:Nat->Prop)(k:Nat)(l:Loc):Prop:=k=base+1/\¬mm ag l
theorem Ge{t}{T0}{a}(h:∀i,T0<=i->t.act? i≠θ (.mark (.release a)))(hu:∀op∈u,op.act≠.mark (.release a)):∀i,T0<=i->(t++u).act? i≠θ (.mark (.release a)):=by
 intro i hi e;obtain⟨op,ho,Dw⟩:=kZ.1 e;rcases getElem?_append_cases ho with⟨_,ho'⟩|⟨_,xd⟩
 .exact h i hi (by rw[act?_of ho',Dw])
 .exact hu op xd Dw
theorem Ke{t}{T0}(h:T0<=t.size):T0<=(t++u).size:=by simp;omega
structure sD(ag:Nat->Prop)(Wg C Low:Nat):Prop where
 hW:Wg<Low
 hC:C<Low
 hCW:C≠Wg
 sbW:ag Wg
 sbL:∀b,ag b->b<Low
theorem Gf{ag}{base}:C0 (mm ag) (Bi base ag) gB:=
 ⟨λ_ _ _ h h'=>h.1.trans h'.1.symm,λ_ _ _ _ h=>h,λ_ _ h hs=>h.2 hs,λ_ _ h=>h.elim⟩
theorem q5.at Wg w d:q5 Wg w (w.at d):=⟨λ_ _=>rfl,rfl⟩
section
variable [u5]
inductive iz (X:Type) where
 |at_ (x:X)
 |done (v:ay)
def iz.lt{X:Type}(r:X->X->Prop):iz X->iz X->Prop
 | .at_ x',.at_ x=>r x' x
 | .done _,.at_ _=>True
 |_,_=>False
section
variable (P:Program) {ag:Nat->Prop} (ty:Θ) (Wg:Nat) {C Low:Nat} (W:sC P ag ty Wg C Low)
inductive qg (d:WD):iz W.X->Goroutine->υ->Prop
 |work {x:W.X}{g:Goroutine}{w:υ}:d.stage=7->d.deaf=0->W.vr x g w->qg d (.at_ x) g w
 |done {v:ay}{g:Goroutine}{w:υ}:WSit P ty Wg C 1 gB gB Low 1 v d.stage d.fuel d.deaf g w->qg d (.done v) g w
variable (base T0:Nat) (w0:υ)
structure jd(gs:Array Goroutine)(w:υ)(t:gS)(j:Nat)(D:WD)(Y:iz W.X)(q:Nat->Nat)(d0:Nat)(eD:Option Obj):Prop where
 size:gs.size=base+1+j
 le:j<=1
 lv:∀i g,0<i->i<=base->gs[i]?=θ g->QuitsD P (q i) (wQ t i) g
 above:∀k,gs.size<=k->wQ t k=0
 wk:j=1->∃g,gs[base+1]?=θ g/\qg P ty Wg W D Y g w
 fin:∀v,j=1->Y=.done v->W.Fin v w/\(D.stage<=6->Has C 0 v w)
 tr:e4 (mm ag) (Bi base ag) gB base (base+j) w.heap.size t
 norel:∀i,T0<=i->t.act? i≠θ (.mark (.release (stA Wg)))
 tsz:T0<=t.size
 deaf0:wQ t 0=d0
 deafW:j=1->wQ t (base+1)=D.deaf
 rel:j=1->D.stage<=6->∃r,T0<=r/\Rel (mm ag) (stA Wg) t (base+1) r
 old:j=0->∀b,b<Low->b≠Wg->w.heap[b]?=w0.heap[b]?
 nob:j=0->eD=η->w.heap.size=Low
 nb:∀o,eD=θ o->j=0/\w.heap.size=Low+1/\w.heap[Low]?=θ o
 lo:Low<=w.heap.size
 out:w.os=w0.os/\w.output=w0.output/\w.tape=w0.tape
end
section
variable {P:Program}{ag:Nat->Prop}{ty:Θ}{Wg C Low:Nat}{W:sC P ag ty Wg C Low}{base T0:Nat}{w0:υ}
 {gs:Array Goroutine}{w w':υ}{t:gS}{j:Nat}{D:WD}{Y:iz W.X}{q:Nat->Nat}{d0:Nat}{eD:Option Obj}{fn:FuncId}{pos:String}{es:Array eU}
theorem qg.stay{y:iz W.X}(h:qg P ty Wg W d y g w)(hs:q5 Wg w w')(hr:RW ty Wg C 1 Low 0 w w'):qg P ty Wg W d y g w':=by
 cases h with
 |work h1 h2 h3=>exact .work h1 h2 (W.stay h3 hs hr)
 |done h1=>exact .done (h1.rely hr)
theorem qg.status{y:iz W.X}(h:qg P ty Wg W d y g w):g.status=.running\/g.status=.finished:=by
 cases h with
 |work h1 h2 h3=>exact .inl (W.run h3)
 |done h1=>exact h1.status
theorem qg.woken{y:iz W.X}(h:qg P ty Wg W d y g w)a a' w1:sg P a a' w1 g=g:=by
 unfold Go.Conc.woken;split
 .exact again_running _ h.status
 .rfl
theorem jd.at(h:jd P ty Wg W base T0 w0 gs w t j D Y q d0 eD)d:jd P ty Wg W base T0 w0 gs (w.at d) t j D Y q d0 eD:=
 ⟨h.size,h.le,h.lv,h.above,λhj=>let ⟨g,hg,hs⟩:=h.wk hj;⟨g,hg,hs.stay (q5.at _ w d) (RW.at w d)⟩,λv hj hy=>⟨W.Gc (h.fin v hj hy).1 ⟨λ_ _ _=>rfl,rfl,id⟩,λhs=>(h.fin v hj hy).2 hs⟩,h.tr,h.norel,h.tsz,h.deaf0,h.deafW,h.rel,h.old,h.nob,h.nb,h.lo,h.out⟩
theorem Xw(hs:q5 Wg w w')(hC:C≠Wg)(hl:dy ty Wg w'):RW ty Wg C 1 Low 0 w w':=
 ⟨λb _ h1 _=>hs.same b h1,λ_=>hl,λ⟨cs,h1,h2⟩=>⟨cs,(hs.same C hC).trans h1,h2⟩,cell_of_block (hs.same C hC) 0⟩
theorem jd.stepW(h:jd P ty Wg W base T0 w0 gs w t j D Y q d0 eD)(hj:j=1){y':iz W.X}(hout:w'.os=w.os/\w'.output=w.output/\w'.tape=w.tape)(hsize:w.heap.size<=w'.heap.size)(hs':qg P ty Wg W d' y' g' w')(fJ:∀v,y'=.done v->W.Fin v w'/\(d'.stage<=6->Has C 0 v w'))(hok:∀op∈MemOp.ofEvents (base+1) fn pos es,OkW (mm ag) (Bi base ag) gB (base+1) op)(sF:∀op∈MemOp.ofEvents (base+1) fn pos es,mj w'.heap.size op.act)(hnr:∀e∈es,e.loc≠.mark (.release (stA Wg)))(hdeaf:deafBehind D.deaf es=d'.deaf)(hrel:d'.stage<=6->∃r,T0<=r/\Rel (mm ag) (stA Wg) (t++MemOp.ofEvents (base+1) fn pos es) (base+1) r):jd P ty Wg W base T0 w0 ((gs.map (sg P g g' w')).setIfInBounds (base+1) g') w' (t++MemOp.ofEvents (base+1) fn pos es) j d' y' q d0 eD:=by
 have hsz:=h.size;have hlo:=h.lo;refine⟨by simp[hsz],h.le,λk x hk hk' hx=>?_,λk hk=>?_,λ_=>?_,λv _ hy=>fJ v hy,?_,Ge h.norel (norel_of hnr),Ke h.tsz,by rw[l6 t (by omega) _ o3,h.deaf0],λ_=>by rw[FF,h.deafW hj];exact hdeaf,λ_ hst=>hrel hst,by omega,by omega,λo ho=>?_,Nat.le_trans hlo hsize,
  ⟨hout.1.trans h.out.1,hout.2.1.trans h.out.2.1,hout.2.2.trans h.out.2.2⟩⟩
 .rw[wR _ _ _ _ (by omega)]at hx;obtain⟨y,hy,rfl⟩:=kZ.1 hx;have hq:=h.lv k y hk hk' hy;rw[wP hq,l6 t (by omega) _ o3];exact hq
 .simp only[yF,CV]at hk;rw[l6 t (by omega) _ o3];exact h.above k hk
 .exact⟨g',get_map_set_same _ _ _ (by rw[hsz];omega),hs'⟩
 .exact e4.appW Gf (h.tr.mono hsize) (by omega) (by omega) hok sF
 .have:=(h.nb o ho).1;omega
theorem jd.step0(G:sD ag Wg C Low)(h:jd P ty Wg W base T0 w0 gs w t j D Y q d0 eD){a}(hout:w'.os=w.os/\w'.output=w.output/\w'.tape=w.tape)(hsize:w.heap.size<=w'.heap.size)(xj:dy ty Wg w')(hst:j=1->q5 Wg w w')(hold:j=0->∀b,b<Low->b≠Wg->w'.heap[b]?=w.heap[b]?)(hok:∀op∈MemOp.ofEvents 0 fn pos es,Ok0 (mm ag) (Bi base ag) gB (base+j) op)(sF:∀op∈MemOp.ofEvents 0 fn pos es,mj w'.heap.size op.act)(hnr:∀e∈es,e.loc≠.mark (.release (stA Wg)))(hn0:j=0->vt=η->w'.heap.size=Low)(hnb:∀o,vt=θ o->j=0/\w'.heap.size=Low+1/\w'.heap[Low]?=θ o):jd P ty Wg W base T0 w0 ((gs.map (sg P a a' w')).setIfInBounds 0 a') w' (t++MemOp.ofEvents 0 fn pos es) j D Y q (deafBehind d0 es) vt:=by
 have hsz:=h.size;have hlo:=h.lo;refine⟨by simp[hsz],h.le,λk x hk hk' hx=>?_,λk hk=>?_,λhj=>?_,λv hj hy=>?_,e4.app0 Gf (h.tr.mono hsize) hok sF,Ge h.norel (norel_of hnr),Ke h.tsz,by rw[FF,h.deaf0],λhj=>?_,λhj Gg=>?_,
  λhj b hb h1=>(hold hj b hb h1).trans (h.old hj b hb h1),hn0,hnb,Nat.le_trans hlo hsize,⟨hout.1.trans h.out.1,hout.2.1.trans h.out.2.1,hout.2.2.trans h.out.2.2⟩⟩
 .rw[wR _ _ _ _ (by omega)]at hx;obtain⟨y,hy,rfl⟩:=kZ.1 hx;have hq:=h.lv k y hk hk' hy;rw[wP hq,l6 t (by omega) _ o3];exact hq
 .simp only[yF,CV]at hk;rw[l6 t (by omega) _ o3];exact h.above k hk
 .obtain⟨x,hx,Gh⟩:=h.wk hj;exact⟨x,by rw[wR _ _ _ _ (by omega),hx,nK,Gh.woken],Gh.stay (hst hj) (Xw (hst hj) G.hCW xj)⟩
 .obtain⟨h1,h2⟩:=h.fin v hj hy;exact⟨W.Gc h1 ((hst hj).c G.hCW),λhs=>(Xw (hst hj) G.hCW xj:RW ty Wg C 1 Low 0 w w').cell.trans (h2 hs)⟩
 .rw[l6 t (by omega) _ o3,h.deafW hj]
 .obtain⟨r,tQ,hr⟩:=h.rel hj Gg;exact⟨r,tQ,hr.app (hr.xe.appOther o3 (by omega)) λop hop hg=>by have:=ofEvents_g op hop;omega⟩
theorem jd.aiR(h:jd P ty Wg W base T0 w0 gs w t j D Y q d0 eD){q'}(hk:0<k)(hkb:k<=base)(hm:∀e∈es,e.mute=ν)(vg:QuitsD P q' (deafBehind (wQ t k) es) g'):jd P ty Wg W base T0 w0 ((gs.map (sg P g g' w)).setIfInBounds k g') w (t++MemOp.ofEvents k fn pos es) j D Y (upd q k q') d0 eD:=by
 have hsz:=h.size;have hmem:∀op∈MemOp.ofEvents k fn pos es,op.act.touch?=none:=by intro op hop;obtain⟨e,he,rfl⟩:=kE hop;exact touch_mute (hm e he)
 have hnr:∀e∈es,e.loc≠.mark (.release (stA Wg)):=λe he hl=>by have:=hm e he;obtain⟨loc,wr,sy⟩:=e;simp only at hl;subst hl;cases this
 refine⟨by simp[hsz],h.le,λk1 x hk1 hk' hx=>?_,λk1 hk1=>?_,λhj=>?_,h.fin,h.tr.mute Gf hk (by omega) ofEvents_g hmem,Ge h.norel (norel_of hnr),Ke h.tsz,by rw[l6 t (by omega) _ o3,h.deaf0],λhj=>?_,λhj hst=>?_,h.old,h.nob,h.nb,h.lo,h.out⟩
 .by_cases e:k=k1
  .subst e;rw[get_map_set_same _ _ _ (by omega)]at hx;(cases hx);rw[upd_same,FF];exact vg
  .rw[wR _ _ _ _ e]at hx;obtain⟨y,hy,rfl⟩:=kZ.1 hx;have hq:=h.lv k1 y hk1 hk' hy;rw[wP hq,upd_ne q _ (jx e),l6 t e _ o3];exact hq
 .simp only[yF,CV]at hk1;rw[l6 t (by omega) _ o3];exact h.above k1 hk1
 .obtain⟨x,hx,Gh⟩:=h.wk hj;exact⟨x,by rw[wR _ _ _ _ (by omega),hx,nK,Gh.woken],Gh⟩
 .rw[l6 t (by omega) _ o3,h.deafW hj]
 .obtain⟨r,tQ,hr⟩:=h.rel hj hst;exact⟨r,tQ,hr.app (hr.xe.appOther o3 (by omega)) λop hop hg=>by have:=ofEvents_g op hop;omega⟩
theorem jd.spawn(h:jd P ty Wg W base T0 w0 gs w t 0 D Y q 0 (θ o)){child}(hx:x.g=0/\x.act=.go (base+1))(hy:y.g=base+1/\y.act=.start){x0:W.X}(hs:W.vr x0 child w):jd P ty Wg W base T0 w0 ((gs.setIfInBounds 0 a').push child) w (t++#[x,y]) 1 ⟨7,0,0⟩ (.at_ x0) q 0 none:=by
 have hsz:=h.size;have hm:∀op∈#[x,y],op=x\/op=y:=by intro op hop;simpa using hop
 have hst:∀op∈#[x,y],op.act≠.mark .disable/\op.act≠.mark .enable:=by
  intro op hop;rcases hm op hop with rfl|rfl
  .rw[hx.2];exact⟨by simp,by simp⟩
  .rw[hy.2];exact⟨by simp,by simp⟩
 refine⟨by simp[hsz],Nat.le_refl _,λk g hk hk' hg=>?_,λk hk=>?_,λ_=>?_,λv _ hy'=>(by cases hy'),?_,Ge h.norel λop hop=>?_,Ke h.tsz,by rw[Jt t 0 _ hst,h.deaf0],λ_=>?_,λ_ hs=>?_,λhj=>(by omega),λhj=>(by omega),λo ho=>(by cases ho),h.lo,h.out⟩
 .rw[Array.getElem?_push_lt (by simp[hsz];omega),<- qT,lZ (by omega)]at hg;rw[Jt t _ _ hst];exact h.lv k g hk hk' hg
 .rw[Jt t _ _ hst];simp only[Array.size_push,yF]at hk;exact h.above k (by omega)
 .exact⟨child,by rw[show base+1=(gs.setIfInBounds 0 a').size by simp[hsz],Array.getElem?_push_size],.work rfl rfl hs⟩
 .exact h.tr.fork Gf ⟨hx.1,by rw[hx.2]⟩ ⟨by rw[hy.1],hy.2⟩ h.deaf0
 .rcases hm op hop with rfl|rfl
  .rw[hx.2];simp
  .rw[hy.2];simp
 .rw[Jt t _ _ hst];exact h.above _ (by omega)
 .simp at hs
end
end
end fV
end Go.Proofs.YtfphigmeppdocaaGreatDoor
