/-
  Several texts in one.
-/
import Derived.Conc.WgGenN3
import Derived.Test.YtfphigmeppdocaaGreatDoorProg
import Derived.Orders
import Derived.Conc.AppendWalk
import Derived.Conc.BesideWords
import Derived.WalkSpells
import Derived.WalkLawsBesides
import Derived.Deep.QuietTactic
import Derived.BigQuiet
import Derived.Deep.RegionWith
import Derived.Deep.RegionHeld3
import Derived.Deep.AppendLies
import Derived.Lib.ItoaMem
import Derived.Lib.SplitLaws
import Derived.Test.YtfphigmeppdocaaGreatDoorPk1
open Acc renaming intro->Bj
open Array renaming getElem?_eq_some_iff->ξ,replicate->Δ,getElem?_setIfInBounds_ne->lZ,getElem?_eq_none->gx,getD_eq_getD_getElem?->oZ,getElem?_eq_getElem->qT,getElem?_modify->q6,getElem?_setIfInBounds_self_of_lt->CU,size_setIfInBounds->yF,mem_of_getElem?->Ft,mem_singleton->Gi,getElem?_push_lt->Qa,empty_append->Kf,size_map->CV
open Bool renaming true->ν,false->ο
open Go renaming World->υ,TypeId->Θ,Calls->Ξ,Value->ay,execOp->aL,stepG->bh,Question->dM,underlying->gR,madeCells->fo,Addr->bP,callFunc->gX,Event->eU,stuck->oz,Trace->gS,run_convert_to_unsafe->Kg,zeroValue->tJ,typeInfo->se,unwind->nH,sizeOf->qU,isAgg->nI,Item->kD,storedEv->Gj,setCell_eq_setRow->Xx,goexitEntry->Qb,Machine->Kh
open Go.Act renaming put->dz,eval->je
open Go.Addr renaming add->jT
open Go.Conc renaming goes_go->bq,mem_ofEvents->kE,mem_listed->dP,stepG_region_end->mq,stepG_region->oD,aside_setCell->qh,Deaf_other->l6,stepG_seq->k8,goes_oper_k->o8,crowd->dG,stepG_value->tU,stepG_ret'->sG,events_convert_to_unsafe->Ki,woken_quitsD->wP,runT_crowd_go->yG,seen_none->tV,stepG_unwanted->Dx,goes_leave1->Bl,semEvents->Bm,stepG_cond->Dy,ofEvents_eq->Gk,stepG_load_atomic->Qc,goes_call->Dz,stepG_markAt->Kj,AtRel->tW,stepG_mark0->Kk,goes_leave0->Kl,stepG_block->Km,woken->sg,stepG_skip->Kn,stepG_unwind_entry->Xy,awake_of->Qd,stepG_add_atomic->Xz,seen_eq->Gl,stepG_none->Qe,mem_seen->Ko
open Go.Conc.Lib renaming WgLink->Gm
open Go.ConcN renaming WgLive->dy,sumTo->dN,Mode->tX,get_map_set->wR,upd_same->xk,cell_of_block->Qf,pend->mz,deafBehind_idle->Qg,sumTo_upd->Kp,Fsum->oF,Ssum->o9,upd_ne->Gn,PayAt->DC
open Go.ConcN.Gen.WgLive renaming cell1->Kq,cell0->Kr
open Go.ConcN.Mode renaming last->Qh,retag->XA
open Go.ConcN.RW renaming refl->mU
open Go.ConcR renaming g_of_ofEvents->o3,ofEvent_cell->vu,ofEvent_loc_mark->vv,Payload->u5,WgAt->jO
open Go.ConcR.Gen renaming x_enable_n->Ks,x_enable_b->Kt,x_enable_x->Ku,x_enable_f->Kv,body_wait->Kw,x_loadU64_n->Qi,x_loadU64_b->Qj,x_loadU64_x->Qk,x_loadU64_f->Ql
open Go.Ending renaming returned->sH
open Go.Extern.Race renaming none_->XB
open Go.GStep renaming after->yJ
open Go.Instr renaming makeFunc->DD
open Go.IntKind renaming wrap_u64->XC,wrap_i32->XD
open Go.MemAct renaming ofEvent->si,touch?->sI
open Go.Question renaming forced->yK,cut->AO
open Go.Region renaming wanted->cF,ready->dZ,schedule->kY,binds->k9
open Go.Region.linearise renaming go->iA
open Go.Sem renaming pure->o4,run_bind->XE
open Go.Trace renaming g?->su
open Go.Value renaming int->bM,ownBlock->oG
open Go.Value.slice renaming injEq->jU
open Go.World renaming ownsRow_nil->dJ,cell?->c7,setCell->eV,frozen?->qY
open Go.World.ownsRow renaming cellAt->qi
open Ne renaming symm->jx
open Option renaming none->η,some->θ,getD_some->Ω,map_eq_some_iff->kZ,map_some->nK,isSome_iff_exists->XF
open Option.some renaming injEq->Γ,inj->jP
set_option linter.unusedSimpArgs false
set_option maxHeartbeats 8000000
set_option maxRecDepth 100000
namespace Go.Proofs.YtfphigmeppdocaaGreatDoor
namespace fV
open Go.Conc Go.ConcN
open Go.ConcR (KK wgBlock WgAt stA smA rd wr mk Payload DC0 Bk g_of_ofEvents again_blocked bk_of_mute ofEvent_loc_mark ofEvent_cell)
variable{es:Array eU}{g g':Goroutine}{k:Nat}{Rd:Nat→Loc→Prop}{d':WD}
theorem Qm{ag:Nat→Prop}{Wg}{Own:Nat→Loc→Prop}(hW:ag Wg){fn}{pos}(h:∀e∈es,Bk Wg e):∀op∈MemOp.ofEvents k fn pos es,OkW (mm ag) Own Rd k op∧(∀x,op.act.touch?=θ x→mm ag x.loc)∧∀B,Wg<B→mj B op.act:=by
 intro op hop;obtain⟨e,he,rfl⟩:=kE hop;rcases h e he with h1|h1|⟨a,wr,rfl,ha⟩
 .exact⟨⟨rfl,λx hx=>by simp only[vv h1]at hx;cases hx⟩,(λx hx=>by simp only[vv h1]at hx;cases hx),(λB _ x hx=>by simp only[vv h1]at hx;cases hx)⟩
 .exact⟨⟨rfl,λx hx=>by simp only[vv h1]at hx;cases hx⟩,(λx hx=>by simp only[vv h1]at hx;cases hx),(λB _ x hx=>by simp only[vv h1]at hx;cases hx)⟩
 .refine⟨⟨rfl,λx hx=>?_⟩,λx hx=>?_,λB hB x hx=>?_⟩<;>simp only[vu,sI,Γ]at hx<;>subst hx
  .exact .inl ⟨⟨a,rfl,by rw[ha];exact hW⟩,by simp,by simp⟩
  .exact⟨a,rfl,by rw[ha];exact hW⟩
  .show a.block<B;omega
section
variable [u5]
section
variable (P:Program) {ag:Nat→Prop} (ty:Θ) (Wg:Nat) {C Low:Nat} (W:sC P ag ty Wg C Low) (base T0:Nat) (w0:υ) (AnchW:Goroutine→υ→Prop) (Out:Goroutine→Prop) (o0:Obj) (o1:Obj) (v1:ay)
def DF(N:Nat)(Y:iz W.X)(F:Nat)(m:Kh)(t:gS):Prop:=
 ∃(gs:Array Goroutine) (w:υ) (sl:Option (Nat×Nat)) (j:Nat) (D:Nat→WD) (tag:CTag) (f0 d0:Nat) (eD:Option Obj) (a:Goroutine) (st sm:Int) (q:Nat→Nat),
  m=dG gs w sl∧gs[0]?=θ a∧fy P ty Wg AnchW Out W w0 o0 o1 v1 tag j f0 d0 eD a w∧jd P ty Wg W base T0 w0 gs w t j (D 0) Y q d0 eD∧jO ty Wg w st sm∧tX j D tag st sm∧
  (j=0→∃v,Y=.done v)∧N=phi 1 (Vc j D) tag+o9 j D∧F=f0+2*(oF j D+dN (base+1) q)
def XG(N':Nat)(Y':iz W.X)(F' N:Nat)(Y:iz W.X)(F:Nat):Prop:=N'<N∨(N'=N∧iz.lt W.lt Y' Y)∨(N'=N∧Y'=Y∧F'<F)
def vw(N:Nat)(Y:iz W.X)(F:Nat)(m:Kh)(i:Nat)(t:gS):Prop:=
 ∃m₁ ops N' Y' F',runT P m i=(.next m₁,ops)∧XG P ty Wg W N' Y' F' N Y F∧DF P ty Wg W base T0 w0 AnchW Out o0 o1 v1 N' Y' F' m₁ (t++ops)
end
section
variable {P:Program}{ag:Nat→Prop}{ty:Θ}{Wg C Low:Nat}{W:sC P ag ty Wg C Low}{base T0:Nat}{w0:υ}{AnchW:Goroutine→υ→Prop}{Out:Goroutine→Prop}{o0:Obj}{o1:Obj}{v1:ay}
 {gs:Array Goroutine}{w w':υ}{sl:Option (Nat×Nat)}{t:gS}{j:Nat}{D:Nat→WD}{Y:iz W.X}{q:Nat→Nat}{f0 d0:Nat}{eD:Option Obj}{tag:CTag}{a:Goroutine}{st sm:Int}
theorem Gp(hAr:∀g w,AnchW g w→g.status=.running)(ha:gs[0]?=θ a)(hcs:(fy P ty Wg AnchW Out W w0 o0 o1 v1) tag j f0 d0 eD a w)(hpi:(jd P ty Wg W base T0 w0) gs w t j (D 0) Y q d0 eD)(hi:0<j){y':iz W.X}{st' sm'}(hg:gs[base+1]?=θ g)(hgo:bh P ο g w=.go g' w' es)(hout:w'.os=w.os∧w'.output=w.output∧w'.tape=w.tape)(hsize:w.heap.size≤w'.heap.size)(hs':qg P ty Wg W d' y' g' w')(fJ:∀v,y'=.done v→W.Fin v w'∧(d'.stage≤6→Has C 0 v w'))(hok:∀op∈MemOp.ofEvents (base+1) g.frame.fn g.frame.place es,OkW (mm ag) (Bi base ag) gB (base+1) op)(sF:∀op∈MemOp.ofEvents (base+1) g.frame.fn g.frame.place es,mj w'.heap.size op.act)(hnr:∀e∈es,e.loc≠.mark (.release (stA Wg)))(hdeaf:deafBehind (D 0).deaf es=d'.deaf)(hrel:d'.stage≤6→∃r,T0≤r∧Rel (mm ag) (stA Wg) (t++MemOp.ofEvents (base+1) g.frame.fn g.frame.place es) (base+1) r)(hwg:jO ty Wg w' st' sm')(hmode:∀tag',(tag'=tag∨(tag=.blk∧tag'=.w3))→(mayWake P g=ν→g'.status=.running→tag'≠.blk)→tX j (upd D 0 d') tag' st' sm')(hlt:(d'.stage<(D 0).stage∧cnt d'≤cnt (D 0))∨(d'.stage=(D 0).stage∧iz.lt W.lt y' Y)∨(d'.stage=(D 0).stage∧y'=Y∧d'.fuel+1=(D 0).fuel)):(vw P ty Wg W base T0 w0 AnchW Out o0 o1 v1) (phi 1 (Vc j D) tag+o9 j D) Y (f0+2*(oF j D+dN (base+1) q)) (dG gs w sl) (base+1) t:=by
 obtain⟨tag',f',hcs',hf',Gq,hwk⟩:=hcs.wokenBy hAr (w':=w') (λ_=>⟨_,_,hwg⟩) g g';have hi0:(base+1==0)=false:=by simp
 have hrun:=yG (P:=P) (sl:=sl) (i:=base+1) hg (by rw[hi0];exact hgo);have e1:=Kp D d' cnt hi;have e2:=Kp D d' WD.stage hi;have e3:=Kp D d' WD.fuel hi;have hb:=hcs.bound;have hj:j=1:=by omega
 have xl:=hpi.stepW (g:=g) hj hout hsize hs' fJ hok sF hnr hdeaf hrel;refine⟨_,_,phi 1 (Vc j (upd D 0 d')) tag'+o9 j (upd D 0 d'),y',f'+2*(oF j (upd D 0 d')+dN (base+1) q),hrun,?_,
  _,w',sl,j,upd D 0 d',tag',f',d0,eD,sg P g g' w' a,st',sm',q,rfl,by rw[wR _ _ _ _ (by omega),ha];rfl,hcs',
  by rw[xk];exact xl,hwg,hmode tag' Gq hwk,λh=>by omega,rfl,rfl⟩
 rw[phi_retag 1 _ Gq];simp only[Vc,o9,oF]at*;have hc:d'.stage=(D 0).stage→cnt d'=cnt (D 0):=λe=>by simp only[cnt,e]
 rcases hlt with⟨h1,h2⟩|⟨h1,h2⟩|⟨h1,h2,h3⟩
 .refine .inl ?_;have:=phi_mono 1 (v':=dN j λa=>cnt (upd D 0 d' a)) (v:=dN j λa=>cnt (D a)) (by omega) tag;omega
 .have:=hc h1;refine .inr (.inl ⟨?_,h2⟩);rw[show (dN j λa=>cnt (upd D 0 d' a))=dN j λa=>cnt (D a)by omega,show (dN j λa=>(upd D 0 d' a).stage)=dN j λa=>(D a).stage by omega]
 .have:=hc h1;refine .inr (.inr ⟨?_,h2,by omega⟩);rw[show (dN j λa=>cnt (upd D 0 d' a))=dN j λa=>cnt (D a)by omega,show (dN j λa=>(upd D 0 d' a).stage)=dN j λa=>(D a).stage by omega]
theorem stepWorker(G:sD ag Wg C Low)(hAr:∀g w,AnchW g w→g.status=.running)(ha:gs[0]?=θ a)(hcs:(fy P ty Wg AnchW Out W w0 o0 o1 v1) tag j f0 d0 eD a w)(hpi:(jd P ty Wg W base T0 w0) gs w t j (D 0) Y q d0 eD)(hwg:jO ty Wg w st sm)(hmode:tX j D tag st sm)(hi:0<j)(hg:gs[base+1]?=θ g)(hrun:g.status=.running):(vw P ty Wg W base T0 w0 AnchW Out o0 o1 v1) (phi 1 (Vc j D) tag+o9 j D) Y (f0+2*(oF j D+dN (base+1) q)) (dG gs w sl) (base+1) t:=by
 have hj:j=1:=by have:=hpi.le;omega
 obtain⟨g₁,hg₁,hs⟩:=hpi.wk hj;obtain rfl:g=g₁:=by rw[hg]at hg₁;exact jP hg₁
 have hb:=hcs.bound;have hVj:=Vc_le j D;have hlo:=hpi.lo;have DG:=Nat.lt_of_lt_of_le G.hW hlo;have hdk:=hpi.deafW hj;obtain⟨y,DH⟩:∃y,Y=y:=⟨Y,rfl⟩;rw[DH]at hs;cases hs with
 |@work x _ _ h7 Bn DI=>
  obtain⟨g',w',es,hgo,hE,hev,hnext⟩:=W.go DI ⟨st,sm,hwg⟩;have hok:∀op∈MemOp.ofEvents (base+1) g.frame.fn g.frame.place es,OkW (mm ag) (Bi base ag) gB (base+1) op:=by intro op hop;obtain⟨e,he,rfl⟩:=kE hop;exact⟨rfl,λx hx=>.inr (.inl ⟨rfl,(hev e he).tch x hx⟩)⟩
  have sF:∀op∈MemOp.ofEvents (base+1) g.frame.fn g.frame.place es,mj w'.heap.size op.act:=by intro op hop;obtain⟨e,he,rfl⟩:=kE hop;exact(hev e he).low
  have hde:deafBehind (D 0).deaf es=0:=by rw[Bn];exact Qg (λe he=>⟨(hev e he).dis,(hev e he).en⟩) 0
  have XH:∀m' tag',(tag'=tag∨(tag=.blk∧tag'=.w3))→tX j (upd D 0 ⟨7,m',0⟩) tag' st sm:=λm' tag' ht=>XA (by have:=hmode.same (i:=0) m' 0;rwa[h7]at this) ht;rcases hnext with⟨x',hlt,hs'⟩|⟨v,m,fJ,hgoes⟩
  .exact Gp hAr ha hcs hpi hi (d':=⟨7,0,0⟩) (y':=.at_ x') hg hgo hE.out hE.size (.work rfl rfl hs') (λv e=>by cases e) hok sF (λe he=>(hev e he).rel) hde (λh=>absurd h (by simp)) (hwg.of_block hE.wg) (λtag' ht _=>XH 0 tag' ht)
    (.inr (.inl ⟨h7.symm,by rw[DH];exact hlt⟩))
  .exact Gp hAr ha hcs hpi hi (d':=⟨7,m,0⟩) (y':=.done v) hg hgo hE.out hE.size (.done (.r0 hgoes)) (λv' e=>by cases e;exact⟨fJ,λh=>absurd h (by simp)⟩) hok sF (λe he=>(hev e he).rel) hde (λh=>absurd h (by simp)) (hwg.of_block hE.wg) (λtag' ht _=>XH m tag' ht)
    (.inr (.inl ⟨h7.symm,by rw[DH];trivial⟩))
 |@done v _ _ DI=>
  obtain⟨fJ,hhas⟩:=hpi.fin v hj DH;generalize hst:(D 0).stage=s at DI;generalize hfu:(D 0).fuel=m at DI;generalize hdd:(D 0).deaf=dd at DI;rw[hdd]at hdk;have XI:∀{g':Goroutine}{w':υ}{es:Array eU}{s' m' dd':Nat}{st' sm':Int},bh P ο g w=.go g' w' es→Aside Wg w w'→jO ty Wg w' st' sm'→(∀e∈es,Bk Wg e)→
    (∀jV e,es[jV]?=θ e→(si e).touch?=η∨0<deafBehind dd (es.extract 0 jV))→WSit P ty Wg C 1 gB gB Low 1 v s' m' dd' g' w'→deafBehind dd es=dd'→s≤6→s'≤6→
    (∀tag',(tag'=tag∨(tag=.blk∧tag'=.w3))→(mayWake P g=ν→g'.status=.running→tag'≠.blk)→tX j (upd D 0 ⟨s',m',dd'⟩) tag' st' sm')→((s'<s∧cnt ⟨s',m',dd'⟩≤cnt (D 0))∨(s'=s∧m'+1=m))→
    (vw P ty Wg W base T0 w0 AnchW Out o0 o1 v1) (phi 1 (Vc j D) tag+o9 j D) Y (f0+2*(oF j D+dN (base+1) q)) (dG gs w sl) (base+1) t:=by
   intro g' w' es s' m' dd' st' sm' hgo hAs hwg' hbk hd hs' hde h6 Gr hmode' hlt;have Gg:q5 Wg w w':=⟨λb h1=>hAs.block b h1,hAs.size⟩;refine Gp hAr ha hcs hpi hi (d':=⟨s',m',dd'⟩) (y':=.done v) hg hgo ⟨hAs.os,hAs.output,hAs.tape⟩ (by rw[hAs.size];exact Nat.le_refl _) (.done hs') (λv' e=>?_) (λop hop=>(Qm G.sbW hbk op hop).1) (λop hop=>(Qm (Own:=gB) (Rd:=gB) G.sbW hbk op hop).2.2 _ (by rw[hAs.size];exact DG)) (norel_of_Bk hbk) (by rw[hdd];exact hde) (λ_=>?_) hwg' hmode' ?_
   ·(cases e);exact⟨W.Gc fJ (Gg.c G.hCW),λ_=>(Qf (hAs.block C G.hCW) 0).trans (hhas (by omega))⟩
   .obtain⟨r,tQ,hr⟩:=hpi.rel hj (by omega);exact⟨r,tQ,hr.app (hr.xe.book hdk _ _ hbk hd) λop hop _ x hx=>(Qm (Own:=gB) (Rd:=gB) G.sbW hbk op hop).2.1 x hx⟩
   .rcases hlt with⟨h1,h2⟩|⟨h1,h2⟩
    .exact .inl ⟨by rw[hst];exact h1,h2⟩
    .exact .inr (.inr ⟨by rw[hst];exact h1,DH.symm,by rw[hfu];exact h2⟩)
  have book:∀{g':Goroutine}{w':υ}{es:Array eU}{s' m' dd':Nat}{st' sm':Int},bh P ο g w=.go g' w' es→Aside Wg w w'→jO ty Wg w' st' sm'→(∀e∈es,Bk Wg e)→
    (∀jV e,es[jV]?=θ e→(si e).touch?=η∨0<deafBehind dd (es.extract 0 jV))→WSit P ty Wg C 1 gB gB Low 1 v s' m' dd' g' w'→deafBehind dd es=dd'→s≤6→s'≤6→
    tX j (upd D 0 ⟨s',m',dd'⟩) tag st' sm'→((s'<s∧cnt ⟨s',m',dd'⟩≤cnt (D 0))∨(s'=s∧m'+1=m))→
    (vw P ty Wg W base T0 w0 AnchW Out o0 o1 v1) (phi 1 (Vc j D) tag+o9 j D) Y (f0+2*(oF j D+dN (base+1) q)) (dG gs w sl) (base+1) t:=
   λhgo hAs hwg' hbk hd hs' hde h6 Gr hmode' hlt=>XI hgo hAs hwg' hbk hd hs' hde h6 Gr (λ_ ht _=>hmode'.retag ht) hlt
  have idle:∀{g':Goroutine}{m':Nat},bh P ο g w=.go g' w #[]→WSit P ty Wg C 1 gB gB Low 1 v s m' dd g' w→m'+1=m→s≤6→
    (vw P ty Wg W base T0 w0 AnchW Out o0 o1 v1) (phi 1 (Vc j D) tag+o9 j D) Y (f0+2*(oF j D+dN (base+1) q)) (dG gs w sl) (base+1) t:=by
   intro g' m' hgo hs' hm h6;exact book hgo (.refl Wg w) hwg (by simp) (by simp) hs' rfl h6 h6 (by have:=hmode.same (i:=0) m' dd;rwa[hst]at this) (.inr ⟨rfl,hm⟩)
  cases DI with
  |r0 h=>
   rcases Goes.cases h with hstop|⟨m',rfl,hstep⟩
   .obtain⟨_,aiS,g',hgo,m₂,hk⟩:=hstop w (mU w);refine Gp hAr ha hcs hpi hi (d':=⟨6,m₂,0⟩) (y':=.done v) hg hgo ⟨rfl,rfl,rfl⟩ (Nat.le_refl _) (.done (.k1 hk)) (λv' e=>?_) (λop hop=>?_) (λop hop=>?_) (by intro e he;simp at he;subst he;simp[mk]) (by rw[hdd];rfl) (λ_=>?_) hwg
     (λ_ ht _=>(hmode.counted hi (by omega) (.inl rfl) _ _).retag ht) (.inl ⟨by rw[hst];simp,by simp[cnt,hst]⟩)
    ·(cases e);exact⟨fJ,λ_=>by simpa using aiS⟩
    .obtain⟨e,he,rfl⟩:=kE hop;simp at he;subst he;exact⟨rfl,λx hx=>by cases hx⟩
    .obtain⟨e,he,rfl⟩:=kE hop;simp at he;subst he;exact λx hx=>by cases hx
    .refine⟨t.size,hpi.tsz,RelBy.new hdk _ _,λi1 x1 hi1 _ hx1=>?_⟩;obtain⟨op,ho,sB⟩:=Ga hx1;rcases getElem?_append_cases ho with⟨hlt,_⟩|⟨_,xd⟩
     .omega
     .obtain⟨e,he,rfl⟩:=kE xd;simp at he;subst he;cases sB
   .obtain⟨g',w',es,hgo,⟨hac,hev⟩,hg'⟩:=hstep w (mU w);simp only[Nat.sub_self]at hac;have Gg:P8 Wg C w w':=⟨λb _ h1=>hac.block b h1,hac.size,hac.pay⟩;have XJ:∀e∈es,∀x,(si e).touch?=θ x→ShN Wg x.loc∧x.kind≠.plain∧x.kind≠.said:=λe he x hx=>by
     rcases ((hev e he).1 0 "").2 x hx with h1 | h1 | ⟨h1, _⟩
     .exact h1
     .exact h1.elim
     .exact h1.elim
    refine Gp hAr ha hcs hpi hi (d':=⟨7,m',0⟩) (y':=.done v) hg hgo ⟨hac.os,hac.output,hac.tape⟩ (by rw[hac.size];exact Nat.le_refl _) (.done (.r0 hg')) (λv' e=>?_) (λop hop=>?_) (λop hop=>?_) (λe he=>(hev e he).2.2.2)
     (by rw[hdd];exact Qg (λe he=>⟨(hev e he).2.1,(hev e he).2.2.1⟩) 0) (λh=>absurd h (by simp)) (hwg.of_block (hac.block Wg (jx G.hCW))) (λ_ ht _=>XA (by have:=hmode.same (i:=0) m' 0;rwa[hst]at this) ht) (.inr (.inr ⟨hst.symm,DH.symm,by rw[hfu]⟩))
    ·(cases e);exact⟨W.Gc fJ Gg,λh=>absurd h (by simp)⟩
    .obtain⟨e,he,rfl⟩:=kE hop;refine⟨rfl,λx hx=>?_⟩;obtain⟨⟨a1,h1,h2⟩,h3⟩:=XJ e he x hx;exact .inl ⟨⟨a1,h1,by rw[h2];exact G.sbW⟩,h3⟩
    .obtain⟨e,he,rfl⟩:=kE hop;intro x hx;obtain⟨⟨a1,h1,h2⟩,h3⟩:=XJ e he x hx;rw[h1];show a1.block<_;rw[h2,hac.size];exact DG
  |k1 h=>
   rcases Goes.cases h with hstop|⟨m',rfl,hstep⟩
   .obtain⟨_,g',hgo,m₂,hk⟩:=hstop w (mU w);exact book hgo (.refl Wg w) hwg bk_dis (by intro jV e he;exact .inl (by have:=Ft he;simp at this;subst this;rfl)) (.d1 hk) rfl (by omega) (by omega)
     (hmode.counted hi (by omega) (.inr rfl) _ _) (.inl ⟨by omega,by simp[cnt,hst]⟩)
   .obtain⟨g',w',es,hgo,⟨rfl,rfl⟩,hg'⟩:=hstep w (mU w);exact idle hgo (.k1 hg') rfl (by omega)
  |d1 h=>
   rcases Goes.cases h with hstop|⟨m',rfl,hstep⟩
   .obtain⟨_,hall⟩:=hstop w (mU w);(have hc1:cnt (D 0)=1:=by simp[cnt,hst]);(have hV1:1≤Vc j D:=by have:=le_sumTo (f:=λx=>cnt (D x)) hi;simp only[Vc];omega);have Qn:∀jV e,(#[rd (stA Wg),wr (stA Wg)]:Array eU)[jV]?=θ e→(si e).touch?=η∨0<deafBehind 1 ((#[rd (stA Wg),wr (stA Wg)]:Array eU).extract 0 jV):=by
     intro jV e he
     match jV,he with
     |0,_=>exact .inr (by simp[deafBehind])
     |1,_=>exact .inr (by simp[deafBehind,rd])
     |jV+2,he=>simp at he
    have Qo:∀q,cnt (⟨1,q,1⟩:WD)=0:=λ_=>rfl;have XK:∀q,OpenSt j D→OpenSt j (upd D 0 ⟨1,q,1⟩):=λq h a ha=>by
     by_cases e:a=0
     .subst e;rw[xk];simp
     .rw[Gn D _ e];exact h a ha
    have hnn:(1:Nat)=1:=rfl;cases hmode with
    |opn h1 h2 h3=>
     obtain⟨v,hv⟩:∃v,Vc j D+mz tag=v+1:=⟨Vc j D+mz tag- 1,by omega⟩;rw[hv]at hwg;(have hw1:jO ty Wg w (((v:Nat)+1)*KK+((0:Nat):Int)) 0:=by simpa using hwg);obtain⟨g',hgo,_,hq⟩:=hall v 0 (by omega) (by omega) hw1;obtain⟨q,hq⟩:=hq (by omega);(have hv':Vc j (upd D 0 ⟨1,q,1⟩)+mz tag=v:=by have:=Vc_upd D (⟨1,q,1⟩:WD) hi;have:=Qo q;omega);refine book hgo (qh w (stA Wg) _) (hwg.setSt _) bk_rw Qn (.quit hq) rfl (by omega) (by omega) ?_ (.inl ⟨by omega,by simp[cnt]⟩);(have e:((v:Nat):Int)*KK+((0:Nat):Int)=((Vc j (upd D 0 ⟨1,q,1⟩)+mz tag:Nat):Int)*KK:=by rw[hv'];simp);rw[e];exact .opn h1 (XK q h2) (λvs ev=>by have:=h3 vs ev;omega)
    |reg h1 h2 h3=>
     obtain⟨v,hv⟩:∃v,Vc j D=v+1:=⟨Vc j D- 1,by omega⟩;rw[hv]at hwg;(have hp:mz tag=0:=by cases tag<;>first|rfl|exact h1.elim);(have hw1:jO ty Wg w (((v:Nat)+1)*KK+((1:Nat):Int)) 0:=by simpa using hwg);obtain⟨g',hgo,hl,hq⟩:=hall v 1 (by omega) (by omega) hw1;by_cases hv0:v=0
     ·(subst hv0;obtain⟨m₂,hk⟩:=hl ⟨rfl,rfl⟩;refine book hgo (qh w (stA Wg) _) (hwg.setSt _) bk_rw Qn (.d2 hk) rfl (by omega) (by omega) ?_ (.inl ⟨by omega,by simp[cnt]⟩);have vz:∀a,a<j→a≠0→(D a).stage=1:=λa ha e=>by have c0:=others_uncounted hi hv hc1 a ha e;have:=h2 a ha;simp only[cnt]at c0;split at c0<;>omega);have:=Qh (j:=j) (D:=upd D 0 ⟨4,m₂,1⟩) (tag:=tag) 0 h1 hi (by rw[xk];simp) (λa ha e=>by rw[Gn D _ e];exact vz a ha e);rw[xk]at this;simpa using this
     .obtain⟨q,hq⟩:=hq (by omega);(have hv':Vc j (upd D 0 ⟨1,q,1⟩)=v:=by have:=Vc_upd D (⟨1,q,1⟩:WD) hi;have:=Qo q;omega);refine book hgo (qh w (stA Wg) _) (hwg.setSt _) bk_rw Qn (.quit hq) rfl (by omega) (by omega) ?_ (.inl ⟨by omega,by simp[cnt]⟩);(have e:((v:Nat):Int)*KK+((1:Nat):Int)=((Vc j (upd D 0 ⟨1,q,1⟩):Nat):Int)*KK+1:=by rw[hv'];simp);rw[e];exact .reg h1 (XK q h2) (by omega)
    |last L _ h2 h3 h4=>
     by_cases e:0=L
     .subst e;omega
     .have:=h4 0 hi e;omega
    |sema h2=>have:=h2 0 hi;omega
    |fin _ h2=>have:=h2 0 hi;omega
   .obtain⟨g',w',es,hgo,⟨rfl,rfl⟩,hg'⟩:=hstep w (mU w);exact idle hgo (.d1 hg') rfl (by omega)
  |d2 h=>
   rcases Goes.cases h with hstop|⟨m',rfl,hstep⟩
   .obtain⟨_,hx⟩:=hstop w (mU w);obtain⟨Gs,vz,rfl,rfl⟩:=hmode.isLast hi (by omega);simp only[hst]at hwg;obtain⟨g',hgo,m₂,hk⟩:=hx (by simpa using hwg);refine book hgo (.refl Wg w) hwg bk_rd (by intro jV e he;match jV,he with|0,_=>exact .inr (by simp[deafBehind])|jV+1,he=>simp at he) (.d3 hk) rfl (by omega) (by omega) ?_ (.inl ⟨by omega,by simp[cnt]⟩);have:=Qh (j:=j) (D:=upd D 0 ⟨3,m₂,1⟩) (tag:=tag) 0 Gs hi (by rw[xk];simp) (λa ha e=>by rw[Gn D _ e];exact vz a ha e);rw[xk]at this;simpa using this
   .obtain⟨g',w',es,hgo,⟨rfl,rfl⟩,hg'⟩:=hstep w (mU w);exact idle hgo (.d2 hg') rfl (by omega)
  |d3 h=>
   rcases Goes.cases h with hstop|⟨m',rfl,hstep⟩
   .obtain⟨_,hx⟩:=hstop w (mU w);obtain⟨Gs,vz,rfl,rfl⟩:=hmode.isLast hi (by omega);simp only[hst]at hwg;obtain⟨g',hgo,m₂,hk⟩:=hx (by simpa using hwg);refine book hgo (qh w (stA Wg) _) (hwg.setSt 0) (by intro e he;simp at he;subst he;exact bk_cell _ _ rfl) (by intro jV e he;match jV,he with|0,_=>exact .inr (by simp[deafBehind])|jV+1,he=>simp at he) (.d4 hk) rfl (by omega) (by omega) ?_ (.inl ⟨by omega,by simp[cnt]⟩);have:=Qh (j:=j) (D:=upd D 0 ⟨2,m₂,1⟩) (tag:=tag) 0 Gs hi (by rw[xk];simp) (λa ha e=>by rw[Gn D _ e];exact vz a ha e);rw[xk]at this;simpa using this
   .obtain⟨g',w',es,hgo,⟨rfl,rfl⟩,hg'⟩:=hstep w (mU w);exact idle hgo (.d3 hg') rfl (by omega)
  |d4 h=>
   rcases Goes.cases h with hstop|⟨m',rfl,hstep⟩
   .obtain⟨_,aiT,hx⟩:=hstop w (mU w);obtain⟨Gs,vz,rfl,rfl⟩:=hmode.isLast hi (by omega);simp only[hst]at hwg;obtain⟨g',hgo,q,hq⟩:=hx (by simpa using hwg);have Gt:g'.status=.running:=by
     cases q with
     |zero=>exact absurd hq.2 (by decide)
     |succ q=>exact hq.elim (λx=>absurd x.2 (by decide)) (λx=>x.1)
    refine XI hgo (qh w (smA Wg) _) (hwg.setSm 1) (es:=Bm (smA Wg)) bk_sem ?_ (.quit hq) (by simp[deafBehind,Bm]) (by omega) (by omega) ?_ (.inl ⟨by omega,by simp[cnt]⟩)
    .intro jV e he
     match jV,he with
     |0,he=>simp[Bm]at he;subst he;exact .inl rfl
     |1,_=>exact .inr (by simp[deafBehind,Bm])
     |2,_=>exact .inr (by simp[deafBehind,Bm])
     |3,he=>simp[Bm]at he;subst he;exact .inl rfl
     |jV+4,he=>simp[Bm]at he
    .intro tag' ht hw;have hnb:=hw aiT Gt;have e3:tag'=.w3:=by
      rcases ht with rfl|⟨_,rfl⟩
      .cases tag' <;>first|rfl|exact Gs.elim|exact absurd rfl hnb
      .rfl
     subst e3;simp only[dF];exact .sema λa ha=>by
      by_cases e:a=0
      .subst e;rw[xk]
      .rw[Gn D _ e];exact vz a ha e
   .obtain⟨g',w',es,hgo,⟨rfl,rfl⟩,hg'⟩:=hstep w (mU w);exact idle hgo (.d4 hg') rfl (by omega)
  |quit h=>
   cases m with
   |zero=>rw[h.1]at hrun;cases hrun
   |succ q1=>
    rcases h with⟨hf,_⟩|⟨_,g',es,XL,hstep,hq⟩
    .rw[hf]at hrun;cases hrun
    .have hbk:∀e∈es,Bk Wg e:=λe he=>bk_of_mute (XL e he);refine book (hstep w) (.refl Wg w) hwg hbk (λjV e he=>.inl (touch_mute (XL e (Ft he)))) (.quit hq) rfl (by omega) (by omega) (by have:=hmode.same (i:=0) q1 (deafBehind dd es);rwa[hst]at this) (.inr ⟨rfl,rfl⟩)
end
end
end fV
end Go.Proofs.YtfphigmeppdocaaGreatDoor
namespace Go.Proofs.YtfphigmeppdocaaGreatDoor
namespace fV
open Go.Conc Go.ConcN
open Go.ConcR (KK wgBlock WgAt stA smA rd wr mk Payload DC0 Bk g_of_ofEvents again_blocked ofEvent_loc_mark ofEvent_cell ofEvent_mk)
theorem XM{ag}{Wg j}{es}{Own Rd}(hW:ag Wg){fn:FuncId}{pos:String}(h:∀e∈es,Bk Wg e):∀op∈MemOp.ofEvents 0 fn pos es,Ok0 (mm ag) Own Rd j op/\∀B,Wg<B->mj B op.act:=by
 intro op hop;obtain⟨e,he,rfl⟩:=kE hop;rcases h e he with h1|h1|⟨a,wr,rfl,ha⟩
 .exact⟨⟨rfl,λx hx=>by simp only[vv h1]at hx;cases hx⟩,(λB _ x hx=>by simp only[vv h1]at hx;cases hx)⟩
 .exact⟨⟨rfl,λx hx=>by simp only[vv h1]at hx;cases hx⟩,(λB _ x hx=>by simp only[vv h1]at hx;cases hx)⟩
 .refine⟨⟨rfl,λx hx=>?_⟩,λB hB x hx=>?_⟩<;>simp only[vu,sI,Γ]at hx<;>subst hx
  .exact .inl ⟨⟨a,rfl,by rw[ha];exact hW⟩,by simp⟩
  .show a.block<B;omega
section
variable [u5]
section
variable (P:Program) {ag:Nat->Prop} (ty:Θ) (Wg:Nat) {C Low:Nat} (W:sC P ag ty Wg C Low) (base:Nat) (w0:υ) (Out:Goroutine->Prop)
structure Joined(gs:Array Goroutine)(a:Goroutine)(w:υ)(t:gS)(q:Nat->Nat):Prop where
 zero:gs[0]?=θ a
 out:Out a
 size:gs.size=base+2
 fr:Fr P ag gs q w t
 fin:∃v,Has C 0 v w/\W.Fin v w
 same:w.os=w0.os/\w.output=w0.output/\w.tape=w0.tape
 live:dy ty Wg w
end
section
variable {P:Program}{ag:Nat->Prop}{ty:Θ}{Wg C Low:Nat}{W:sC P ag ty Wg C Low}{base T0:Nat}{w0:υ}{AnchW:Goroutine->υ->Prop}{Out:Goroutine->Prop}{o0:Obj}{o1:Obj}{v1:ay}
 {gs:Array Goroutine}{w w':υ}{sl:Option (Nat×Nat)}{t:gS}{j:Nat}{D:Nat->WD}{Y:iz W.X}{q:Nat->Nat}{f0 f' d0:Nat}{eD vt :Option Obj}{tag tag':CTag}{a a':Goroutine}{st sm st' sm':Int}{es:Array eU}
theorem Ky(G:sD ag Wg C Low)(ha:gs[0]?=θ a)(hpi:(jd P ty Wg W base T0 w0) gs w t j (D 0) Y q d0 eD)(dQ:j=0->∃v,Y=.done v)(hgo:bh P ν a w=.go a' w' es)(hout:w'.os=w.os/\w'.output=w.output/\w'.tape=w.tape)(hsize:w.heap.size<=w'.heap.size)(hst:j=1->q5 Wg w w')(hold:j=0->∀b,b<Low->b≠Wg->w'.heap[b]?=w.heap[b]?)(hok:∀op∈MemOp.ofEvents 0 a.frame.fn a.frame.place es,Ok0 (mm ag) (Bi base ag) gB (base+j) op)(sF:∀op∈MemOp.ofEvents 0 a.frame.fn a.frame.place es,mj w'.heap.size op.act)(hnr:∀e∈es,e.loc≠.mark (.release (stA Wg)))(hn0:j=0->vt=η->w'.heap.size=Low)(hnb:∀o,vt=θ o->j=0/\w'.heap.size=Low+1/\w'.heap[Low]?=θ o)(hcs':(fy P ty Wg AnchW Out W w0 o0 o1 v1) tag' j f' (deafBehind d0 es) vt a' w')(hwg:jO ty Wg w' st' sm')(hmode:tX j D tag' st' sm')(hlt:phi 1 (Vc j D) tag'<phi 1 (Vc j D) tag\/(phi 1 (Vc j D) tag'=phi 1 (Vc j D) tag/\f'<f0)):(vw P ty Wg W base T0 w0 AnchW Out o0 o1 v1) (phi 1 (Vc j D) tag+o9 j D) Y (f0+2*(oF j D+dN (base+1) q)) (dG gs w sl) 0 t:=by
 have hrun:=yG (P:=P) (sl:=sl) (i:=0) ha (by simpa using hgo);have xl:=hpi.step0 (a:=a) (a':=a') G hout hsize ⟨_,_,hwg⟩ hst hold hok sF hnr hn0 hnb;refine⟨_,_,phi 1 (Vc j D) tag'+o9 j D,Y,f'+2*(oF j D+dN (base+1) q),hrun,?_,
  _,w',sl,j,D,tag',f',deafBehind d0 es,vt,a',st',sm',q,rfl,get_map_set_same _ _ _ (by rw[hpi.size];omega),hcs',xl,hwg,hmode,dQ,rfl,rfl⟩
 rcases hlt with h|⟨h1,h2⟩
 .exact .inl (by omega)
 .exact .inr (.inr ⟨by rw[h1],rfl,by omega⟩)
theorem bookC(G:sD ag Wg C Low)(ha:gs[0]?=θ a)(hpi:(jd P ty Wg W base T0 w0) gs w t j (D 0) Y q d0 eD)(dQ:j=0->∃v,Y=.done v)(hgo:bh P ν a w=.go a' w' es)(hAs:Aside Wg w w')(hbk:∀e∈es,Bk Wg e)(hnb:vt=eD)(hcs':(fy P ty Wg AnchW Out W w0 o0 o1 v1) tag' j f' (deafBehind d0 es) vt a' w')(hwg:jO ty Wg w' st' sm')(hmode:tX j D tag' st' sm')(hlt:phi 1 (Vc j D) tag'<phi 1 (Vc j D) tag\/(phi 1 (Vc j D) tag'=phi 1 (Vc j D) tag/\f'<f0)):(vw P ty Wg W base T0 w0 AnchW Out o0 o1 v1) (phi 1 (Vc j D) tag+o9 j D) Y (f0+2*(oF j D+dN (base+1) q)) (dG gs w sl) 0 t:=by
 have DG:=Nat.lt_of_lt_of_le G.hW hpi.lo;refine Ky G ha hpi dQ hgo ⟨hAs.os,hAs.output,hAs.tape⟩ (by rw[hAs.size];exact Nat.le_refl _) (λ_=>⟨λb h1=>hAs.block b h1,hAs.size⟩) (λ_ b _ h1=>hAs.block b h1) (λop hop=>(XM G.sbW hbk op hop).1) (λop hop=>(XM (j:=0) (Own:=gB) (Rd:=gB) G.sbW hbk op hop).2 _ (by rw[hAs.size];exact DG)) (norel_of_Bk hbk)
  (λhj hn=>by rw[hAs.size];exact hpi.nob hj (hnb▸hn)) (λo hb=>?_) hcs' hwg hmode hlt
 subst hnb;obtain⟨h1,h2,h3⟩:=hpi.nb o hb;exact⟨h1,by rw[hAs.size];exact h2,by rw[hAs.block Low (by have:=G.hW;omega)];exact h3⟩
theorem idleC(G:sD ag Wg C Low)(ha:gs[0]?=θ a)(hpi:(jd P ty Wg W base T0 w0) gs w t j (D 0) Y q d0 eD)(dQ:j=0->∃v,Y=.done v)(hgo:bh P ν a w=.go a' w' es)(hD:D0 Wg w w' es)(hcs':(fy P ty Wg AnchW Out W w0 o0 o1 v1) tag j f' d0 eD a' w')(hwg:jO ty Wg w st sm)(hmode:tX j D tag st sm)(hf:f'<f0):(vw P ty Wg W base T0 w0 AnchW Out o0 o1 v1) (phi 1 (Vc j D) tag+o9 j D) Y (f0+2*(oF j D+dN (base+1) q)) (dG gs w sl) 0 t:=by
 obtain⟨rfl,hev⟩:=hD;have DG:=Nat.lt_of_lt_of_le G.hW hpi.lo;have hdf:=Qg (λe he=>⟨(hev e he).2.1,(hev e he).2.2.1⟩) d0;refine Ky G ha hpi dQ hgo ⟨rfl,rfl,rfl⟩ (Nat.le_refl _) (λ_=>⟨λ_ _=>rfl,rfl⟩) (λ_ _ _ _=>rfl) (λop hop=>?_) (λop hop=>?_) (λe he=>(hev e he).2.2.2) hpi.nob hpi.nb (by rw[hdf];exact hcs') hwg hmode (.inr ⟨rfl,hf⟩)
 .obtain⟨e,he,rfl⟩:=kE hop;refine⟨rfl,λx hx=>?_⟩;obtain⟨⟨a1,h1,h2⟩,h3⟩:=(hev e he).1 x hx;exact .inl ⟨⟨a1,h1,by rw[h2];exact G.sbW⟩,h3⟩
 .obtain⟨e,he,rfl⟩:=kE hop;intro x hx;obtain⟨⟨a1,h1,h2⟩,h3⟩:=(hev e he).1 x hx;rw[h1];show a1.block<_;rw[h2];exact DG
theorem w1Step(G:sD ag Wg C Low)(ha:gs[0]?=θ a)(hpi:(jd P ty Wg W base T0 w0) gs w t 1 (D 0) Y q 1 η)(dQ:(1:Nat)=0->∃v,Y=.done v)(hwg:jO ty Wg w st sm)(hmode:tX 1 D .w1 st sm)(h:Goes P ν (R0 ty Wg) (D0 Wg) (AtW1 P ty Wg AnchW Out) f0 a w):(vw P ty Wg W base T0 w0 AnchW Out o0 o1 v1) (phi 1 (Vc 1 D) .w1+o9 1 D) Y (f0+2*(oF 1 D+dN (base+1) q)) (dG gs w sl) 0 t:=by
 rcases Goes.cases h with hstop|⟨m',rfl,hstep⟩
 .obtain⟨_,hall⟩:=hstop w (R0.refl ty Wg w);obtain⟨ho,rfl,rfl,_⟩:=hmode.open_inv trivial;have hV:=Vc_le 1 D;obtain⟨a',hgo,h0,hne⟩:=hall (Vc 1 D) (by omega) (by simpa[mz]using hwg);by_cases hv:Vc 1 D=0
  .obtain⟨m₂,hk⟩:=h0 hv;refine bookC G ha hpi dQ hgo (.refl Wg w) bk_rd rfl (tag':=.ke) (.ke hk) hwg ?_ (.inl (by simp only[phi];omega));(have e:((Vc 1 D+mz .w1:Nat):Int)*KK=0:=by rw[hv];simp[mz]);rw[e];exact .fin trivial (allQuit_of ho hv)
  .obtain⟨m₂,hk⟩:=hne hv;exact bookC G ha hpi dQ hgo (.refl Wg w) bk_rd rfl (tag':=.w2 (Vc 1 D)) (.w2 hk) hwg (hmode.reopen trivial trivial rfl (λvs e=>by cases e;omega)) (.inl (by simp only[phi];omega))
 .obtain⟨a',w',es,hgo,hD,hg'⟩:=hstep w (R0.refl ty Wg w);exact idleC G ha hpi dQ hgo hD (.w1 hg') hwg hmode (by omega)
theorem aiU(ha:gs[0]?=θ a)(hl:dy ty Wg w)(G:sD ag Wg C Low)(hpi:(jd P ty Wg W base T0 w0) gs w t 1 (D 0) Y q 0 η)(hq:AllQuit 1 D)(hgo:bh P ν a w=.go a' w #[mk (.acquire (stA Wg))])(b8:Out a'):∃gs' ops q',runT P (dG gs w sl) 0=(.next (dG gs' w sl),ops)/\Joined P ty Wg W base w0 Out gs' a' w (t++ops) q':=by
 have hrun:=yG (P:=P) (sl:=sl) (i:=0) ha (by simpa using hgo);have hsz:=hpi.size;have e1:MemOp.ofEvents 0 a.frame.fn a.frame.place #[mk (.acquire (stA Wg))]=#[{g:=0,fn:=a.frame.fn,pos:=a.frame.place,act:=.mark (.acquire (stA Wg)) }]:=by rw[Gk];simp[ofEvent_mk]
 have hy:(t++#[({g:=0,fn:=a.frame.fn,pos:=a.frame.place,act:=.mark (.acquire (stA Wg)) }:MemOp)])[t.size]?=θ {g:=0,fn:=a.frame.fn,pos:=a.frame.place,act:=.mark (.acquire (stA Wg)) }:=by simp
 have hok:∀op∈MemOp.ofEvents 0 a.frame.fn a.frame.place #[mk (.acquire (stA Wg))],op.act.touch?=η/\op.g=0/\op.act≠.mark (.release (stA Wg)):=by intro op hop;rw[e1]at hop;simp at hop;subst hop;exact⟨rfl,rfl,by simp⟩
 have hT:=e4.app0 Gf hpi.tr (λop hop=>⟨(hok op hop).2.1,λx hx=>by rw[(hok op hop).1]at hx;cases hx⟩) (λop hop=>PX (hok op hop).1);have hB:=hT.back (q:=t.size) (T0:=T0) (Ge hpi.norel λop hop=>(hok op hop).2.2) (by rw[e1,act?_of hy]) (by rw[e1];simp[su])
  (by rw[e1];exact⟨0,by simp[su],by rw[deaf_old (Nat.le_refl _)];exact hpi.deaf0⟩) (λk hk hkn=>by
   (obtain rfl:k=base+1:=by omega);obtain⟨r,tQ,hr⟩:=hpi.rel rfl (by rw[hq 0 (by omega)];omega);exact⟨r,tQ,hr.app (hr.xe.appOther (λop hop=>(hok op hop).2.1) (by omega)) λop hop hg=>by have:=(hok op hop).2.1;omega,lt_of_act? hr.xe.act⟩)
 obtain⟨g,v,hg,aiV,Qp⟩:∃g v,gs[base+1]?=θ g/\Y=.done v/\QuitsD P (D 0).fuel (D 0).deaf g:=by
  obtain⟨g,hg,hs⟩:=hpi.wk rfl;obtain⟨y,XN⟩:∃y,Y=y:=⟨Y,rfl⟩;rw[XN]at hs;cases hs with
  |work h7=>have:=hq 0 (by omega);omega
  |done hs=>exact⟨g,_,hg,XN,hs.quits (hq 0 (by omega))⟩
 refine⟨_,_,λk=>if k<=base then q k else(D 0).fuel,hrun,⟨get_map_set_same _ _ _ (by omega),b8,by simp[hsz],⟨λk x hk hx=>?_,λk hk=>?_,?_,?_,λb hb=>Nat.lt_of_lt_of_le (G.sbL b hb) hpi.lo⟩,?_,hpi.out,hl⟩⟩
 .rw[wR _ _ _ _ (by omega)]at hx;obtain⟨y,hy',rfl⟩:=kZ.1 hx;rw[l6 t (by omega) _ o3];by_cases hkb:k<=base
  .have:=hpi.lv k y hk hkb hy';rw[wP this];simp only[hkb,dF];exact this
  ·(obtain rfl:k=base+1:=by have:=(ξ.1 hy').1;omega);(rw[hy']at hg;cases hg);rw[wP Qp];simp only[hkb,fh];rw[hpi.deafW rfl];exact Qp
 .simp only[yF,CV]at hk;rw[l6 t (by omega) _ o3];exact hpi.above k hk
 .have:((gs.map (sg P a a' w)).setIfInBounds 0 a').size- 1=base+1:=by simp only[yF,CV,hsz];omega
  rw[this];exact hB
 .rw[Deaf_own,hpi.deaf0];rfl
 .obtain⟨h1,h2⟩:=hpi.fin v rfl aiV;exact⟨v,h2 (by rw[hq 0 (by omega)];omega),h1⟩
theorem stepCaller(G:sD ag Wg C Low)(hAn:∀g w,AnchW g w->∃m,Goes P ν (R0 ty Wg) (D0 Wg) (AtW1 P ty Wg AnchW Out) m g w)(ha:gs[0]?=θ a)(hcs:(fy P ty Wg AnchW Out W w0 o0 o1 v1) tag j f0 d0 eD a w)(hpi:(jd P ty Wg W base T0 w0) gs w t j (D 0) Y q d0 eD)(dQ:j=0->∃v,Y=.done v)(hwg:jO ty Wg w st sm)(hmode:tX j D tag st sm)(hrun:a.status=.running):(vw P ty Wg W base T0 w0 AnchW Out o0 o1 v1) (phi 1 (Vc j D) tag+o9 j D) Y (f0+2*(oF j D+dN (base+1) q)) (dG gs w sl) 0 t \/
  ∃gs' a' ops q',runT P (dG gs w sl) 0=(.next (dG gs' w sl),ops)/\Joined P ty Wg W base w0 Out gs' a' w (t++ops) q':=by
 have hVj:=Vc_le j D;have hb:=hcs.bound;have rr:=R0.refl ty Wg w;cases hcs with
 |Du h=>
  left;rcases Goes.cases h with hstop|⟨m',rfl,hstep⟩
  ·(obtain⟨_,hx⟩:=hstop w rr;have hL:=hpi.nob rfl rfl;obtain⟨a',hgo,m₂,hk⟩:=hx hL;have hlt:∀b,b<Low->({w with heap:=w.heap.push o0 }:υ).heap[b]?=w.heap[b]?:=λb hb'=>by(have aq:b<w.heap.size:=by omega);simp only;rw[Qa aq,qT aq]);exact Ky G ha hpi dQ hgo ⟨rfl,rfl,rfl⟩ (by simp) (λh=>by omega) (λ_ b hb' _=>hlt b hb') (by rw[Gk];simp) (by rw[Gk];simp) (by simp) (λ_ h=>by cases h) (λo e=>by cases e;exact⟨rfl,by simp[hL],by simp[<-hL]⟩) (.Dv hk) (tag':=.sp 0 6) (hwg.of_block (hlt Wg G.hW)) (hmode.reopen trivial trivial (by simp[mz]) (by simp)) (.inl (by simp only[phi];omega))
  .obtain⟨a',w',es,hgo,hD,hg'⟩:=hstep w rr;exact idleC G ha hpi dQ hgo hD (.Du hg') hwg hmode (by omega)
 |Dv h=>
  left;obtain⟨_,n2,Gu⟩:=hpi.nb o0 rfl;rcases Goes.cases h with hstop|⟨m',rfl,hstep⟩
  .obtain⟨_,hx⟩:=hstop w rr;obtain⟨a',hgo,hnew,m₂,hk⟩:=hx Gu;(have y3:(w.setCell ⟨Low,0,η⟩ v1).heap.size=w.heap.size:=by simp[eV]);have vz:∀b,b≠Low->(w.setCell ⟨Low,0,η⟩ v1).heap[b]?=w.heap[b]?:=λb hb'=>(qh w ⟨Low,0,η⟩ _).block b hb';refine Ky G ha hpi dQ hgo ⟨rfl,rfl,rfl⟩ (by rw[y3];exact Nat.le_refl _) (λh=>by omega) (λ_ b hb' _=>vz b (by omega)) (λop hop=>?_) (λop hop=>?_) (by intro e he;simp at he;subst he;simp) (λ_ h=>by cases h) (λo e=>?_) (.skd hk) (tag':=.sp 0 5) (hwg.of_block (vz Wg (by have:=G.hW;omega))) (hmode.reopen trivial trivial (by simp[mz]) (by simp)) (.inl (by simp only[phi];omega))
   .obtain⟨e,he,rfl⟩:=kE hop;simp at he;subst he;refine⟨rfl,λx hx=>.inr ?_⟩;simp only[vu,sI,Γ]at hx;subst hx;exact⟨λ⟨a1,e1,e2⟩=>by cases e1;have:=G.sbL _ e2;simp only at this;omega,λk k1 kj hk'=>by have:=hk'.1;omega,λ_ k k1 kj hk'=>hk'⟩
   .obtain⟨e,he,rfl⟩:=kE hop;simp at he;subst he;intro x hx;simp only[vu,sI,Γ]at hx;subst hx;show Low<_;rw[y3];omega
   ·(cases e);exact⟨rfl,by rw[y3];exact n2,hnew⟩
  .obtain⟨a',w',es,hgo,hD,hg'⟩:=hstep w rr;exact idleC G ha hpi dQ hgo hD (.Dv hg') hwg hmode (by omega)
 |skd h=>
  left;rcases Goes.cases h with hstop|⟨m',rfl,hstep⟩
  .obtain⟨_,a',hgo,m₂,hk⟩:=hstop w rr;exact bookC G ha hpi dQ hgo (.refl Wg w) bk_dis rfl (.sa1 hk) hwg (hmode.reopen trivial trivial rfl (by simp)) (.inl (by simp only[phi];omega))
  .obtain⟨a',w',es,hgo,hD,hg'⟩:=hstep w rr;exact idleC G ha hpi dQ hgo hD (.skd hg') hwg hmode (by omega)
 |sa1 h=>
  left;rcases Goes.cases h with hstop|⟨m',rfl,hstep⟩
  .obtain⟨_,hall⟩:=hstop w rr;obtain⟨ho,rfl,rfl,_⟩:=hmode.open_inv trivial;obtain⟨a',hgo,m₂,hk⟩:=hall (Vc 0 D) (by omega) (by simpa[mz]using hwg);refine bookC G ha hpi dQ hgo (qh w (stA Wg) _) bk_rw rfl (.ske hk) (hwg.setSt _) ?_ (.inl (by simp only[phi];omega));(have e:(((Vc 0 D:Nat):Int)+1)*KK=((Vc 0 D+mz (.sp 0 3):Nat):Int)*KK:=by simp[mz]);rw[e];exact .opn trivial ho (by simp)
  .obtain⟨a',w',es,hgo,hD,hg'⟩:=hstep w rr;exact idleC G ha hpi dQ hgo hD (.sa1 hg') hwg hmode (by omega)
 |ske h=>
  left;rcases Goes.cases h with hstop|⟨m',rfl,hstep⟩
  .obtain⟨_,a',hgo,m₂,hk⟩:=hstop w rr;exact bookC G ha hpi dQ hgo (.refl Wg w) bk_en rfl (.sgo hk) hwg (hmode.reopen trivial trivial rfl (by simp)) (.inl (by simp only[phi];omega))
  .obtain⟨a',w',es,hgo,hD,hg'⟩:=hstep w rr;exact idleC G ha hpi dQ hgo hD (.ske hg') hwg hmode (by omega)
 |sgo h=>
  left;rcases Goes.cases h with hstop|⟨m',rfl,hstep⟩
  ·(obtain⟨_,a',child,hsp,hnext,aiW⟩:=hstop w rr;obtain⟨_,n2,Gu⟩:=hpi.nb _ rfl;obtain⟨x0,hx0⟩:=aiW Gu (hpi.old rfl) n2 ⟨_,_,hwg⟩;obtain⟨ho,rfl,rfl,_⟩:=hmode.open_inv trivial;have Gt:=runT_crowd_spawn (P:=P) (sl:=sl) (i:=0) ha (by simpa using hsp);rw[hpi.size]at Gt;have xl:=hpi.spawn (a':=a') (x:={g:=0,fn:=a.frame.fn,pos:=a.frame.place,act:=.go (base+1) }) (y:={g:=base+1,fn:=child.frame.fn,pos:=a.frame.place,act:=.start }) ⟨rfl,rfl⟩ ⟨rfl,rfl⟩ hx0;have ha':((gs.setIfInBounds 0 a').push child)[0]?=θ a':=by(have h0:0<gs.size:=by rw[hpi.size];omega);rw[Qa (by simpa using h0),<- qT];simp[h0]);(have o5:((MemOp.ofEvents 0 a.frame.fn a.frame.place #[]).push {g:=0,fn:=a.frame.fn,pos:=a.frame.place,act:=.go (base+1) } |>.push {g:=base+1,fn:=child.frame.fn,pos:=a.frame.place,act:=.start })=#[{g:=0,fn:=a.frame.fn,pos:=a.frame.place,act:=.go (base+1) },{g:=base+1,fn:=child.frame.fn,pos:=a.frame.place,act:=.start }]:=by rw[Gk];simp);rw[Nat.add_zero,o5]at Gt;obtain⟨m₂,hk⟩:=hnext;refine⟨_,_,_,.at_ x0,m₂+2*(oF 1 (λ_=>⟨7,0,0⟩)+dN (base+1) q),Gt,?_,_,w,sl,1,λ_=>⟨7,0,0⟩,.kd,m₂,0,η,a',_,_,q,rfl,ha',.kd hk,xl,hwg,?_,λh=>by omega,rfl,rfl⟩
   .refine .inl ?_;simp only[phi,o9,dN];simp
   ·(have e:((Vc 0 D+mz (.sp 0 2):Nat):Int)*KK=((Vc 1 (λ_=>(⟨7,0,0⟩:WD))+mz .kd:Nat):Int)*KK:=by simp[Vc,dN,cnt,mz]);rw[e];exact .opn trivial (λi _=>by simp) (by simp)
  .obtain⟨a',w',es,hgo,hD,hg'⟩:=hstep w rr;exact idleC G ha hpi dQ hgo hD (.sgo hg') hwg hmode (by omega)
 |kd h=>
  left;rcases Goes.cases h with hstop|⟨m',rfl,hstep⟩
  .obtain⟨_,a',hgo,m₂,hk⟩:=hstop w rr;exact bookC G ha hpi dQ hgo (.refl Wg w) bk_dis rfl (.anch hk) hwg (hmode.reopen trivial trivial rfl (by simp)) (.inl (by simp only[phi];omega))
  .obtain⟨a',w',es,hgo,hD,hg'⟩:=hstep w rr;exact idleC G ha hpi dQ hgo hD (.kd hg') hwg hmode (by omega)
 |anch h=>
  left;rcases Goes.cases h with hstop|⟨m',rfl,hstep⟩
  .obtain⟨m₂,hk⟩:=hAn a w (hstop w rr);obtain⟨m₁,ops,N',Y',F',h1,h2,h3⟩:=w1Step (base:=base) (w0:=w0) (o0:=o0) (o1:=o1) (v1:=v1) (T0:=T0) (sl:=sl) G ha hpi dQ hwg (hmode.reopen trivial trivial rfl (by simp)) hk;refine⟨m₁,ops,N',Y',F',h1,.inl ?_,h3⟩;simp only[phi]at h2 ⊢;rcases h2 with h2|⟨h2,_⟩|⟨h2,_⟩<;>omega
  .obtain⟨a',w',es,hgo,hD,hg'⟩:=hstep w rr;exact idleC G ha hpi dQ hgo hD (.anch hg') hwg hmode (by omega)
 |w1 h=>exact .inl (w1Step G ha hpi dQ hwg hmode h)
 |w2 h=>
  rename_i vs;left;rcases Goes.cases h with hstop|⟨m',rfl,hstep⟩
  .obtain⟨_,hall⟩:=hstop w rr;obtain⟨ho,rfl,rfl,cc⟩:=hmode.open_inv trivial;obtain⟨hle,h1⟩:=cc vs rfl;obtain⟨aiY,aiZ⟩:=hall (Vc 1 D) (by omega) (by simpa[mz]using hwg);by_cases e:Vc 1 D=vs
   .obtain⟨a',hgo,m₂,hk⟩:=aiY e;exact bookC G ha hpi dQ hgo (qh w (stA Wg) _) bk_rw rfl (.w3 hk) (hwg.setSt _) (.reg trivial ho (by omega)) (.inl (by simp only[phi];omega))
   .obtain⟨a',hgo,m₂,hk⟩:=aiZ e;exact bookC G ha hpi dQ hgo (.refl Wg w) bk_rd rfl (.anch hk) hwg (hmode.reopen trivial trivial rfl (by simp)) (.inl (by simp only[phi];omega))
  .obtain⟨a',w',es,hgo,hD,hg'⟩:=hstep w rr;exact idleC G ha hpi dQ hgo hD (.w2 hg') hwg hmode (by omega)
 |w3 h=>
  left;rcases Goes.cases h with hstop|⟨m',rfl,hstep⟩
  .obtain⟨_,hoff,hblk,ai0⟩:=hstop w rr;cases hmode with
   |opn h1 _ _=>exact h1.elim
   |reg h1 h2 h3=>exact bookC G ha hpi dQ (hblk ⟨_,hwg⟩) (.refl Wg w) (by simp) rfl (.blk hstop) hwg (.reg trivial h2 h3) (.inr ⟨rfl,by omega⟩)
   |last L h1 h2 h3 h4=>exact bookC G ha hpi dQ (hblk ⟨_,hwg⟩) (.refl Wg w) (by simp) rfl (.blk hstop) hwg (.last L trivial h2 h3 h4) (.inr ⟨rfl,by omega⟩)
   |sema h2=>
    obtain⟨a',hgo,m₂,hk⟩:=ai0 hwg;exact bookC G ha hpi dQ hgo (qh w (smA Wg) _) bk_sem rfl (.w4 hk) (hwg.setSm 0) (.fin trivial h2) (.inl (by simp only[phi];omega))
   |fin h1 _=>exact h1.elim
  .obtain⟨a',w',es,hgo,hD,hg'⟩:=hstep w rr;exact idleC G ha hpi dQ hgo hD (.w3 hg') hwg hmode (by omega)
 |blk h=>simp at hrun
 |w4 h=>
  left;rcases Goes.cases h with hstop|⟨m',rfl,hstep⟩
  .obtain⟨_,hx⟩:=hstop w rr;obtain⟨hq,rfl,rfl⟩:=hmode.fin_inv trivial;obtain⟨a',hgo,m₂,hk⟩:=hx hwg;exact bookC G ha hpi dQ hgo (.refl Wg w) bk_rd rfl (.ke hk) hwg (.fin trivial hq) (.inl (by simp only[phi];omega))
  .obtain⟨a',w',es,hgo,hD,hg'⟩:=hstep w rr;exact idleC G ha hpi dQ hgo hD (.w4 hg') hwg hmode (by omega)
 |ke h=>
  left;rcases Goes.cases h with hstop|⟨m',rfl,hstep⟩
  .obtain⟨_,a',hgo,m₂,hk⟩:=hstop w rr;obtain⟨hq,rfl,rfl⟩:=hmode.fin_inv trivial;exact bookC G ha hpi dQ hgo (.refl Wg w) bk_en rfl (.acq hk) hwg (.fin trivial hq) (.inl (by simp only[phi];omega))
  .obtain⟨a',w',es,hgo,hD,hg'⟩:=hstep w rr;exact idleC G ha hpi dQ hgo hD (.ke hg') hwg hmode (by omega)
 |acq h=>
  rcases Goes.cases h with hstop|⟨m',rfl,hstep⟩
  .obtain⟨_,a',hgo,b8⟩:=hstop w rr;obtain⟨hq,rfl,rfl⟩:=hmode.fin_inv trivial;right;obtain⟨gs',ops,q',h1,h2⟩:=aiU (sl:=sl) ha ⟨_,_,hwg⟩ G hpi hq hgo b8;exact⟨gs',a',ops,q',h1,h2⟩
  .obtain⟨a',w',es,hgo,hD,hg'⟩:=hstep w rr;exact .inl (idleC G ha hpi dQ hgo hD (.acq hg') hwg hmode (by omega))
end
end
variable{g:Goroutine}{m:Kh}{F N:Nat}{t:gS}{d:WD}{w:υ}
theorem Qq{X:Type}{r:X->X->Prop}v:Acc (iz.lt r) (.done v):=Bj _ λy h=>by cases y<;>exact h.elim
theorem ai1{X:Type}{r}{x:X}(h:Acc r x):Acc (iz.lt r) (.at_ x):=by
 induction h with
 |intro x _ ih=>
  refine Bj _ λy hy=>?_;cases y with
  |at_ x'=>exact ih x' hy
  |done v=>exact Qq v
theorem XO{D}:∀{j:Nat},1<=Vc j D->∃i,i<j/\5<=(D i).stage
 |0,h=>by simp[Vc,dN]at h
 |j+1,h=>by
  by_cases hc:5<=(D j).stage
  .exact⟨j,by omega,hc⟩
  ·(have:1<=Vc j D:=by simp only[Vc,dN,cnt,ς hc]at h ⊢;simpa using h);obtain⟨i,hi,h5⟩:=XO this;exact⟨i,by omega,h5⟩
section
variable [u5]
variable {P:Program}{ag:Nat->Prop}{ty:Θ}{Wg C Low:Nat}{W:sC P ag ty Wg C Low}{base T0:Nat}{w0:υ}{AnchW:Goroutine->υ->Prop}{Out:Goroutine->Prop}{o0:Obj}{o1:Obj}{v1:ay}
theorem qg.running_of{y:iz W.X}(h:qg P ty Wg W d y g w)(hs:d.stage≠1):g.status=.running:=by
 cases h with
 |work h1 h2 h3=>exact W.run h3
 |done h1=>
  revert hs;generalize d.stage=s,d.fuel=f,d.deaf=dd at h1;cases h1 with
  |r0 h=>exact λ_=>Goes.running (λ_ _ x=>x.1) w (mU w) h
  |k1 h=>exact λ_=>Goes.running (λ_ _ x=>x.1) w (mU w) h
  |d1 h=>exact λ_=>Goes.running (λ_ _ x=>x.1) w (mU w) h
  |d2 h=>exact λ_=>Goes.running (λ_ _ x=>x.1) w (mU w) h
  |d3 h=>exact λ_=>Goes.running (λ_ _ x=>x.1) w (mU w) h
  |d4 h=>exact λ_=>Goes.running (λ_ _ x=>x.1) w (mU w) h
  |quit _=>exact λhs=>absurd rfl hs
theorem ai2(G:sD ag Wg C Low)(hAr:∀g w,AnchW g w->g.status=.running)(hAn:∀g w,AnchW g w->∃m,Goes P ν (R0 ty Wg) (D0 Wg) (AtW1 P ty Wg AnchW Out) m g w){Y:iz W.X}(h:(DF P ty Wg W base T0 w0 AnchW Out o0 o1 v1) N Y F m t):(∃m' ops N' Y' F',stepT P m=(.next m',ops)/\XG P ty Wg W N' Y' F' N Y F/\(DF P ty Wg W base T0 w0 AnchW Out o0 o1 v1) N' Y' F' m' (t++ops)) \/
  ∃gs' a' w' sl' ops q',stepT P m=(.next (dG gs' w' sl'),ops)/\Joined P ty Wg W base w0 Out gs' a' w' (t++ops) q':=by
 obtain⟨gs,w,sl,j,D,tag,f0,d0,eD,a,st,sm,q,rfl,ha,hcs,hpi,hwg,hmode,dQ,rfl,rfl⟩:=h;have hsz:=hpi.size;have P4:∀g∈gs,awake g:=by
  intro g hg;obtain⟨i,hi⟩:=Array.mem_iff_getElem?.1 hg;have hlt:=(ξ.1 hi).1;rcases Nat.eq_zero_or_pos i with rfl|hpos
  ·(rw[ha]at hi;cases hi);rcases hcs.status hAr with⟨hs,_⟩|⟨hs,_⟩
   .exact Qd (.inl hs)
   .intro tm;rw[hs];simp
  .by_cases hb:i<=base
   .exact Qd ((hpi.lv i g hpos hb hi).status.elim .inl λx=>.inr (.inr x))
   .have:=hpi.le;(obtain rfl:i=base+1:=by omega);obtain⟨g',hg',hs⟩:=hpi.wk (by omega);(rw[hi]at hg';cases hg');exact Qd (hs.status.elim .inl λx=>.inr (.inr x))
 have hrun:∃(i:Nat) (g:Goroutine),gs[i]?=θ g/\g.status=.running:=by
  rcases hcs.status hAr with⟨hs,_⟩|⟨_,rfl⟩
  .exact⟨0,a,ha,hs⟩
  .cases hmode with
   |opn h1 _ _=>exact h1.elim
   |reg _ _ h3=>
    obtain⟨i,hi,h5⟩:=XO h3;have:=hpi.le;(obtain rfl:i=0:=by omega);obtain⟨g,hg,hs⟩:=hpi.wk (by omega);exact⟨base+1,g,hg,hs.running_of (by omega)⟩
   |last L _ h2 h3 _=>
    have:=hpi.le;(obtain rfl:L=0:=by omega);obtain⟨g,hg,hs⟩:=hpi.wk (by omega);exact⟨base+1,g,hg,hs.running_of (by omega)⟩
   |fin h1 _=>exact h1.elim
 obtain⟨i,g,d,sl',hg,kH,hstep⟩:=crowd_pick (P:=P) (w:=w) (sl:=sl) P4 hrun;rw[hstep];have hcs':(fy P ty Wg AnchW Out W w0 o0 o1 v1) tag j f0 d0 eD a (w.at d):=hcs.rely (λh=>h);have xl:=hpi.at d;have hwg':=hwg;have hlt:=(ξ.1 hg).1;rcases Nat.eq_zero_or_pos i with rfl|hpos
 .rw[ha]at hg;cases hg
  rcases stepCaller (sl:=sl') G hAn ha hcs' xl dQ hwg' hmode kH with⟨m₁,ops,N',Y',F',h1,h2,h3⟩|⟨gs',a',ops,q',h1,h2⟩
  .exact .inl ⟨m₁,ops,N',Y',F',h1,h2,h3⟩
  .exact .inr ⟨gs',a',_,sl',ops,q',h1,h2⟩
 .left;by_cases hb:i<=base
  .have hq:=hpi.lv i g hpos hb hg;(have hi0:(i==0)=false:=by simp;omega);cases hqi:q i with
   |zero=>rw[hqi]at hq;rw[hq.1]at kH;cases kH
   |succ k=>
    rw[hqi]at hq;rcases hq with⟨hf,_⟩|⟨_,g',es,hm,P5,vg⟩
    .rw[hf]at kH;cases kH
    (have xh:=yG (P:=P) (sl:=sl') (i:=i) hg (by rw[hi0];exact P5 (w.at d));obtain⟨tag',f',Bo,hf',Gq,hwk⟩:=hcs'.wokenBy hAr (w':=w.at d) (λh=>h) g g';have hsum:dN (base+1) (upd q i k)+(k+1)=dN (base+1) q+k:=by have:=Kp q k id (show i<base+1 by omega);simpa[hqi]using this);refine⟨_,_,_,Y,f'+2*(oF j D+dN (base+1) (upd q i k)),xh,?_,_,w.at d,sl',j,D,tag',f',d0,eD,sg P g g' (w.at d) a,st,sm,upd q i k,rfl,by rw[wR _ _ _ _ (by omega),ha];rfl,Bo,xl.aiR (g:=g) hpos hb hm vg,hwg',hmode.retag Gq,dQ,rfl,rfl⟩;rw[phi_retag 1 _ Gq];exact .inr (.inr ⟨rfl,rfl,by omega⟩)
  .have:=hpi.le;(obtain rfl:i=base+1:=by omega);exact stepWorker (sl:=sl') G hAr ha hcs' xl hwg' hmode (by omega) hg kH
theorem DF.acc{Y:iz W.X}(h:(DF P ty Wg W base T0 w0 AnchW Out o0 o1 v1) N Y F m t):Acc (iz.lt W.lt) Y:=by
 obtain⟨gs,w,sl,j,D,tag,f0,d0,eD,a,st,sm,q,rfl,ha,hcs,hpi,hwg,hmode,dQ,rfl,rfl⟩:=h;by_cases hi:j=0
 .obtain⟨v,hv⟩:=dQ hi;rw[hv];exact Qq v
 .have:=hpi.le;obtain⟨g,_,hs⟩:=hpi.wk (by omega);cases hs with
  |work _ _ h3=>exact ai1 (W.acc h3)
  |done _=>exact Qq _
theorem phase(G:sD ag Wg C Low)(hAr:∀g w,AnchW g w->g.status=.running)(hAn:∀g w,AnchW g w->∃m,Goes P ν (R0 ty Wg) (D0 Wg) (AtW1 P ty Wg AnchW Out) m g w){Post}(hk:∀gs a w sl t q,Joined P ty Wg W base w0 Out gs a w t q->Ends P Post (dG gs w sl) t):∀(N:Nat) (Y:iz W.X) (F:Nat) (m:Kh) (t:gS),(DF P ty Wg W base T0 w0 AnchW Out o0 o1 v1) N Y F m t->Ends P Post m t:=by
 intro N;induction N using Nat.strongRecOn with
 |_ N ai3=>
  intro Y F m t h;have hacc:=h.acc;induction hacc generalizing F m t with
  |intro Y _ ai4=>
   induction F using Nat.strongRecOn generalizing m t with
   |_ F ai5=>
    rcases ai2 G hAr hAn h with⟨m',ops,N',Y',F',hst,hlt,h'⟩|⟨gs',a',w',sl',ops,q',hst,hJ⟩
    .refine .step hst ?_;rcases hlt with h1|⟨rfl,h1⟩|⟨rfl,rfl,h1⟩
     .exact ai3 N' h1 Y' F' m' _ h'
     .exact ai4 Y' h1 F' m' _ h'
     .exact ai5 F' h1 m' _ h'
    .exact .step hst (hk _ _ _ _ _ _ hJ)
end
end fV
end Go.Proofs.YtfphigmeppdocaaGreatDoor
namespace Go.Proofs.YtfphigmeppdocaaGreatDoor
namespace fV
open Go.Conc Go.ConcN
open Go.ConcR (KK wgBlock WgAt stA smA rd wr mk Payload DC0 Bk g_of_ofEvents)
section
variable {P:Program}{ag:Nat->Prop}{gs:Array Goroutine}{q:Nat->Nat}{w:υ}{t:gS}{a a':Goroutine}{o:Obj}
def more(ag:Nat->Prop)(x:Nat):Nat->Prop:=λb=>ag b\/b=x
theorem XP(h0:gs[0]?=θ a)(h:Fr P ag gs q w t)(hgo:bh P ν a w=.go a' {w with heap:=w.heap.push o } #[])sl:∃gs' ops,runT P (dG gs w sl) 0=(.next (dG gs' {w with heap:=w.heap.push o } sl),ops)/\gs'[0]?=θ a'/\gs'.size=gs.size/\Fr P (more ag w.heap.size) gs' q {w with heap:=w.heap.push o } (t++ops):=by
 have hle:w.heap.size<=({w with heap:=w.heap.push o }:υ).heap.size:=by simp
 have xh:=yG (P:=P) (sl:=sl) (i:=0) h0 (show bh P (0==0) a w=_ from hgo);have hsz:((gs.map (sg P a a' {w with heap:=w.heap.push o })).setIfInBounds 0 a').size=gs.size:=by simp
 have hlt:=(ξ.1 h0).1;have e0:MemOp.ofEvents 0 a.frame.fn a.frame.place #[]=#[]:=by rw[Gk];simp
 refine⟨_,_,xh,by simp[hlt],hsz,?_⟩;rw[e0,Array.append_empty];refine⟨λj x hj hx=>?_,λj hj=>h.above j (by rw[hsz]at hj;exact hj),?_,h.hears,λb hb=>?_⟩
 .have hne:0≠j:=by omega
  rw[lZ hne,Array.getElem?_map]at hx;obtain⟨y,hy,rfl⟩:=kZ.1 hx;have y4:=h.lv j y hj hy;rw[wP y4];exact y4
 .rw[hsz];refine(h.tr.grow (Bh:=mm (more ag w.heap.size)) (λl ⟨x,h1,h2⟩=>⟨x,h1,.inl h2⟩) (λi x hx ⟨y,h1,h2⟩=>?_) (λ_ _ _ _ x=>.inl x) (λ_ _ _ _ x=>x) (λ_ _ _ _ x=>x) (λ_ _ _ _ x=>x)).mono hle;rcases h2 with h2|h2
  .exact⟨y,h1,h2⟩
  .have:=h.tr.fresh hx;rw[h1]at this;simp only[Loc.low]at this;omega
 .rcases hb with hb|rfl
  .exact Nat.lt_of_lt_of_le (h.sb b hb) hle
  .simp
theorem ai6{Post}(hr:a.status=.running)(hstep:∀d,∃a',bh P ν a (w.at d)=.go a' {(w.at d)with heap:=(w.at d).heap.push o } #[] /\
   ∀gs' q' sl' t',gs'[0]?=θ a'->gs'.size=gs.size->Fr P (more ag w.heap.size) gs' q' {(w.at d)with heap:=(w.at d).heap.push o } t'->Ends P Post (dG gs' {(w.at d)with heap:=(w.at d).heap.push o } sl') t'):∀(M:Nat) (mo:Array Goroutine) (q:Nat->Nat) (d:Nat) (sl:Option (Nat×Nat)) (t:gS),dN mo.size q<=M->mo[0]?=θ a->mo.size=gs.size->Fr P ag mo q (w.at d) t->Ends P Post (dG mo (w.at d) sl) t:=by
 intro M;induction M with
 |zero=>
  intro mo q d sl t hM h0 hsz h;rcases Dr h0 hr h sl with⟨d',sl',hst⟩|⟨gs',q',d',sl',ops,_,_,_,_,hlt⟩
  .obtain⟨a',hgo,hk⟩:=hstep d';obtain⟨gs',ops,hrun,h0',hs',nN⟩:=XP h0 (h.at d') hgo sl';exact .step (hst.trans hrun) (hk gs' q sl' _ h0' (hs'.trans hsz) nN)
  .omega
 |succ M ih=>
  intro mo q d sl t hM h0 hsz h;rcases Dr h0 hr h sl with⟨d',sl',hst⟩|⟨gs',q',d',sl',ops,hst,h0',hs',nN,hlt⟩
  .obtain⟨a',hgo,hk⟩:=hstep d';obtain⟨gs',ops,hrun,h0',hs',nN⟩:=XP h0 (h.at d') hgo sl';exact .step (hst.trans hrun) (hk gs' q sl' _ h0' (hs'.trans hsz) nN)
  .exact .step hst (ih gs' q' d' sl' _ (by rw[hs'];omega) h0' (hs'.trans hsz) nN)
end
section
variable [u5]
variable {P:Program}{ag:Nat->Prop}{ty:Θ}{Wg C Low:Nat}{w0:υ}{W:sC P ag ty Wg C Low}{AnchW:Goroutine->υ->Prop}{Out:Goroutine->Prop}{o0:Obj}{o1:Obj}{v1:ay}
 {gs:Array Goroutine}{q:Nat->Nat}{t:gS}{a:Goroutine}
theorem group(hLow:Low=w0.heap.size)(G:sD ag Wg C Low)(hAr:∀g w,AnchW g w->g.status=.running)(hAn:∀g w,AnchW g w->∃m,Goes P ν (R0 ty Wg) (D0 Wg) (AtW1 P ty Wg AnchW Out) m g w){Post}(h0:gs[0]?=θ a)(hF:Fr P ag gs q w0 t)(hwg:jO ty Wg w0 0 0){m}(hS:Goes P ν (R0 ty Wg) (D0 Wg) (P9 P ty Wg W w0 o0 o1 v1 (y5 P ty Wg AnchW)) m a w0)(hk:∀gs' a' w' sl' t' q',Joined P ty Wg W (gs.size- 1) w0 Out gs' a' w' t' q'->Ends P Post (dG gs' w' sl') t')sl:Ends P Post (dG gs w0 sl) t:=by
 subst hLow;have hlt:=(ξ.1 h0).1;refine phase G hAr hAn hk _ (.done undef) _ _ t ⟨gs,w0,sl,0,λ_=>⟨1,0,0⟩,.sp 0 7,m,0,η,a,0,0,q,rfl,h0,.Du hS,
  ⟨by omega,by omega,λi g hi _ hg=>hF.lv i g hi hg,hF.above,λh=>by omega,λv h=>by omega,?_,λi hi e=>?_,Nat.le_refl _,hF.hears,λh=>by omega,λh=>by omega,λ_ _ _ _=>rfl,λ_ _=>rfl,λo e=>(by cases e),Nat.le_refl _,⟨rfl,rfl,rfl⟩⟩,hwg,?_,λ_=>⟨undef,rfl⟩,rfl,rfl⟩
 .refine hF.tr.grow (λ_ x=>x) (λ_ _ _ x=>x) (λk _ kj l hl=>?_) (λk _ kj l hl=>hl.elim) (λ_ _ _ _ x=>x.elim) (λ_ _ _ _ x=>x.elim);have:=hl.1;omega
 .have:=lt_of_act? e;omega
 .have:=Go.ConcN.Mode.opn (tag:=.sp 0 7) (j:=0) (D:=λ_=>⟨1,0,0⟩) trivial (λi hi=>by omega) (by simp);have e:((Vc 0 (λ_=>(⟨1,0,0⟩:WD))+mz (.sp 0 7):Nat):Int)*KK=0:=by simp[Vc,dN,mz]
  rw[e]at this;exact this
end
end fV
end Go.Proofs.YtfphigmeppdocaaGreatDoor
namespace Go.Proofs.YtfphigmeppdocaaGreatDoor
namespace fV
open Go.Conc Go.ConcN Go.RowKit Go.Conc.Lib Go.ConcR.Gen Go.ConcN.Gen
open Go.ConcR (KK wgBlock WgAt stA smA rd wr mk Payload Aside2 DC0)
variable{es:Array eU}{ops:Array Oper}{x y:Code}{i:Nat}{o:Oper}{w₁:υ}
theorem cS{Wg}{w}:D0 Wg w w #[]:=⟨rfl,by simp⟩
theorem fA{Wg}{w}(h:∀e∈es,False):D0 Wg w w es:=⟨rfl,λe he=>(h e he).elim⟩
theorem ai7{Wg}a(h:a.block=Wg):Gd Wg ⟨.mark (.read a),ο,ν⟩:=by refine⟨λx hx=>?_,by simp,by simp,by simp⟩;simp only[si,sI,Γ]at hx;subst hx;exact⟨⟨a,rfl,h⟩,by simp⟩
theorem ai8{Wg}a(h:a.block=Wg):Gd Wg ⟨.mark (.write a),ο,ν⟩:=by refine⟨λx hx=>?_,by simp,by simp,by simp⟩;simp only[si,sI,Γ]at hx;subst hx;exact⟨⟨a,rfl,h⟩,by simp⟩
theorem ai9{Wg}a(h:a.block=Wg):∀e∈#[(⟨.mark (.read a),ο,ν⟩:eU)],Gd Wg e:=λe he=>by rw[Gi]at he;subst he;exact ai7 a h
theorem aja{Wg}a(h:a.block=Wg):∀e∈#[(⟨.mark (.write a),ο,ν⟩:eU)],Gd Wg e:=λe he=>by rw[Gi]at he;subst he;exact ai8 a h
section
variable {P:Program}{t:Θ}{Wg n:Nat}{mV:Goroutine->υ->Prop}{g g' :Goroutine}{w:υ}{b:Frame}{a:Act}{k:List kD}{cs:List Frame}
def Bp(P:Program)(t:Θ)(Wg:Nat)(mV:Goroutine->υ->Prop)(n:Nat)(g:Goroutine):Prop:=∀w,dy t Wg w->Goes P ν (R0 t Wg) (D0 Wg) mV n g w
theorem jA(hs:g.status=.running)(e:∀w,bh P ν g w=.go g' w #[])(hF:dy t Wg w)(h:Bp P t Wg mV n g'):Goes P ν (R0 t Wg) (D0 Wg) mV (n+1) g w:=Goes.step hs (λ_ hq=>by rw[e];exact⟨cS,h _ (hq hF)⟩)
theorem ld(hF:dy t Wg w)(h:Bp P t Wg mV n (G (b.at a (.code x::.code y::k)) cs)):Goes P ν (R0 t Wg) (D0 Wg) mV (n+1) (G (b.at a (.code (.seq x y)::k)) cs) w:=jA rfl (λ_=>k8) hF h
theorem gm(hF:dy t Wg w)(h:Bp P t Wg mV n (G (b.at a k) cs)):Goes P ν (R0 t Wg) (D0 Wg) mV (n+1) (G (b.at a (.inRegion ops []::k)) cs) w:=jA rfl (λ_=>mq) hF h
theorem y6(hF:dy t Wg w)(h:Bp P t Wg mV n (G (b.at a k) cs)):Goes P ν (R0 t Wg) (D0 Wg) mV (n+1) (G (b.at a (.code .skip::k)) cs) w:=jA rfl (λ_=>Kn) hF h
theorem jB(hF:dy t Wg w)(h:Bp P t Wg mV n (G (b.at a (.inRegion ops (List.range ops.size)::k)) cs)):Goes P ν (R0 t Wg) (D0 Wg) mV (n+1) (G (b.at a (.code (.region i ops ο)::k)) cs) w:=jA rfl (λ_=>oD) hF h
theorem xm{c}(hF:dy t Wg w)(e:a.eval c=.bool ν)(h:Bp P t Wg mV n (G (b.at a (.code x::k)) cs)):Goes P ν (R0 t Wg) (D0 Wg) mV (n+1) (G (b.at a (.code (.cond c x y)::k)) cs) w:=jA rfl (λ_=>Dy (t:=ν) e) hF h
theorem y7{c}(hF:dy t Wg w)(e:a.eval c=.bool ο)(h:Bp P t Wg mV n (G (b.at a (.code y::k)) cs)):Goes P ν (R0 t Wg) (D0 Wg) mV (n+1) (G (b.at a (.code (.cond c x y)::k)) cs) w:=jA rfl (λ_=>Dy (t:=ο) e) hF h
theorem gC{rest}(ho:ops[i]?=θ o)(hw:cF o (yielded ops a.tmps)=ν)(hk:b.kind≠.early)(hF:dy t Wg w)(h:∀w,dy t Wg w->∀K:Act->υ->Prop,(∀a' w',D0 Wg w w' (listed P b.fn a o w)/\Goes P ν (R0 t Wg) (D0 Wg) mV n (G (b.at a' (.inRegion ops rest::k)) cs) w'->K a' w')->uponK o a K ((aL a.eval o).run P w)):Goes P ν (R0 t Wg) (D0 Wg) mV (n+1) (G (b.at a (.inRegion ops (i::rest)::k)) cs) w:=Goes.step rfl (λ_ hq=>o8 ho hw hk (h _ (hq hF)))
end
section
variable [u5] {L:Gm}{P:Program}{ag:Nat->Prop}{Wg C Low:Nat}{W:sC P ag L.tWg Wg C Low}{w0:υ}{o1:Obj}{Next:Goroutine->υ->Prop}
 {b₀:Frame}{a₀:Act}{ops₀:Array Oper}{i₀:Nat}{rest₀:List Nat}{k₀:List kD}{cs:List Frame}{mT:Nat}
theorem ajb(H:WgLib P L)(hT:∀w,dy L.tWg Wg w->Goes P ν (R0 L.tWg Wg) (D0 Wg) (AtGoS P L.tWg Wg W w0 o1 Next) mT (G (b₀.at (a₀.put ((ops₀[i₀]?).bind (·.dst)) (.tuple #[])) (.inRegion ops₀ rest₀::k₀)) cs) w)w(hF:dy L.tWg Wg w):Goes P ν (R0 L.tWg Wg) (D0 Wg) (AtKdS P L.tWg Wg W w0 o1 Next) 12
   (G ((base L.add).at ⟨#[.pointer (θ ⟨Wg,0,η⟩),.int .i64 1,undef,undef,undef,undef,undef,undef,undef,undef,undef,undef,undef,undef,undef,undef,undef,undef,undef,undef,undef,undef,undef,undef,undef,undef,undef,undef,undef,undef,undef,undef,undef,undef,undef,undef,undef,undef,undef,undef,undef,undef,undef,undef,undef,undef,undef,undef,undef,undef,undef,undef,undef,undef,undef,undef,undef,undef,undef,undef,undef,undef,undef,undef,undef,undef,undef,undef,undef,undef,undef,undef,undef,undef,undef,undef,undef,undef,undef,undef,undef,undef,undef,undef,undef,undef,undef,undef,undef,undef,undef,undef,undef,undef,undef,undef,undef,undef,undef,undef,undef,undef,undef,undef,undef,undef,undef,undef,undef,undef,undef,undef,undef,undef,undef,undef,undef],[]⟩ [.code (body_add L)]) (b₀.at a₀ (.inRegion ops₀ (i₀::rest₀)::k₀)::cs)) w:=by
 lib_facts;simp only[body_add,addFn,Ω];(iterate 12 first|(first|refine ld hF ?_|refine gm hF ?_|refine y6 hF ?_|refine xm hF rfl ?_|refine y7 hF rfl ?_);clear hF;intro _ hF|refine jB hF ?_;simp only[List.size_toArray,List.length_cons,List.length_nil,Nat.zero_add];(try simp only[Nat.reduceAdd]);simp only[List.range,List.range.loop];clear hF;intro _ hF|refine gC rfl rfl (by k_ne) hF ?_;clear hF;intro _ hF K hK;go_simp;refine hK _ _ ⟨fA (λe he=>by have hm:=dP he;simp[go_sem, *]at hm),?_⟩;clear hK K;try w_num)
 refine Goes.stop (λw1 h1=>?_);replace hF:=h1 hF;clear h1;refine⟨rfl,_,Kk .disable (by simp) rfl rfl (by k_ne) rfl H.f_disable (x_disable_n L) (x_disable_b L) (x_disable_x L) (x_disable_f L),40,?_⟩;walk_nrm;(iterate 2 first|refine gm hF ?_;clear hF;intro _ hF|refine jB hF ?_;simp only[List.size_toArray,List.length_cons,List.length_nil,Nat.zero_add];(try simp only[Nat.reduceAdd]);simp only[List.range,List.range.loop];clear hF;intro _ hF)
 (refine Goes.step rfl (λ_ hq=>?_);replace hF:=hq hF;clear hq;rw[stepG_defer rfl rfl (by k_ne) rfl];simp only[bq];refine⟨cS,?_⟩;walk_nrm);(iterate 8 first|(first|refine ld hF ?_|refine gm hF ?_);clear hF;intro _ hF|refine jB hF ?_;simp only[List.size_toArray,List.length_cons,List.length_nil,Nat.zero_add];(try simp only[Nat.reduceAdd]);simp only[List.range,List.range.loop];clear hF;intro _ hF|refine gC rfl rfl (by k_ne) hF ?_;clear hF;intro _ hF K hK;go_simp;refine hK _ _ ⟨fA (λe he=>by have hm:=dP he;simp[go_sem, *]at hm),?_⟩;clear hK K;try w_num)
 (refine Goes.step rfl (λ_ hq=>?_);replace hF:=hq hF;clear hq;rw[stepG_entry_pure (.bool ο) rfl rfl (by k_ne) rfl H.f_inBubble (x_inBubble_n L) (x_inBubble_b L) (x_inBubble_x L) (x_inBubble_f L)];simp only[bq];refine⟨cS,?_⟩;walk_nrm);(iterate 11 first|(first|refine ld hF ?_|refine gm hF ?_|refine y6 hF ?_|refine y7 hF rfl ?_);clear hF;intro _ hF|refine jB hF ?_;simp only[List.size_toArray,List.length_cons,List.length_nil,Nat.zero_add];(try simp only[Nat.reduceAdd]);simp only[List.range,List.range.loop];clear hF;intro _ hF|refine gC rfl rfl (by k_ne) hF ?_;clear hF;intro _ hF K hK;go_simp;refine hK _ _ ⟨fA (λe he=>by have hm:=dP he;simp[go_sem, *]at hm),?_⟩;clear hK K;try w_num)
 (refine Goes.step rfl (λ_ hq=>?_);replace hF:=hq hF;clear hq;refine Dz rfl rfl (by k_ne) rfl H.f_uAdd (nm_uAdd L) rfl ⟨cS,?_⟩;walk_nrmf uAddFn);(iterate 10 first|(first|refine ld hF ?_|refine gm hF ?_);clear hF;intro _ hF|refine jB hF ?_;simp only[List.size_toArray,List.length_cons,List.length_nil,Nat.zero_add];(try simp only[Nat.reduceAdd]);simp only[List.range,List.range.loop];clear hF;intro _ hF|refine gC rfl rfl (by k_ne) hF ?_;clear hF;intro _ hF K hK;go_simp;refine hK _ _ ⟨fA (λe he=>by have hm:=dP he;simp[go_sem, *]at hm),?_⟩;clear hK K;try w_num)
 refine Goes.stop (λw2 h2=>?_);replace hF:=h2 hF;clear h2;refine⟨rfl,λv hv hw=>?_⟩;rcases Nat.eq_zero_or_pos v with rfl|hvp
 .replace hw:jO L.tWg Wg w2 0 0:=by simpa using hw
  have z:(((0:Nat):Int)+1)*KK=KK:=by simp
  rw[z];have e0:IntKind.u64.wrap (0+4294967296)=KK:=by decide
  refine⟨_,(Xz rfl rfl (by k_ne) rfl H.f_addU64 (x_addU64_n L) (x_addU64_b L) (x_addU64_x L) .u64 (x_addU64_f L) rfl rfl hw.cellSt (hw.thaw 0)).trans (by rw[e0];rfl),110,?_⟩;replace hF:dy L.tWg Wg (w2.setCell (stA Wg) (.int .u64 KK)):=⟨_,_,hw.setSt _⟩;clear hw;simp only[KK]at hF ⊢;walk_nrm;(iterate 3 first|(first|refine gm hF ?_|refine jA rfl (λ_=>sG) hF ?_);clear hF;intro _ hF|refine gC rfl rfl (by k_ne) hF ?_;clear hF;intro _ hF K hK;go_simp;refine hK _ _ ⟨fA (λe he=>by have hm:=dP he;simp[go_sem, *]at hm),?_⟩;clear hK K;try w_num);(refine Goes.step rfl (λ_ hq=>?_);replace hF:=hq hF;clear hq;refine Bl rfl rfl H.f_uAdd rfl ⟨cS,?_⟩;walk_nrm);(iterate 48 first|(first|refine ld hF ?_|refine gm hF ?_|refine y6 hF ?_|refine xm hF rfl ?_|refine y7 hF rfl ?_);clear hF;intro _ hF|refine jA rfl (λ_=>Dx rfl rfl) hF ?_;clear hF;intro _ hF;walk_nrm|refine jB hF ?_;simp only[List.size_toArray,List.length_cons,List.length_nil,Nat.zero_add];(try simp only[Nat.reduceAdd]);simp only[List.range,List.range.loop];clear hF;intro _ hF|refine gC rfl rfl (by k_ne) hF ?_;clear hF;intro _ hF K hK;go_simp;refine hK _ _ ⟨fA (λe he=>by have hm:=dP he;simp[go_sem, *]at hm),?_⟩;clear hK K;try w_num)
  (refine Goes.step rfl (λ_ hq=>?_);replace hF:=hq hF;clear hq;refine o8 rfl rfl (by k_ne) (λKx hKx=>?_);have hcv:=Kg (P:=P) H.underlying_tPU32 H.underlying_tUP H.room_tU32 (Kq hF).choose_spec;have hce:=λes=>Ki (P:=P) H.underlying_tPU32 H.underlying_tUP H.room_tU32 (Kq hF).choose_spec es;go_simp;refine hKx _ _ ⟨fA (λex hex=>by have hmx:=dP hex;simp[go_sem,hce]at hmx),?_⟩;clear hKx Kx hcv hce);(refine Goes.step rfl (λ_ hq=>?_);replace hF:=hq hF;clear hq;rw[Kj .read (by simp) rfl rfl (by k_ne) rfl H.f_raceRead (x_raceRead_n L) (x_raceRead_b L) (x_raceRead_x L) (x_raceRead_f L) (ad:=⟨_,1,η⟩) (by simp[je]<;>rfl)];simp only[bq];refine⟨⟨rfl,ai9 _ rfl⟩,?_⟩;walk_nrm);(iterate 39 first|(first|refine ld hF ?_|refine gm hF ?_|refine y6 hF ?_|refine xm hF rfl ?_|refine y7 hF rfl ?_|refine jA rfl (λ_=>sG) hF ?_);clear hF;intro _ hF|refine jA rfl (λ_=>Dx rfl rfl) hF ?_;clear hF;intro _ hF;walk_nrm|refine jB hF ?_;simp only[List.size_toArray,List.length_cons,List.length_nil,Nat.zero_add];(try simp only[Nat.reduceAdd]);simp only[List.range,List.range.loop];clear hF;intro _ hF|refine gC rfl rfl (by k_ne) hF ?_;clear hF;intro _ hF K hK;go_simp;refine hK _ _ ⟨fA (λe he=>by have hm:=dP he;simp[go_sem, *]at hm),?_⟩;clear hK K;try w_num);refine Goes.stop (λw3 h3=>?_);replace hF:=h3 hF;clear h3;refine⟨rfl,_,Xy (v:=.tuple #[]) (evs:=#[mk .enable]) rfl H.f_enable (Ks L) (Kt L) (Ku L) (Kv L) (by simp[XB]) (by simp[mk]) (by simp[mk]),mT+1,?_⟩;(refine Goes.step rfl (λ_ hq=>?_);replace hF:=hq hF;clear hq;refine Kl rfl rfl H.f_add rfl ⟨cS,?_⟩;walk_nrm);exact hT _ hF
 .obtain⟨V,hV⟩:∃V:Int,V=(v:Int)+1:=⟨_,rfl⟩;obtain⟨S,hS⟩:∃S:Int,S=V*KK:=⟨_,rfl⟩;have eS:IntKind.u64.wrap ((v:Int)*KK+4294967296)=S:=by rw[XC,hS,hV];simp only[KK];omega
  rw[<-hV,<- hS];have a1:S/4294967296=V:=by rw[hS];simp only[KK];omega
  have b1:bits .and .u64 S 2147483648=0:=by rw[hS,hV];have:=st_flag (v+1) 0 (by omega) (by omega);simpa[KK]using this
  have b2:bits .and .u64 S 2147483647=0:=by rw[hS,hV];have:=st_waiters (v+1) 0 (by omega) (by omega);simpa[KK]using this
  have c1:IntKind.i32.wrap V=V:=by rw[XD];omega
  have hV1:1<V:=by omega
  have XQ:V<2147483648:=by omega
  have q1:(V==1)=false:=by simp;omega
  have q2:decide (V=1)=false:=AG (by omega);have dR:decide (V<0)=false:=AG (by omega);have iH:decide (0<V)=true:=CR (by omega);have lf:(V==0)=false:=by simp;omega
  have Gv:decide (V=0)=false:=AG (by omega);refine⟨_,(Xz rfl rfl (by k_ne) rfl H.f_addU64 (x_addU64_n L) (x_addU64_b L) (x_addU64_x L) .u64 (x_addU64_f L) rfl rfl hw.cellSt (hw.thaw 0)).trans (by rw[eS];rfl),110,?_⟩;replace hF:dy L.tWg Wg (w2.setCell (stA Wg) (.int .u64 S)):=⟨_,_,hw.setSt _⟩;clear hw hS hV eS;walk_nrm;(iterate 3 first|(first|refine gm hF ?_|refine jA rfl (λ_=>sG) hF ?_);clear hF;intro _ hF|refine gC rfl rfl (by k_ne) hF ?_;clear hF;intro _ hF K hK;go_simp;refine hK _ _ ⟨fA (λe he=>by have hm:=dP he;simp[go_sem, *]at hm),?_⟩;clear hK K;try w_num);(refine Goes.step rfl (λ_ hq=>?_);replace hF:=hq hF;clear hq;refine Bl rfl rfl H.f_uAdd rfl ⟨cS,?_⟩;walk_nrm);(iterate 83 first|(first|refine ld hF ?_|refine gm hF ?_|refine y6 hF ?_|refine xm hF (by first|rfl|(simp[je];omega)) ?_|refine y7 hF (by first|rfl|(simp[je];omega)) ?_|refine jA rfl (λ_=>sG) hF ?_);clear hF;intro _ hF|refine jA rfl (λ_=>Dx rfl rfl) hF ?_;clear hF;intro _ hF;walk_nrm|refine jB hF ?_;simp only[List.size_toArray,List.length_cons,List.length_nil,Nat.zero_add];(try simp only[Nat.reduceAdd]);simp only[List.range,List.range.loop];clear hF;intro _ hF|refine gC rfl rfl (by k_ne) hF ?_;clear hF;intro _ hF K hK;go_simp;refine hK _ _ ⟨fA (λe he=>by have hm:=dP he;simp[go_sem, *]at hm),?_⟩;clear hK K;try w_num);refine Goes.stop (λw3 h3=>?_);replace hF:=h3 hF;clear h3;refine⟨rfl,_,Xy (v:=.tuple #[]) (evs:=#[mk .enable]) rfl H.f_enable (Ks L) (Kt L) (Ku L) (Kv L) (by simp[XB]) (by simp[mk]) (by simp[mk]),mT+1,?_⟩;(refine Goes.step rfl (λ_ hq=>?_);replace hF:=hq hF;clear hq;refine Kl rfl rfl H.f_add rfl ⟨cS,?_⟩;walk_nrm);exact hT _ hF
end
def Gw(L:Gm)(Wg:Nat)(c:Frame)(cs:List Frame)(g:Goroutine)(w:υ):Prop:=
 ∃T:Array ay,g=G ((base L.wait).at ⟨T,[]⟩ [.code (L7 L),.inLoop (L7 L),.inBlock 0]) (c::cs)/\T.size=84/\T[0]?=θ (.pointer (θ ⟨Wg,0,η⟩))/\dy L.tWg Wg w
section
variable {L:Gm}{P:Program}{Wg:Nat}{c:Frame}{cs:List Frame}
theorem ajc(H:WgLib P L)w(hF:dy L.tWg Wg w):Goes P ν (R0 L.tWg Wg) (D0 Wg) (AtKd P L.tWg Wg (Gw L Wg c cs)) 3
  (G ((base L.wait).at ⟨#[.pointer (θ ⟨Wg,0,η⟩),undef,undef,undef,undef,undef,undef,undef,undef,undef,undef,undef,undef,undef,undef,undef,undef,undef,undef,undef,undef,undef,undef,undef,undef,undef,undef,undef,undef,undef,undef,undef,undef,undef,undef,undef,undef,undef,undef,undef,undef,undef,undef,undef,undef,undef,undef,undef,undef,undef,undef,undef,undef,undef,undef,undef,undef,undef,undef,undef,undef,undef,undef,undef,undef,undef,undef,undef,undef,undef,undef,undef,undef,undef,undef,undef,undef,undef,undef,undef,undef,undef,undef,undef],[]⟩ [.code (Kw L)]) (c::cs)) w:=by
 lib_facts;simp only[Kw,waitFn,Ω];(iterate 3 first|(first|refine ld hF ?_|refine xm hF rfl ?_);clear hF;intro _ hF|refine jB hF ?_;simp only[List.size_toArray,List.length_cons,List.length_nil,Nat.zero_add];(try simp only[Nat.reduceAdd]);simp only[List.range,List.range.loop];clear hF;intro _ hF);refine Goes.stop (λw1 h1=>?_);replace hF:=h1 hF;clear h1;refine⟨rfl,_,Kk .disable (by simp) rfl rfl (by k_ne) rfl H.f_disable (x_disable_n L) (x_disable_b L) (x_disable_x L) (x_disable_f L),3,?_⟩;walk_nrm;(iterate 3 ((first|refine gm hF ?_|refine jA rfl (λ_=>Km) hF ?_|refine jA rfl (λ_=>stepG_loop) hF ?_);clear hF;intro _ hF));exact Goes.stop (λw2 h2=>⟨_,rfl,by simp,by simp,h2 hF⟩)
def XR(L:Gm)(P:Program)(ag:Nat->Prop)(Wg:Nat)(r:Goroutine)(g:Goroutine):Prop:=
 ∃m,∀w,dy L.tWg Wg w->Goes P ν tW (tT ag) (λg' w'=>g'=r/\tW w w') m g w
end
section
variable {L:Gm}{P:Program}{ag:Nat->Prop}{Wg:Nat}
 {b₀:Frame}{a₀:Act}{ops₀:Array Oper}{i₀:Nat}{rest₀:List Nat}{k₀:List kD}{cs:List Frame}
theorem dO{w}:tT ag w w #[]:=⟨Nat.le_refl _,by simp⟩
theorem vA{w}(h:∀e∈es,False):tT ag w w es:=⟨Nat.le_refl _,λe he=>(h e he).elim⟩
theorem fL{w0 w}(h:tW w0 w)(r:tW w w₁):tW w0 w₁:=atRel_trans _ _ _ h r
theorem ajd(H:WgLib P L)g w(h:Gw L Wg (b₀.at a₀ (.inRegion ops₀ (i₀::rest₀)::k₀)) cs g w):∃m,Goes P ν (R0 L.tWg Wg) (D0 Wg) (AtW1 P L.tWg Wg (Gw L Wg (b₀.at a₀ (.inRegion ops₀ (i₀::rest₀)::k₀)) cs) (XR L P ag Wg (G (b₀.at (a₀.put ((ops₀[i₀]?).bind (·.dst)) (.tuple #[])) (.inRegion ops₀ rest₀::k₀)) cs))) m g w:=by
 lib_facts;obtain⟨T,rfl,aje,t0,hF⟩:=h;obtain⟨v0,v1,v2,v3,v4,v5,v6,v7,v8,v9,v10,v11,v12,v13,v14,v15,v16,v17,v18,v19,v20,v21,v22,v23,v24,v25,v26,v27,v28,v29,v30,v31,v32,v33,v34,v35,v36,v37,v38,v39,v40,v41,v42,v43,v44,v45,v46,v47,v48,v49,v50,v51,v52,v53,v54,v55,v56,v57,v58,v59,v60,v61,v62,v63,v64,v65,v66,v67,v68,v69,v70,v71,v72,v73,v74,v75,v76,v77,v78,v79,v80,v81,v82,v83,rfl⟩:=array84 T aje;simp only[List.getElem?_toArray,List.getElem?_cons_zero,Γ]at t0;subst t0;refine⟨30,?_⟩;simp only[L7,Kw,waitFn,Ω];(iterate 6 first|(first|refine ld hF ?_|refine jA rfl (λ_=>Km) hF ?_);clear hF;intro _ hF|refine jB hF ?_;simp only[List.size_toArray,List.length_cons,List.length_nil,Nat.zero_add];(try simp only[Nat.reduceAdd]);simp only[List.range,List.range.loop];clear hF;intro _ hF|refine gC rfl rfl (by k_ne) hF ?_;clear hF;intro _ hF K hK;go_simp;refine hK _ _ ⟨fA (λe he=>by have hm:=dP he;simp[go_sem, *]at hm),?_⟩;clear hK K;try w_num)
 (refine Goes.step rfl (λ_ hq=>?_);replace hF:=hq hF;clear hq;refine Dz rfl rfl (by k_ne) rfl H.f_uLoad (nm_uLoad L) rfl ⟨cS,?_⟩;walk_nrmf uLoadFn);(iterate 9 first|(first|refine ld hF ?_|refine gm hF ?_);clear hF;intro _ hF|refine jB hF ?_;simp only[List.size_toArray,List.length_cons,List.length_nil,Nat.zero_add];(try simp only[Nat.reduceAdd]);simp only[List.range,List.range.loop];clear hF;intro _ hF|refine gC rfl rfl (by k_ne) hF ?_;clear hF;intro _ hF K hK;go_simp;refine hK _ _ ⟨fA (λe he=>by have hm:=dP he;simp[go_sem, *]at hm),?_⟩;clear hK K;try w_num)
 refine Goes.stop (λw1 h1=>?_);replace hF:=h1 hF;clear h1;refine⟨rfl,λv hv hw=>?_⟩;rcases Nat.eq_zero_or_pos v with rfl|hvp
 .replace hw:jO L.tWg Wg w1 0 0:=by simpa using hw
  refine⟨_,Qc (v:=0) rfl rfl (by k_ne) rfl H.f_loadU64 (Qi L) (Qj L) (Qk L) .u64 (Ql L) rfl hw.cellSt,λ_=>⟨50,?_⟩,λh=>absurd rfl h⟩;clear hw;walk_nrm;(iterate 3 first|(first|refine gm hF ?_|refine jA rfl (λ_=>sG) hF ?_);clear hF;intro _ hF|refine gC rfl rfl (by k_ne) hF ?_;clear hF;intro _ hF K hK;go_simp;refine hK _ _ ⟨fA (λe he=>by have hm:=dP he;simp[go_sem, *]at hm),?_⟩;clear hK K;try w_num);(refine Goes.step rfl (λ_ hq=>?_);replace hF:=hq hF;clear hq;refine Bl rfl rfl H.f_uLoad rfl ⟨cS,?_⟩;walk_nrm);(iterate 27 first|(first|refine ld hF ?_|refine gm hF ?_|refine xm hF rfl ?_);clear hF;intro _ hF|refine jB hF ?_;simp only[List.size_toArray,List.length_cons,List.length_nil,Nat.zero_add];(try simp only[Nat.reduceAdd]);simp only[List.range,List.range.loop];clear hF;intro _ hF|refine gC rfl rfl (by k_ne) hF ?_;clear hF;intro _ hF K hK;go_simp;refine hK _ _ ⟨fA (λe he=>by have hm:=dP he;simp[go_sem, *]at hm),?_⟩;clear hK K;try w_num)
  refine Goes.stop (λaO h5=>?_);replace hF:=h5 hF;clear h5;refine⟨rfl,_,Kk .enable (by simp) rfl rfl (by k_ne) rfl H.f_enable (Ks L) (Kt L) (Ku L) (Kv L),12,?_⟩;walk_nrm;(iterate 3 first|refine gm hF ?_;clear hF;intro _ hF|refine jB hF ?_;simp only[List.size_toArray,List.length_cons,List.length_nil,Nat.zero_add];(try simp only[Nat.reduceAdd]);simp only[List.range,List.range.loop];clear hF;intro _ hF|refine gC rfl rfl (by k_ne) hF ?_;clear hF;intro _ hF K hK;go_simp;refine hK _ _ ⟨fA (λe he=>by have hm:=dP he;simp[go_sem, *]at hm),?_⟩;clear hK K;try w_num)
  (refine Goes.step rfl (λ_ hq=>?_);replace hF:=hq hF;clear hq;refine o8 rfl rfl (by k_ne) (λKx hKx=>?_);have hcv:=Kg (P:=P) H.underlying_tWgP H.underlying_tUP H.room_tWg (Kr hF).choose_spec;have hce:=λes=>Ki (P:=P) H.underlying_tWgP H.underlying_tUP H.room_tWg (Kr hF).choose_spec es;go_simp;refine hKx _ _ ⟨fA (λex hex=>by have hmx:=dP hex;simp[go_sem,hce]at hmx),?_⟩;clear hKx Kx hcv hce);refine Goes.stop (λbW h6=>?_);replace hF:=h6 hF;clear h6;refine⟨rfl,_,Kj .acquire (by simp) rfl rfl (by k_ne) rfl H.f_acquire (x_acquire_n L) (x_acquire_b L) (x_acquire_x L) (x_acquire_f L) (by simp[je,stA]),20,?_⟩;clear hF;intro w7 _;have hF:tW w7 w7:=atRel_refl w7;walk_nrm;(refine Goes.step rfl (λ_ hq=>?_);replace hF:=fL hF hq;clear hq;rw[mq];simp only[bq];refine⟨dO,?_⟩);(refine Goes.step rfl (λ_ hq=>?_);replace hF:=fL hF hq;clear hq;rw[k8];simp only[bq];refine⟨dO,?_⟩);(refine Goes.step rfl (λ_ hq=>?_);replace hF:=fL hF hq;clear hq;rw[k8];simp only[bq];refine⟨dO,?_⟩);(refine Goes.step rfl (λ_ hq=>?_);replace hF:=fL hF hq;clear hq;rw[oD];simp only[bq,List.size_toArray,List.length_cons,List.length_nil,Nat.zero_add];(try simp only[Nat.reduceAdd]);simp only[List.range,List.range.loop];refine⟨dO,?_⟩);(refine Goes.step rfl (λ_ hq=>?_); replace hF:=fL hF hq; clear hq; refine o8 rfl rfl (by k_ne) (λK hK=>?_); go_simp; refine hK _ _ ⟨vA (λe he=>by have hm:=dP he; simp[go_sem, *]at hm), ?_⟩; clear hK K; try w_num);(refine Goes.step rfl (λ_ hq=>?_); replace hF:=fL hF hq; clear hq; refine o8 rfl rfl (by k_ne) (λK hK=>?_); go_simp; refine hK _ _ ⟨vA (λe he=>by have hm:=dP he; simp[go_sem, *]at hm), ?_⟩; clear hK K; try w_num);(refine Goes.step rfl (λ_ hq=>?_); replace hF:=fL hF hq; clear hq; refine o8 rfl rfl (by k_ne) (λK hK=>?_); go_simp; refine hK _ _ ⟨vA (λe he=>by have hm:=dP he; simp[go_sem, *]at hm), ?_⟩; clear hK K; try w_num);(refine Goes.step rfl (λ_ hq=>?_); replace hF:=fL hF hq; clear hq; refine o8 rfl rfl (by k_ne) (λK hK=>?_); go_simp; refine hK _ _ ⟨vA (λe he=>by have hm:=dP he; simp[go_sem, *]at hm), ?_⟩; clear hK K; try w_num);(refine Goes.step rfl (λ_ hq=>?_); replace hF:=fL hF hq; clear hq; refine o8 rfl rfl (by k_ne) (λK hK=>?_); go_simp; refine hK _ _ ⟨vA (λe he=>by have hm:=dP he; simp[go_sem, *]at hm), ?_⟩; clear hK K; try w_num);(refine Goes.step rfl (λ_ hq=>?_); replace hF:=fL hF hq; clear hq; refine o8 rfl rfl (by k_ne) (λK hK=>?_); go_simp; refine hK _ _ ⟨vA (λe he=>by have hm:=dP he; simp[go_sem, *]at hm), ?_⟩; clear hK K; try w_num);(refine Goes.step rfl (λ_ hq=>?_); replace hF:=fL hF hq; clear hq; refine o8 rfl rfl (by k_ne) (λK hK=>?_); go_simp; refine hK _ _ ⟨vA (λe he=>by have hm:=dP he; simp[go_sem, *]at hm), ?_⟩; clear hK K; try w_num);(refine Goes.step rfl (λ_ hq=>?_); replace hF:=fL hF hq; clear hq; refine o8 rfl rfl (by k_ne) (λK hK=>?_); go_simp; refine hK _ _ ⟨vA (λe he=>by have hm:=dP he; simp[go_sem, *]at hm), ?_⟩; clear hK K; try w_num);(refine Goes.step rfl (λ_ hq=>?_);replace hF:=fL hF hq;clear hq;rw[Dx rfl rfl];simp only[bq];refine⟨dO,?_⟩;walk_nrm);(refine Goes.step rfl (λ_ hq=>?_);replace hF:=fL hF hq;clear hq;rw[Dx rfl rfl];simp only[bq];refine⟨dO,?_⟩;walk_nrm);(refine Goes.step rfl (λ_ hq=>?_); replace hF:=fL hF hq; clear hq; refine o8 rfl rfl (by k_ne) (λK hK=>?_); go_simp; refine hK _ _ ⟨vA (λe he=>by have hm:=dP he; simp[go_sem, *]at hm), ?_⟩; clear hK K; try w_num);(refine Goes.step rfl (λ_ hq=>?_);replace hF:=fL hF hq;clear hq;rw[mq];simp only[bq];refine⟨dO,?_⟩);(refine Goes.step rfl (λ_ hq=>?_);replace hF:=fL hF hq;clear hq;rw[Dy (t:=ο) (rfl)];simp only[bq,Bool.false_eq_true,↓reduceIte];refine⟨dO,?_⟩);(refine Goes.step rfl (λ_ hq=>?_);replace hF:=fL hF hq;clear hq;rw[Kn];simp only[bq];refine⟨dO,?_⟩);(refine Goes.step rfl (λ_ hq=>?_);replace hF:=fL hF hq;clear hq;rw[sG];simp only[bq];refine⟨dO,?_⟩);(refine Goes.step rfl (λ_ hq=>?_);replace hF:=fL hF hq;clear hq;refine Kl rfl rfl H.f_wait rfl ⟨dO,?_⟩;walk_nrm);exact Goes.stop (λjf h8=>⟨rfl,fL hF h8⟩)
 .obtain⟨S,hS⟩:∃S:Int,(v:Int)*KK=S:=⟨_,rfl⟩;have a1:S/4294967296=(v:Int):=by rw[<-hS];simp only[KK];omega
  have b1:bits .and .u64 S 2147483648=0:=by rw[<-hS];have:=st_flag v 0 (by omega) (by omega);simpa[KK]using this
  have b2:bits .and .u64 S 2147483647=0:=by rw[<-hS];have:=st_waiters v 0 (by omega) (by omega);simpa[KK]using this
  have c1:IntKind.i32.wrap (v:Int)=(v:Int):=by rw[XD];omega
  have axC:IntKind.u64.wrap (S+1)=S+1:=by rw[XC,<- hS];simp only[KK];omega
  have dR:decide ((v:Int)<0)=false:=AG (by omega);have iH:decide (0<(v:Int))=true:=CR (by omega);have lf:((v:Int)==0)=false:=by simp;omega
  have Gv:decide ((v:Int)=0)=false:=AG (by omega);rw[hS]at hw;refine⟨_,Qc (v:=S) rfl rfl (by k_ne) rfl H.f_loadU64 (Qi L) (Qj L) (Qk L) .u64 (Ql L) rfl hw.cellSt,λh0=>absurd h0 (by omega),λ_=>⟨60,?_⟩⟩;clear hw;walk_nrm;(iterate 3 first|(first|refine gm hF ?_|refine jA rfl (λ_=>sG) hF ?_);clear hF;intro _ hF|refine gC rfl rfl (by k_ne) hF ?_;clear hF;intro _ hF K hK;go_simp;refine hK _ _ ⟨fA (λe he=>by have hm:=dP he;simp[go_sem, *]at hm),?_⟩;clear hK K;try w_num);(refine Goes.step rfl (λ_ hq=>?_);replace hF:=hq hF;clear hq;refine Bl rfl rfl H.f_uLoad rfl ⟨cS,?_⟩;walk_nrm);(iterate 32 first|(first|refine ld hF ?_|refine gm hF ?_|refine y6 hF ?_|refine y7 hF (by first|rfl|(simp[je];omega)) ?_);clear hF;intro _ hF|refine jB hF ?_;simp only[List.size_toArray,List.length_cons,List.length_nil,Nat.zero_add];(try simp only[Nat.reduceAdd]);simp only[List.range,List.range.loop];clear hF;intro _ hF|refine gC rfl rfl (by k_ne) hF ?_;clear hF;intro _ hF K hK;go_simp;refine hK _ _ ⟨fA (λe he=>by have hm:=dP he;simp[go_sem, *]at hm),?_⟩;clear hK K;try w_num)
  (refine Goes.step rfl (λ_ hq=>?_);replace hF:=hq hF;clear hq;refine Dz rfl rfl (by k_ne) rfl H.f_uCas (nm_uCas L) rfl ⟨cS,?_⟩;walk_nrmf uCasFn);(iterate 11 first|(first|refine ld hF ?_|refine gm hF ?_);clear hF;intro _ hF|refine jB hF ?_;simp only[List.size_toArray,List.length_cons,List.length_nil,Nat.zero_add];(try simp only[Nat.reduceAdd]);simp only[List.range,List.range.loop];clear hF;intro _ hF|refine gC rfl rfl (by k_ne) hF ?_;clear hF;intro _ hF K hK;go_simp;refine hK _ _ ⟨fA (λe he=>by have hm:=dP he;simp[go_sem, *]at hm),?_⟩;clear hK K;try w_num)
  refine Goes.stop (λw2 h2=>?_);replace hF:=h2 hF;clear h2;refine⟨rfl,λv' hv' hw=>⟨λe=>?_,λe=>?_⟩⟩
  .subst e;rw[hS]at hw ⊢;refine⟨_,(stepG_cas_hit (v:=S) (n:=S+1) rfl rfl (by k_ne) rfl H.f_casU64 (x_casU64_n L) (x_casU64_b L) (x_casU64_x L) .u64 (x_casU64_f L) rfl rfl rfl hw.cellSt (hw.thaw 0)).trans (by rfl),70,?_⟩;replace hF:dy L.tWg Wg (w2.setCell (stA Wg) (.int .u64 (S+1))):=⟨_,_,hw.setSt _⟩;clear hw;walk_nrm;(iterate 2 first|refine gm hF ?_;clear hF;intro _ hF|refine gC rfl rfl (by k_ne) hF ?_;clear hF;intro _ hF K hK;go_simp;refine hK _ _ ⟨fA (λe he=>by have hm:=dP he;simp[go_sem, *]at hm),?_⟩;clear hK K;try w_num);(refine jA rfl (λ_=>sG) hF ?_;clear hF;intro _ hF);(refine Goes.step rfl (λ_ hq=>?_);replace hF:=hq hF;clear hq;refine Bl rfl rfl H.f_uCas rfl ⟨cS,?_⟩;walk_nrm);(iterate 2 ((first|refine gm hF ?_|refine xm hF rfl ?_);clear hF;intro _ hF));(iterate 8 first|(first|refine ld hF ?_|refine gm hF ?_);clear hF;intro _ hF|refine jB hF ?_;simp only[List.size_toArray,List.length_cons,List.length_nil,Nat.zero_add];(try simp only[Nat.reduceAdd]);simp only[List.range,List.range.loop];clear hF;intro _ hF|refine gC rfl rfl (by k_ne) hF ?_;clear hF;intro _ hF K hK;go_simp;refine hK _ _ ⟨fA (λe he=>by have hm:=dP he;simp[go_sem, *]at hm),?_⟩;clear hK K;try w_num);(refine xm hF rfl ?_;clear hF;intro _ hF);(iterate 4 first|refine jB hF ?_;simp only[List.size_toArray,List.length_cons,List.length_nil,Nat.zero_add];(try simp only[Nat.reduceAdd]);simp only[List.range,List.range.loop];clear hF;intro _ hF|refine gC rfl rfl (by k_ne) hF ?_;clear hF;intro _ hF K hK;go_simp;refine hK _ _ ⟨fA (λe he=>by have hm:=dP he;simp[go_sem, *]at hm),?_⟩;clear hK K;try w_num);(refine Goes.step rfl (λ_ hq=>?_);replace hF:=hq hF;clear hq;refine o8 rfl rfl (by k_ne) (λKx hKx=>?_);have hcv:=Kg (P:=P) H.underlying_tPU32 H.underlying_tUP H.room_tU32 (Kq hF).choose_spec;have hce:=λes=>Ki (P:=P) H.underlying_tPU32 H.underlying_tUP H.room_tU32 (Kq hF).choose_spec es;go_simp;refine hKx _ _ ⟨fA (λex hex=>by have hmx:=dP hex;simp[go_sem,hce]at hmx),?_⟩;clear hKx Kx hcv hce);(refine Goes.step rfl (λ_ hq=>?_);replace hF:=hq hF;clear hq;rw[Kj .write (by simp) rfl rfl (by k_ne) rfl H.f_raceWrite (x_raceWrite_n L) (x_raceWrite_b L) (x_raceWrite_x L) (x_raceWrite_f L) (ad:=⟨_,1,η⟩) (by simp[je]<;>rfl)];simp only[bq];refine⟨⟨rfl,aja _ rfl⟩,?_⟩;walk_nrm);(iterate 12 first|(first|refine ld hF ?_|refine gm hF ?_);clear hF;intro _ hF|refine jB hF ?_;simp only[List.size_toArray,List.length_cons,List.length_nil,Nat.zero_add];(try simp only[Nat.reduceAdd]);simp only[List.range,List.range.loop];clear hF;intro _ hF|refine gC rfl rfl (by k_ne) hF ?_;clear hF;intro _ hF K hK;go_simp;refine hK _ _ ⟨fA (λe he=>by have hm:=dP he;simp[go_sem, *]at hm),?_⟩;clear hK K;try w_num);(refine jA rfl (λ_=>Dx rfl rfl) hF ?_;clear hF;intro _ hF;walk_nrm);(iterate 2 first|refine gm hF ?_;clear hF;intro _ hF|refine gC rfl rfl (by k_ne) hF ?_;clear hF;intro _ hF K hK;go_simp;refine hK _ _ ⟨fA (λe he=>by have hm:=dP he;simp[go_sem, *]at hm),?_⟩;clear hK K;try w_num);(refine y7 hF rfl ?_;clear hF;intro _ hF);(iterate 7 first|(first|refine ld hF ?_|refine y6 hF ?_);clear hF;intro _ hF|refine jB hF ?_;simp only[List.size_toArray,List.length_cons,List.length_nil,Nat.zero_add];(try simp only[Nat.reduceAdd]);simp only[List.range,List.range.loop];clear hF;intro _ hF|refine gC rfl rfl (by k_ne) hF ?_;clear hF;intro _ hF K hK;go_simp;refine hK _ _ ⟨fA (λe he=>by have hm:=dP he;simp[go_sem, *]at hm),?_⟩;clear hK K;try w_num);refine Goes.stop (λw3 h3=>?_);replace hF:=h3 hF;clear h3;refine⟨rfl,rfl,λ⟨st,hw⟩=>stepG_semacquire_wait rfl rfl rfl H.f_semacquire (x_semacquire_n L) (x_semacquire_b L) (x_semacquire_x L) (x_semacquire_f L) (by simp[je,smA]) hw.cellSm,λhf=>?_⟩;refine⟨_,(stepG_semacquire (n:=1) rfl rfl (by k_ne) rfl H.f_semacquire (x_semacquire_n L) (x_semacquire_b L) (x_semacquire_x L) (x_semacquire_f L) (by simp[je,smA]) hf.cellSm (by k_ne) (hf.thaw 1)).trans (by rfl),30,?_⟩;replace hF:dy L.tWg Wg (w3.setCell (smA Wg) (.int .u32 0)):=⟨_,_,hf.setSm 0⟩;clear hf;walk_nrm;(iterate 6 first|(first|refine ld hF ?_|refine gm hF ?_);clear hF;intro _ hF|refine jB hF ?_;simp only[List.size_toArray,List.length_cons,List.length_nil,Nat.zero_add];(try simp only[Nat.reduceAdd]);simp only[List.range,List.range.loop];clear hF;intro _ hF|refine gC rfl rfl (by k_ne) hF ?_;clear hF;intro _ hF K hK;go_simp;refine hK _ _ ⟨fA (λe he=>by have hm:=dP he;simp[go_sem, *]at hm),?_⟩;clear hK K;try w_num);(refine Goes.step rfl (λ_ hq=>?_);replace hF:=hq hF;clear hq;refine Dz rfl rfl (by k_ne) rfl H.f_uLoad (nm_uLoad L) rfl ⟨cS,?_⟩;walk_nrmf uLoadFn);(iterate 9 first|(first|refine ld hF ?_|refine gm hF ?_);clear hF;intro _ hF|refine jB hF ?_;simp only[List.size_toArray,List.length_cons,List.length_nil,Nat.zero_add];(try simp only[Nat.reduceAdd]);simp only[List.range,List.range.loop];clear hF;intro _ hF|refine gC rfl rfl (by k_ne) hF ?_;clear hF;intro _ hF K hK;go_simp;refine hK _ _ ⟨fA (λe he=>by have hm:=dP he;simp[go_sem, *]at hm),?_⟩;clear hK K;try w_num);refine Goes.stop (λw4 h4=>?_);replace hF:=h4 hF;clear h4;refine⟨rfl,λhw=>⟨_,Qc (v:=0) rfl rfl (by k_ne) rfl H.f_loadU64 (Qi L) (Qj L) (Qk L) .u64 (Ql L) rfl hw.cellSt,30,?_⟩⟩;clear hw;walk_nrm;(iterate 2 first|refine gm hF ?_;clear hF;intro _ hF|refine gC rfl rfl (by k_ne) hF ?_;clear hF;intro _ hF K hK;go_simp;refine hK _ _ ⟨fA (λe he=>by have hm:=dP he;simp[go_sem, *]at hm),?_⟩;clear hK K;try w_num);(refine jA rfl (λ_=>sG) hF ?_;clear hF;intro _ hF);(refine Goes.step rfl (λ_ hq=>?_);replace hF:=hq hF;clear hq;refine Bl rfl rfl H.f_uLoad rfl ⟨cS,?_⟩;walk_nrm);(iterate 4 first|(first|refine ld hF ?_|refine gm hF ?_);clear hF;intro _ hF|refine gC rfl rfl (by k_ne) hF ?_;clear hF;intro _ hF K hK;go_simp;refine hK _ _ ⟨fA (λe he=>by have hm:=dP he;simp[go_sem, *]at hm),?_⟩;clear hK K;try w_num);(refine xm hF rfl ?_;clear hF;intro _ hF);(iterate 2 first|refine ld hF ?_;clear hF;intro _ hF|refine jB hF ?_;simp only[List.size_toArray,List.length_cons,List.length_nil,Nat.zero_add];(try simp only[Nat.reduceAdd]);simp only[List.range,List.range.loop];clear hF;intro _ hF);refine Goes.stop (λaO h5=>?_);replace hF:=h5 hF;clear h5;refine⟨rfl,_,Kk .enable (by simp) rfl rfl (by k_ne) rfl H.f_enable (Ks L) (Kt L) (Ku L) (Kv L),12,?_⟩;walk_nrm;(iterate 3 first|refine gm hF ?_;clear hF;intro _ hF|refine jB hF ?_;simp only[List.size_toArray,List.length_cons,List.length_nil,Nat.zero_add];(try simp only[Nat.reduceAdd]);simp only[List.range,List.range.loop];clear hF;intro _ hF|refine gC rfl rfl (by k_ne) hF ?_;clear hF;intro _ hF K hK;go_simp;refine hK _ _ ⟨fA (λe he=>by have hm:=dP he;simp[go_sem, *]at hm),?_⟩;clear hK K;try w_num);(refine Goes.step rfl (λ_ hq=>?_);replace hF:=hq hF;clear hq;refine o8 rfl rfl (by k_ne) (λKx hKx=>?_);have hcv:=Kg (P:=P) H.underlying_tWgP H.underlying_tUP H.room_tWg (Kr hF).choose_spec;have hce:=λes=>Ki (P:=P) H.underlying_tWgP H.underlying_tUP H.room_tWg (Kr hF).choose_spec es;go_simp;refine hKx _ _ ⟨fA (λex hex=>by have hmx:=dP hex;simp[go_sem,hce]at hmx),?_⟩;clear hKx Kx hcv hce);refine Goes.stop (λbW h6=>?_);replace hF:=h6 hF;clear h6;refine⟨rfl,_,Kj .acquire (by simp) rfl rfl (by k_ne) rfl H.f_acquire (x_acquire_n L) (x_acquire_b L) (x_acquire_x L) (x_acquire_f L) (by simp[je,stA]),10,?_⟩;clear hF;intro w7 _;have hF:tW w7 w7:=atRel_refl w7;walk_nrm;(refine Goes.step rfl (λ_ hq=>?_);replace hF:=fL hF hq;clear hq;rw[mq];simp only[bq];refine⟨dO,?_⟩);(refine Goes.step rfl (λ_ hq=>?_);replace hF:=fL hF hq;clear hq;rw[k8];simp only[bq];refine⟨dO,?_⟩);(refine Goes.step rfl (λ_ hq=>?_);replace hF:=fL hF hq;clear hq;rw[k8];simp only[bq];refine⟨dO,?_⟩);(refine Goes.step rfl (λ_ hq=>?_);replace hF:=fL hF hq;clear hq;rw[oD];simp only[bq,List.size_toArray,List.length_cons,List.length_nil,Nat.zero_add];(try simp only[Nat.reduceAdd]);simp only[List.range,List.range.loop];refine⟨dO,?_⟩);(refine Goes.step rfl (λ_ hq=>?_); replace hF:=fL hF hq; clear hq; refine o8 rfl rfl (by k_ne) (λK hK=>?_); go_simp; refine hK _ _ ⟨vA (λe he=>by have hm:=dP he; simp[go_sem, *]at hm), ?_⟩; clear hK K; try w_num);(refine Goes.step rfl (λ_ hq=>?_);replace hF:=fL hF hq;clear hq;rw[mq];simp only[bq];refine⟨dO,?_⟩);(refine Goes.step rfl (λ_ hq=>?_);replace hF:=fL hF hq;clear hq;rw[Dy (t:=ο) (rfl)];simp only[bq,Bool.false_eq_true,↓reduceIte];refine⟨dO,?_⟩);(refine Goes.step rfl (λ_ hq=>?_);replace hF:=fL hF hq;clear hq;rw[Kn];simp only[bq];refine⟨dO,?_⟩);(refine Goes.step rfl (λ_ hq=>?_);replace hF:=fL hF hq;clear hq;rw[sG];simp only[bq];refine⟨dO,?_⟩);(refine Goes.step rfl (λ_ hq=>?_);replace hF:=fL hF hq;clear hq;refine Kl rfl rfl H.f_wait rfl ⟨dO,?_⟩;walk_nrm);exact Goes.stop (λjf h8=>⟨rfl,fL hF h8⟩)
  .refine⟨_,stepG_cas_miss (v:=(v':Int)*KK) (old:=S) (n:=S+1) rfl rfl (by k_ne) rfl H.f_casU64 (x_casU64_n L) (x_casU64_b L) (x_casU64_x L) .u64 (x_casU64_f L) rfl rfl rfl hw.cellSt (hw.thaw 0) (by rw[<-hS];simp only[KK];omega),20,?_⟩;clear hw;walk_nrm;(iterate 2 first|refine gm hF ?_;clear hF;intro _ hF|refine gC rfl rfl (by k_ne) hF ?_;clear hF;intro _ hF K hK;go_simp;refine hK _ _ ⟨fA (λe he=>by have hm:=dP he;simp[go_sem, *]at hm),?_⟩;clear hK K;try w_num);(refine jA rfl (λ_=>sG) hF ?_;clear hF;intro _ hF);(refine Goes.step rfl (λ_ hq=>?_);replace hF:=hq hF;clear hq;refine Bl rfl rfl H.f_uCas rfl ⟨cS,?_⟩;walk_nrm);(iterate 4 ((first|refine gm hF ?_|refine y6 hF ?_|refine y7 hF rfl ?_|refine jA rfl (λ_=>stepG_inBlock) hF ?_);clear hF;intro _ hF));(refine Goes.step rfl (λ_ hq=>?_);replace hF:=hq hF;clear hq;rw[stepG_inLoop];simp only[bq];refine⟨cS,?_⟩);exact Goes.stop (λw3 h3=>⟨_,rfl,by simp,by simp,h3 hF⟩)
end
end fV
end Go.Proofs.YtfphigmeppdocaaGreatDoor
namespace Go.Proofs.YtfphigmeppdocaaGreatDoor
open Go.RowKit
abbrev lk:Go.Conc.Lib.WgLink:={add:=140,done:=142,wait:=144,relMerge:=151,disable:=152,enable:=153,inBubble:=154,associate:=155,fatal:=156,uOr:=157,uAdd:=158,raceRead:=159,uLoad:=160,uStore:=161,disassociate:=162,semrelease:=163,acquire:=165,isAssociated:=166,uCas:=167,raceWrite:=168,semacquire:=169,orU64:=183,addU64:=184,loadU64:=185,storeU64:=186,casU64:=188,tWgP:=234,tUP:=66,tAssoc:=236,tWg:=217,tAU:=215,tU64:=156,tUint:=97,tU32:=152,tPU32:=240,tPAU:=261,tPU64:=263,tNoCopy:=211,tANoCopy:=212,tAlign64:=213 }
theorem Kz:Go.Conc.Lib.WgLib Tryz.prog lk:=
 ⟨Tryz.func140,Tryz.func142,Tryz.func144,Tryz.func151,Tryz.func152,Tryz.func153,Tryz.func154,Tryz.func155,Tryz.func156,Tryz.func157,Tryz.func158,Tryz.func159,Tryz.func160,Tryz.func161,Tryz.func162,Tryz.func163,Tryz.func165,Tryz.func166,Tryz.func167,Tryz.func168,Tryz.func169,Tryz.func183,Tryz.func184,Tryz.func185,Tryz.func186,Tryz.func188,Tryz.underlying234,Tryz.runUnderlying234,Tryz.sizeOf234,Tryz.isAgg234,Tryz.zeroValue234,Tryz.underlying66,Tryz.runUnderlying66,Tryz.sizeOf66,Tryz.isAgg66,Tryz.zeroValue66,Tryz.underlying236,Tryz.runUnderlying236,Tryz.sizeOf236,Tryz.isAgg236,Tryz.zeroValue236,Tryz.underlying217,Tryz.runUnderlying217,Tryz.sizeOf217,Tryz.isAgg217,Tryz.zeroValue217,Tryz.underlying215,Tryz.runUnderlying215,Tryz.sizeOf215,Tryz.isAgg215,Tryz.zeroValue215,Tryz.underlying156,Tryz.runUnderlying156,Tryz.sizeOf156,Tryz.isAgg156,Tryz.zeroValue156,Tryz.underlying97,Tryz.runUnderlying97,Tryz.sizeOf97,Tryz.isAgg97,Tryz.zeroValue97,Tryz.underlying152,Tryz.runUnderlying152,Tryz.sizeOf152,Tryz.isAgg152,Tryz.zeroValue152,Tryz.underlying240,Tryz.runUnderlying240,Tryz.sizeOf240,Tryz.isAgg240,Tryz.zeroValue240,Tryz.underlying261,Tryz.runUnderlying261,Tryz.sizeOf261,Tryz.isAgg261,Tryz.zeroValue261,Tryz.underlying263,Tryz.runUnderlying263,Tryz.sizeOf263,Tryz.isAgg263,Tryz.zeroValue263,Tryz.underlying0,Tryz.runUnderlying0,Tryz.sizeOf0,Tryz.isAgg0,Tryz.zeroValue0,Tryz.underlying3,Tryz.runUnderlying3,Tryz.sizeOf3,Tryz.isAgg3,Tryz.zeroValue3,Tryz.underlying4,Tryz.runUnderlying4,Tryz.sizeOf4,Tryz.isAgg4,Tryz.zeroValue4,Tryz.underlying9,Tryz.runUnderlying9,Tryz.sizeOf9,Tryz.isAgg9,Tryz.zeroValue9,Tryz.underlying20,Tryz.runUnderlying20,Tryz.sizeOf20,Tryz.isAgg20,Tryz.zeroValue20,Tryz.underlying21,Tryz.runUnderlying21,Tryz.sizeOf21,Tryz.isAgg21,Tryz.zeroValue21,(by kernel_rfl),(by kernel_rfl)⟩
instance:Go.ConcR.Payload:=⟨189⟩
end Go.Proofs.YtfphigmeppdocaaGreatDoor
namespace Go.Proofs.YtfphigmeppdocaaGreatDoor
namespace fV
open Go.Conc Go.ConcN Go.RowKit Go.Conc.Lib Go.ConcR.Gen Go.ConcN.Gen
open Go.ConcR (KK wgBlock WgAt stA smA rd wr mk Payload DC0)
variable{ad:bP}{ls ls':Array Bool}{es:Array eU}{T:Array ay}{ds:List Deferred}{d t:Nat}{x:Operand}{v:ay}{w':υ}
def hY:Frame:=baseD 141
noncomputable def bot:Frame:={(default:Frame)with fn:=Tryz.prog.funcs.size,defers:=[],mode:=.panicking [Qb] }
noncomputable def Gx:Code:=Tryz.f141.body.getD .skip
noncomputable def cM:Array Oper:=match Gx with
 | .seq _ (.region _ ops _)=>ops
 |_=>#[]
noncomputable def y8 (N:Nat):Deferred:={target:=.fn (.func 141) #[.pointer (θ ⟨N+5,0,η⟩),.pointer (θ ⟨N,0,η⟩),.pointer (θ ⟨N+1,0,η⟩),.pointer (θ ⟨N+6,0,η⟩),.pointer (θ ⟨N+2,0,η⟩),.pointer (θ ⟨N+4,0,η⟩)],args:=#[] }
theorem ajf N w:bh Tryz.prog ο (born Tryz.prog (y8 N)) w=
  .go (G (hY.at ⟨#[.pointer (θ ⟨N+5,0,η⟩),.pointer (θ ⟨N,0,η⟩),.pointer (θ ⟨N+1,0,η⟩),.pointer (θ ⟨N+6,0,η⟩),.pointer (θ ⟨N+2,0,η⟩),.pointer (θ ⟨N+4,0,η⟩),undef,undef,undef,undef,undef,undef,undef,undef],[]⟩ [.code Gx]) [bot]) w #[]:=by
 simp[born,y8,bh,nH,callDeferred,invoke,gX,Tryz.func141,Tryz.f141,seen,yJ,G,Frame.enter,Frame.at,hY,baseD,bot,Gx]
theorem ajg T:QuitsD Tryz.prog 2 0 (G {hY.at ⟨T,[]⟩ []with mode:=.returning } [bot]):=by
 refine QuitsD.ctl (g':=G bot []) rfl (λw=>?_) ?_
 .simp[G,bh,nH,doReturn,results,Frame.at,hY,baseD,bot,Tryz.func141,Tryz.f141,seen,yJ,Qb]
 refine QuitsD.ctl (g':={G bot []with status:=.finished }) rfl (λw=>?_) ⟨rfl,rfl⟩;simp[G,bh,nH,bot,Qb,Frame.catches];rfl
theorem XS:(Tryz.prog.funcs[hY.fn]?).any (·.norace)=false:=by kernel_rfl
section
variable {a:Act}{w:υ}{ops:Array Oper}{k:Nat}{rest:List Nat}{o:Oper}{kk:List kD}
theorem ajh{ty:Θ}(ho:ops[k]?=θ o)(hg:o.guard=η)(hop:o.op=.load ty x)(hty:∀w,(nI ty).run Tryz.prog w=.ok ο w)(hx:a.eval x=.pointer (θ ad))(hc:w.cell? ad=θ v):bh Tryz.prog ο (G (hY.at a (.inRegion ops (k::rest)::kk)) [bot]) w=.go (G (hY.at (a.put o.dst v) (.inRegion ops rest::kk)) [bot]) w #[⟨.cell ad,ο,ο⟩]:=by
 have hr:(aL a.eval o).run Tryz.prog w=.ok (.value v) w:=by unfold aL;simp only[hop,hx];simp[go_sem,hty,hc]
 have he:(aL a.eval o).events Tryz.prog w #[]=#[⟨.cell ad,ο,ο⟩]:=by unfold aL;simp only[hop,hx];simp[go_sem,hty,hc]
 rw[tU ho (by simp[cF,hg]) (by decide) hr];unfold listed;rw[he,Gl XS (by simp)]
end
structure jg(N:Nat)(news paths:ay)(w:υ):Prop where
 cN:w.cell? ⟨N,0,η⟩=θ news
 cP:w.cell? ⟨N+1,0,η⟩=θ paths
 cW:w.cell? ⟨N+2,0,η⟩=θ (.int .i64 1)
 cB:w.cell? ⟨N+4,0,η⟩=θ (.slice (θ ⟨N+3,0,η⟩) 1 1)
 cI:w.cell? ⟨N+6,0,η⟩=θ (.int .i64 0)
 live:dy lk.tWg (N+5) w
 pN:DC N 1 w
def e5(N:Nat)(w w₁:υ):Prop:=q5 (N+5) w w₁/\(dy lk.tWg (N+5) w->dy lk.tWg (N+5) w₁)
def DJ(ag:Nat->Prop)(N:Nat)(w w':υ)(es:Array eU):Prop:=Ds (N+5) w w'/\w'.heap.size=w.heap.size/\(∀b,b≠N+3->w'.heap[b]?=w.heap[b]?)/\∀e∈es,Dt ag (N+5) w'.heap.size e
def tY(ag:Nat->Prop)(N:Nat)(w w':υ)(es:Array eU):Prop:=(∃d,w'=w.at d)/\∀e∈es,Dt ag (N+5) w'.heap.size e
theorem e5.refl N w:e5 N w w:=⟨⟨λ_ _=>rfl,rfl⟩,id⟩
theorem e5.tr N:∀a b c,e5 N a b->e5 N b c->e5 N a c:=λ_ _ _ h h'=>⟨⟨λb hb=>(h'.1.same b hb).trans (h.1.same b hb),h'.1.size.trans h.1.size⟩,h'.2∘h.2⟩
theorem KA Wg w d:Ds Wg w (w.at d):=⟨⟨rfl,rfl,rfl⟩,Nat.le_refl _,rfl⟩
theorem tY.KB{ag}{N}{w}(h:tY ag N w w' es):DJ ag N w w' es:=by obtain⟨⟨d,rfl⟩,h2⟩:=h;exact⟨KA _ w d,rfl,λ_ _=>rfl,h2⟩
section
variable {ag:Nat->Prop}{N:Nat}{news paths:ay}{w w₁:υ}
theorem jg.of(h:jg N news paths w)(hl:∀b,N<=b->b<=N+6->b≠N+5->b≠N+3->w₁.heap[b]?=w.heap[b]?)(hv:dy lk.tWg (N+5) w₁):jg N news paths w₁:=by have hc:∀b,N<=b->b<=N+6->b≠N+5->b≠N+3->∀o,w₁.cell? ⟨b,o,η⟩=w.cell? ⟨b,o,η⟩:=λb h0 h1 h2 h3 o=>Qf (hl b h0 h1 h2 h3) o;refine⟨(hc _ (by omega) (by omega) (by omega) (by omega) _).trans h.cN,(hc _ (by omega) (by omega) (by omega) (by omega) _).trans h.cP,(hc _ (by omega) (by omega) (by omega) (by omega) _).trans h.cW,(hc _ (by omega) (by omega) (by omega) (by omega) _).trans h.cB,(hc _ (by omega) (by omega) (by omega) (by omega) _).trans h.cI,hv,?_⟩;obtain⟨cs,h1,h2⟩:=h.pN;exact⟨cs,(hl N (by omega) (by omega) (by omega) (by omega)).trans h1,h2⟩
theorem jg.rely(h:jg N news paths w)(r:e5 N w w₁):jg N news paths w₁:=h.of (λb _ _ h1 _=>r.1.same b h1) (r.2 h.live)
theorem Qr{w:υ}{a}(h:w.cell? a=θ v):a.block<w.heap.size:=by
 rcases Nat.lt_or_ge a.block w.heap.size with h'|h'
 .exact h'
 .simp[c7,gx h']at h
theorem aji(vQ:∀b,ag b->b<N\/b=N+5)(hc:w.cell? ad=θ v)(h:N<=ad.block/\ad.block≠N+5):tY ag N w w #[⟨.cell ad,ο,ο⟩]:=by
 refine⟨⟨w.drawn,rfl⟩,λe he=>?_⟩;rw[Gi]at he;subst he;refine⟨λx hx=>?_,by simp,by simp,by simp,λx hx=>?_⟩<;>simp only[vu,sI,Γ]at hx<;>subst hx
 .rintro⟨a1,e1,e2⟩;cases e1
  have:=vQ _ e2;omega
 .exact Qr hc
theorem y9:tY ag N w w #[]:=⟨⟨w.drawn,rfl⟩,by simp⟩
end
def Gy(N:Nat)(news paths:ay):Nat->ay
 |0=>.slice (θ ⟨N+3,0,η⟩) 1 1
 |1=>.int .i64 0
 |2=>news
 |3=>paths
 |4=>.int .i64 0
 |5=>.int .i64 1
 |_=>undef
def Bq(N:Nat):Nat->Nat
 |0=>N+4
 |1=>N+6
 |2=>N
 |3=>N+1
 |4=>N+6
 |5=>N+2
 |_=>0
def KC:Nat->Nat
 |0=>5
 |1=>3
 |2=>1
 |3=>2
 |4=>3
 |5=>4
 |_=>0
def XT:Nat->Θ
 |0=>194
 |1=>3
 |2=>189
 |3=>191
 |4=>3
 |5=>3
 |_=>0
theorem XU k(hk:k<6):∃o,cM[k]?=θ o/\o.guard=η/\o.op=.load (XT k) (.tmp (KC k))/\o.dst=θ (6+k)/\o.after=#[]:=by
 have h:k=0\/k=1\/k=2\/k=3\/k=4\/k=5:=by omega
 rcases h with rfl|rfl|rfl|rfl|rfl|rfl<;>exact⟨_,rfl,rfl,rfl,rfl,rfl⟩
theorem ajj k(hk:k<6):∀w,(nI (XT k)).run Tryz.prog w=.ok ο w:=by
 have h:k=0\/k=1\/k=2\/k=3\/k=4\/k=5:=by omega
 rcases h with rfl|rfl|rfl|rfl|rfl|rfl
 .exact Tryz.isAgg194
 .exact Tryz.isAgg3
 .exact Tryz.isAgg189
 .exact Tryz.isAgg191
 .exact Tryz.isAgg3
 .exact Tryz.isAgg3
theorem KD:∃o,cM[6]?=θ o/\o.guard=η/\o.op=.call {callee:=.value (.func 143),args:=#[.tmp 8,.tmp 9,.tmp 10,.tmp 11],argTypes:=#[189,191,3,3] }/\o.dst=θ 12 /\
 o.after=#[⟨2,.data⟩,⟨3,.data⟩,⟨4,.data⟩,⟨5,.data⟩]:=⟨_,rfl,rfl,rfl,rfl,rfl⟩
theorem Qs:∃o,cM[7]?=θ o/\o.guard=η/\o.op=.indexAddr 194 (.tmp 6) (.tmp 7)/\o.dst=θ 13 /\
 o.after=#[⟨0,.data⟩,⟨1,.data⟩,⟨0,.phase⟩,⟨1,.phase⟩,⟨2,.phase⟩,⟨3,.phase⟩,⟨4,.phase⟩,⟨5,.phase⟩,⟨6,.phase⟩]:=⟨_,rfl,rfl,rfl,rfl,rfl⟩
theorem Qt:∃o,cM[8]?=θ o/\o.guard=η/\o.op=.store 189 (.tmp 13) (.tmp 12)/\o.dst=η /\
 o.after=#[⟨7,.data⟩,⟨6,.data⟩,⟨6,.chain⟩,⟨0,.phase⟩,⟨1,.phase⟩,⟨2,.phase⟩,⟨3,.phase⟩,⟨4,.phase⟩,⟨5,.phase⟩,⟨6,.phase⟩]:=⟨_,rfl,rfl,rfl,rfl,rfl⟩
theorem ajk:cM.size=9:=rfl
def cJ(l0 l1 l2 l3 l4 eE xo iI lp:Bool):Array Bool:=#[l0,l1,l2,l3,l4,eE,xo,iI,lp]
theorem KE{k}{l0 l1 l2 l3 l4 eE xo iI lp}:k∈dZ .any cM (cJ l0 l1 l2 l3 l4 eE xo iI lp)↔
  (k=0/\l0=ο)\/(k=1/\l1=ο)\/(k=2/\l2=ο)\/(k=3/\l3=ο)\/(k=4/\l4=ο)\/(k=5/\eE=ο)\/(k=6/\xo=ο/\l2=ν/\l3=ν/\l4=ν/\eE=ν) \/
  (k=7/\iI=ο/\l0=ν/\l1=ν/\l2=ν/\l3=ν/\l4=ν/\eE=ν/\xo=ν)\/(k=8/\lp=ο/\l0=ν/\l1=ν/\l2=ν/\l3=ν/\l4=ν/\eE=ν/\xo=ν/\iI=ν):=by
 rw[mem_ready];constructor
 .rintro⟨h0,o,ho,ha⟩;have hk:k<9:=by have:=(ξ.1 ho).1;rw[ajk]at this;exact this
  have hc:k<6\/k=6\/k=7\/k=8:=by omega
  rcases hc with hc|rfl|rfl|rfl
  ·(have h:k=0\/k=1\/k=2\/k=3\/k=4\/k=5:=by omega);rcases h with rfl|rfl|rfl|rfl|rfl|rfl<;>simp[cJ]at h0<;>simp[h0]
  .obtain⟨o',ho',_,_,_,hx⟩:=KD;(rw[ho]at ho';cases ho');rw[hx]at ha;simp[cJ,k9]at h0 ha;simp[h0,ha]
  .obtain⟨o',ho',_,_,_,hx⟩:=Qs;(rw[ho]at ho';cases ho');rw[hx]at ha;simp[cJ,k9]at h0 ha;simp[h0,ha]
  .obtain⟨o',ho',_,_,_,hx⟩:=Qt;(rw[ho]at ho';cases ho');rw[hx]at ha;simp[cJ,k9]at h0 ha;simp[h0,ha]
 .have oH:∀k,k<6->(cJ l0 l1 l2 l3 l4 eE xo iI lp).getD k ν=ο->(cJ l0 l1 l2 l3 l4 eE xo iI lp).getD k ν=ο/\∃o,cM[k]?=θ o/\∀e∈o.after,k9 .any e=ν->(cJ l0 l1 l2 l3 l4 eE xo iI lp).getD e.on ο=true:=λk hk h0=>
   let ⟨o,ho,_,_,_,hx⟩:=XU k hk
   ⟨h0,o,ho,λe he=>by rw[hx]at he;simp at he⟩
  rintro(⟨rfl,h⟩|⟨rfl,h⟩|⟨rfl,h⟩|⟨rfl,h⟩|⟨rfl,h⟩|⟨rfl,h⟩|⟨rfl,h⟩|⟨rfl,h⟩|⟨rfl,h⟩)
  .exact oH 0 (by omega) (by simp[cJ,h])
  .exact oH 1 (by omega) (by simp[cJ,h])
  .exact oH 2 (by omega) (by simp[cJ,h])
  .exact oH 3 (by omega) (by simp[cJ,h])
  .exact oH 4 (by omega) (by simp[cJ,h])
  .exact oH 5 (by omega) (by simp[cJ,h])
  .obtain⟨o',ho',_,_,_,hx⟩:=KD;refine⟨by simp[cJ,h],o',ho',λe he _=>?_⟩;rw[hx]at he;simp at he;rcases he with rfl|rfl|rfl|rfl<;>simp[cJ,h]
  .obtain⟨o',ho',_,_,_,hx⟩:=Qs;refine⟨by simp[cJ,h],o',ho',λe he _=>?_⟩;rw[hx]at he;simp at he;rcases he with rfl|rfl|rfl|rfl|rfl|rfl|rfl|rfl|rfl<;>simp[cJ,h]
  .obtain⟨o',ho',_,_,_,hx⟩:=Qt;refine⟨by simp[cJ,h],o',ho',λe he _=>?_⟩;rw[hx]at he;simp at he;rcases he with rfl|rfl|rfl|rfl|rfl|rfl|rfl|rfl|rfl|rfl<;>simp[cJ,h]
theorem XV fuel t ls(hne:dZ .any cM ls≠[]):∃k t',k∈dZ .any cM ls/\iA .any cM (fuel+1) t ls []=k::iA .any cM fuel t' (ls.setIfInBounds k ν) []:=by
 have hgo:iA .any cM (fuel+1) t ls []=match(dZ .any cM ls)[t%(dZ .any cM ls).length]? with
   |some i=>iA .any cM fuel (t/(dZ .any cM ls).length) (ls.setIfInBounds i ν) [i]
   |none=>[].reverse:=rfl
 cases hi:(dZ .any cM ls)[t%(dZ .any cM ls).length]? with
 |none=>
  exfalso;have hlt:t%(dZ .any cM ls).length<(dZ .any cM ls).length:=Nat.mod_lt _ (List.length_pos_iff.2 hne);rw[List.getElem?_eq_getElem hlt]at hi;cases hi
 |some k=>
  refine⟨k,t/(dZ .any cM ls).length,List.mem_of_getElem? hi,?_⟩;rw[hgo,hi];simp only;rw[linearise_go_acc,List.reverse_singleton,List.singleton_append]
structure vB(N:Nat)(news paths:ay)(ls:Array Bool)(T:Array ay):Prop where
 size:T.size=14
 t0:T[0]?=θ (.pointer (θ ⟨N+5,0,η⟩))
 cap:∀k,k<6->T[KC k]?=θ (.pointer (θ ⟨Bq N k,0,η⟩))
 got:∀k,k<6->ls.getD k ο=ν->T[6+k]?=θ (Gy N news paths k)
theorem ajl k:KC k<6:=by unfold KC;split<;>omega
theorem vB.put{N}{news paths}(h:vB N news paths ls T)(hd:6<=d)(hl:∀k,k<6->ls'.getD k ο=ν->(6+k=d/\v=Gy N news paths k)\/(6+k≠d/\ls.getD k ο=ν))(axD:d<14):vB N news paths ls' (T.setIfInBounds d v):=by
 refine⟨by simp[h.size],by rw[lZ (by omega)];exact h.t0,λk hk=>by rw[lZ (by have:=ajl k;omega)];exact h.cap k hk,λk hk bp=>?_⟩;rcases hl k hk bp with⟨rfl,rfl⟩|⟨h1,h2⟩
 .rw[CU (by rw[h.size];omega)]
 .rw[lZ (jx h1)];exact h.got k hk h2
theorem xp(h:T[t]?=θ v):(⟨T,ds⟩:Act).eval (.tmp t)=v:=by simp[je,h]
section
variable {ag:Nat->Prop}{N:Nat}{news paths:ay}{w:υ}
theorem jg.src(h:jg N news paths w)k(hk:k<6):w.cell? ⟨Bq N k,0,η⟩=θ (Gy N news paths k):=by
 have hc:k=0\/k=1\/k=2\/k=3\/k=4\/k=5:=by omega
 rcases hc with rfl|rfl|rfl|rfl|rfl|rfl
 .exact h.cB
 .exact h.cI
 .exact h.cN
 .exact h.cP
 .exact h.cI
 .exact h.cW
theorem ajm k(hk:k<6):N<=Bq N k/\Bq N k≠N+5:=by
 have hc:k=0\/k=1\/k=2\/k=3\/k=4\/k=5:=by omega
 rcases hc with rfl|rfl|rfl|rfl|rfl|rfl<;>simp[Bq]<;>omega
theorem XW(vQ:∀b,ag b->b<N\/b=N+5)(h:jg N news paths w)(hs:vB N news paths ls T){k}(hk:k<6)rest:bh Tryz.prog ο (G (hY.at ⟨T,ds⟩ (.inRegion cM (k::rest)::[])) [bot]) w=.go (G (hY.at ⟨T.setIfInBounds (6+k) (Gy N news paths k),ds⟩ (.inRegion cM rest::[])) [bot]) w #[⟨.cell ⟨Bq N k,0,η⟩,ο,ο⟩] /\
  tY ag N w w #[⟨.cell ⟨Bq N k,0,η⟩,ο,ο⟩]:=by
 obtain⟨o,ho,hg,hop,hd,_⟩:=XU k hk;refine⟨?_,aji vQ (h.src k hk) (ajm k hk)⟩;rw[ajh ho hg hop (ajj k hk) (xp (hs.cap k hk)) (h.src k hk)];simp[dz,hd]
def za(news paths:ay):Array Value:=#[news,paths,.int .i64 0,.int .i64 1]
noncomputable def ia (N:Nat):List Deferred:=[dcall 142 #[.pointer (θ ⟨N+5,0,η⟩)]]
def Gz(N:Nat)(news paths:ay)(g:Goroutine)(w:υ):Prop:=
 jg N news paths w/\∃T l0 l1 fuel t,fuel+l0.toNat+l1.toNat=4/\vB N news paths (cJ l0 l1 ν ν ν ν ο ο ο) T /\
  g=G (hY.at ⟨T,ia N⟩ (.inRegion cM (6::iA .any cM fuel t (cJ l0 l1 ν ν ν ν ν ο ο) [])::[])) [bot]
theorem ajn(vQ:∀b,ag b->b<N\/b=N+5):∀(fuel t:Nat) (l0 l1 l2 l3 l4 eE:Bool) (T:Array ay) (w:υ),fuel+l0.toNat+l1.toNat+l2.toNat+l3.toNat+l4.toNat+eE.toNat=9->jg N news paths w ->
  vB N news paths (cJ l0 l1 l2 l3 l4 eE ο ο ο) T ->
  Goes Tryz.prog ο (e5 N) (tY ag N) (Gz N news paths) fuel (G (hY.at ⟨T,ia N⟩ (.inRegion cM (iA .any cM fuel t (cJ l0 l1 l2 l3 l4 eE ο ο ο) [])::[])) [bot]) w:=by
 intro fuel;induction fuel with
 |zero=>
  intro t l0 l1 l2 l3 l4 eE T w hf;exfalso;cases l0<;>cases l1<;>cases l2<;>cases l3<;>cases l4<;>cases eE<;>simp at hf
 |succ fuel ih=>
  intro t l0 l1 l2 l3 l4 eE T w hf hk hs;have hne:dZ .any cM (cJ l0 l1 l2 l3 l4 eE ο ο ο)≠[]:=by intro h0;(have hno:∀k,k∉dZ .any cM (cJ l0 l1 l2 l3 l4 eE ο ο ο):=by intro k;rw[h0];simp);have h6:=hno 6;have e0:=hno 0;have e1:=hno 1;have e2:=hno 2;have e3:=hno 3;have iJ:=hno 4;have iK:=hno 5;rw[KE]at h6 e0 e1 e2 e3 iJ iK;simp at h6 e0 e1 e2 e3 iJ iK;exact absurd (h6 e2 e3 iJ) (by simp[iK])
  obtain⟨k,t',hkr,hgo⟩:=XV fuel t _ hne;rw[hgo];have oH:∀(k:Nat) (ls':Array Bool),k<6->ls'=(cJ l0 l1 l2 l3 l4 eE ο ο ο).setIfInBounds k ν->(∀aM w',jg N news paths w'->vB N news paths ls' aM ->
    Goes Tryz.prog ο (e5 N) (tY ag N) (Gz N news paths) fuel (G (hY.at ⟨aM,ia N⟩ (.inRegion cM (iA .any cM fuel t' ls' [])::[])) [bot]) w') ->
    Goes Tryz.prog ο (e5 N) (tY ag N) (Gz N news paths) (fuel+1) (G (hY.at ⟨T,ia N⟩ (.inRegion cM (k::iA .any cM fuel t' ls' [])::[])) [bot]) w:=by
   intro k ls' KF hls hnext;refine Goes.step rfl λw₁ r₁=>?_;have hk1:=hk.rely r₁;obtain⟨hst,hD⟩:=XW (ds:=ia N) vQ hk1 hs KF (iA .any cM fuel t' ls' []);rw[hst,bq];refine⟨hD,hnext _ _ hk1 (hs.put (by omega) (λk' hk' hl=>?_) (by omega))⟩;by_cases e:k'=k
   .subst e;exact .inl ⟨rfl,rfl⟩
   .refine .inr ⟨by omega,?_⟩;rw[hls,getD_set_ne _ (jx e)]at hl;exact hl
  rw[KE]at hkr;rcases hkr with⟨rfl,rfl⟩|⟨rfl,rfl⟩|⟨rfl,rfl⟩|⟨rfl,rfl⟩|⟨rfl,rfl⟩|⟨rfl,rfl⟩|⟨rfl,_,rfl,rfl,rfl,rfl⟩|⟨_,_,_,_,_,_,_,_,h⟩|⟨_,_,_,_,_,_,_,_,h,_⟩
  .exact oH 0 (cJ ν l1 l2 l3 l4 eE ο ο ο) (by omega) rfl λaM w' h1 h2=>ih t' ν l1 l2 l3 l4 eE aM w' (by simp at hf ⊢;omega) h1 h2
  .exact oH 1 (cJ l0 ν l2 l3 l4 eE ο ο ο) (by omega) rfl λaM w' h1 h2=>ih t' l0 ν l2 l3 l4 eE aM w' (by simp at hf ⊢;omega) h1 h2
  .exact oH 2 (cJ l0 l1 ν l3 l4 eE ο ο ο) (by omega) rfl λaM w' h1 h2=>ih t' l0 l1 ν l3 l4 eE aM w' (by simp at hf ⊢;omega) h1 h2
  .exact oH 3 (cJ l0 l1 l2 ν l4 eE ο ο ο) (by omega) rfl λaM w' h1 h2=>ih t' l0 l1 l2 ν l4 eE aM w' (by simp at hf ⊢;omega) h1 h2
  .exact oH 4 (cJ l0 l1 l2 l3 ν eE ο ο ο) (by omega) rfl λaM w' h1 h2=>ih t' l0 l1 l2 l3 ν eE aM w' (by simp at hf ⊢;omega) h1 h2
  .exact oH 5 (cJ l0 l1 l2 l3 l4 ν ο ο ο) (by omega) rfl λaM w' h1 h2=>ih t' l0 l1 l2 l3 l4 ν aM w' (by simp at hf ⊢;omega) h1 h2
  .refine Goes.stop λw₁ r₁=>⟨hk.rely r₁,T,l0,l1,fuel,t',by simp at hf;omega,hs,rfl⟩
  .cases h
  .cases h
end
variable{C:Nat}{x y:Operand}{sa:Option bP}{u:ay}{w₁:υ}
section
variable {a:Act}{w:υ}{ops:Array Oper}{k:Nat}{rest:List Nat}{o:Oper}{kk:List kD}
theorem ajo(ho:ops[k]?=θ o)(hg:o.guard=η)(hop:o.op=.store 189 x y){ad}{sl sc}(hx:a.eval x=.pointer (θ ad))(hy:a.eval y=.slice sa sl sc)(hc:w.cell? ad=θ u)(hz:w.frozen? ad=ο):bh Tryz.prog ο (G (hY.at a (.inRegion ops (k::rest)::kk)) [bot]) w=.go (G (hY.at (a.put o.dst undef) (.inRegion ops rest::kk)) [bot]) (w.setCell ad (.slice sa sl sc)) #[⟨.cell ad,ν,ο⟩]:=by
 have hr:(aL a.eval o).run Tryz.prog w=.ok .skip (w.setCell ad (.slice sa sl sc)):=by unfold aL;simp only[hop,hx,hy];simp[go_sem,stored,hc,hz]
 have he:(aL a.eval o).events Tryz.prog w #[]=#[⟨.cell ad,ν,ο⟩]:=by unfold aL;simp only[hop,hx,hy];have hst:∀es,(store ad (.slice sa sl sc)).events Tryz.prog w es=Gj Tryz.prog w es ad (.slice sa sl sc) .plain:=λes=>events_store Tryz.prog w es ad (.slice sa sl sc) .plain rfl;simp[go_sem,hst,Gj,hc,hz]
 rw[Qe ho (by simp[cF,hg]) (by decide) hr];unfold listed;rw[he,Gl XS (by simp)]
theorem ajp(ho:ops[k]?=θ o)(hg:o.guard=η)(hop:o.op=.indexAddr 194 x y)(hx:a.eval x=.slice (θ ⟨C,0,η⟩) 1 1)(hy:a.eval y=.int .i64 0):bh Tryz.prog ο (G (hY.at a (.inRegion ops (k::rest)::kk)) [bot]) w=.go (G (hY.at (a.put o.dst (.pointer (θ ⟨C,0,η⟩))) (.inRegion ops rest::kk)) [bot]) w #[]:=by
 have hr:(aL a.eval o).run Tryz.prog w=.ok (.value (.pointer (θ ⟨C,0,η⟩))) w:=by unfold aL;simp only[hop,hx,hy];simp[go_sem]
 have he:(aL a.eval o).events Tryz.prog w #[]=#[]:=by unfold aL;simp only[hop,hx,hy];simp[go_sem]
 rw[tU ho (by simp[cF,hg]) (by decide) hr];unfold listed;rw[he,tV]
end
def zb(v:ay):Prop:=∃a l c,v=.slice a l c
section
variable {ag:Nat->Prop}{N:Nat}{news paths v:ay}{w:υ}
def GA(N:Nat)(news:ay)(o:Option Obj)(g:Goroutine)(w:υ):Prop:=
 g.status=.running/\w.heap[N+3]?=o/\Has N 0 news w/\∃g',bh Tryz.prog ο g w=.go g' w #[]/\∃m,Goes Tryz.prog ο (RW lk.tWg (N+5) N 1 (N+6) 0) (DWs (N+5) gB gB N 1 1) (AtR0 Tryz.prog lk.tWg (N+5) N 1 (N+6) 1 news) m g' w
theorem ajq{w:υ}{a}{v}(h:w₁.heap[a.block]?=w.heap[a.block]?):(w₁.setCell a v).heap[a.block]?=(w.setCell a v).heap[a.block]?:=by simp only[eV,q6,dF];rw[h]
theorem ajr(vQ:∀b,ag b->b<N\/b=N+5)(hv:zb v){wf:υ}(hu:wf.cell? ⟨N+3,0,η⟩=θ u)(hz:wf.frozen? ⟨N+3,0,η⟩=ο):∀(fuel t:Nat) (l0 l1 iI lp:Bool) (T:Array ay) (w:υ),fuel+l0.toNat+l1.toNat+iI.toNat+lp.toNat=4->jg N news paths w ->
  w.heap[N+3]?=(if lp then(wf.setCell ⟨N+3,0,η⟩ v).heap[N+3]? else wf.heap[N+3]?) ->
  vB N news paths (cJ l0 l1 ν ν ν ν ν iI lp) T->T[12]?=θ v->(iI=ν->T[13]?=θ (.pointer (θ ⟨N+3,0,η⟩))/\l0=ν/\l1=ν)->(lp=ν->iI=ν) ->
  Goes Tryz.prog ο (e5 N) (DJ ag N) (GA N news (wf.setCell ⟨N+3,0,η⟩ v).heap[N+3]?) (fuel+2) (G (hY.at ⟨T,ia N⟩ (.inRegion cM (iA .any cM fuel t (cJ l0 l1 ν ν ν ν ν iI lp) [])::[])) [bot]) w:=by
 intro fuel;induction fuel with
 |zero=>
  intro t l0 l1 iI lp T w hf hk eY hs h12 h7 h8;have zc:lp=true:=by cases l0<;>cases l1<;>cases iI<;>cases lp<;>simp at hf ⊢
  rw[zc,χ rfl]at eY;have e0:iA .any cM 0 t (cJ l0 l1 ν ν ν ν ν iI lp) []=[]:=rfl;rw[e0];refine Goes.step rfl λw₁ r₁=>?_;rw[mq,bq];refine⟨y9.KB,Goes.step rfl λw₂ r₂=>?_⟩;rw[stepG_end,bq];refine⟨y9.KB,Goes.stop λw₃ Qu=>?_⟩;have r:=e5.tr _ _ _ _ (e5.tr _ _ _ _ r₁ r₂) Qu;have Qv:=hk.rely r;refine⟨rfl,(r.1.same _ (by omega)).trans eY,Qv.cN,_,stepG_unwind_enter rfl Tryz.func142 (nm_done lk) rfl,23,?_⟩;have hA:=@doneN _ lk Tryz.prog Kz gB gB (N+5) N 1 (N+6) 1 news;simp only[body_done,doneFn,Ω]at hA;exact hA rfl (ajg T) w₃ ⟨Qv.live,Qv.cN⟩
 |succ fuel ih=>
  intro t l0 l1 iI lp T w hf hk eY hs h12 h7 h8;have ajs:lp=false:=by
   cases h:lp with
   |false=>rfl
   |true=>
    have kG:=h8 h;obtain⟨_,e0,e1⟩:=h7 kG;subst h kG e0 e1;simp at hf
  subst ajs;simp only[Bool.false_eq_true,fh]at eY;have hne:dZ .any cM (cJ l0 l1 ν ν ν ν ν iI ο)≠[]:=by intro h0;(have hno:∀k,k∉dZ .any cM (cJ l0 l1 ν ν ν ν ν iI ο):=by intro k;rw[h0];simp);have e0:=hno 0;have e1:=hno 1;have kG:=hno 7;have zc:=hno 8;rw[KE]at e0 e1 kG zc;simp at e0 e1 kG zc;subst e0 e1;simp at kG;subst kG;simp at zc
  obtain⟨k,t',hkr,hgo⟩:=XV fuel t _ hne;rw[hgo];have oH:∀(k:Nat) (ls':Array Bool),k<6->ls'=(cJ l0 l1 ν ν ν ν ν iI ο).setIfInBounds k ν->(∀aM w',jg N news paths w'->w'.heap[N+3]?=wf.heap[N+3]?->vB N news paths ls' aM->aM[12]?=θ v->aM[13]?=T[13]? ->
    Goes Tryz.prog ο (e5 N) (DJ ag N) (GA N news (wf.setCell ⟨N+3,0,η⟩ v).heap[N+3]?) (fuel+2) (G (hY.at ⟨aM,ia N⟩ (.inRegion cM (iA .any cM fuel t' ls' [])::[])) [bot]) w') ->
    Goes Tryz.prog ο (e5 N) (DJ ag N) (GA N news (wf.setCell ⟨N+3,0,η⟩ v).heap[N+3]?) (fuel+1+2) (G (hY.at ⟨T,ia N⟩ (.inRegion cM (k::iA .any cM fuel t' ls' [])::[])) [bot]) w:=by
   intro k ls' KF hls hnext;refine Goes.step rfl λw₁ r₁=>?_;have hk1:=hk.rely r₁;obtain⟨hst,hD⟩:=XW (ds:=ia N) vQ hk1 hs KF (iA .any cM fuel t' ls' []);rw[hst,bq];refine⟨hD.KB,hnext _ _ hk1 ((r₁.1.same _ (by omega)).trans eY) (hs.put (by omega) (λk' hk' hl=>?_) (by omega)) (by rw[lZ (by omega)];exact h12) (by rw[lZ (by omega)])⟩;by_cases e:k'=k
   .subst e;exact .inl ⟨rfl,rfl⟩
   .refine .inr ⟨by omega,?_⟩;rw[hls,getD_set_ne _ (jx e)]at hl;exact hl
  rw[KE]at hkr;rcases hkr with⟨rfl,rfl⟩|⟨rfl,rfl⟩|⟨_,h⟩|⟨_,h⟩|⟨_,h⟩|⟨_,h⟩|⟨_,h,_⟩|⟨rfl,rfl,rfl,rfl,_⟩|⟨rfl,_,rfl,rfl,_,_,_,_,_,rfl⟩
  ·(have kG:iI=false:=by cases h:iI with|false=>rfl|true=>have:=(h7 h).2.1;cases this);subst kG;exact oH 0 (cJ ν l1 ν ν ν ν ν ο ο) (by omega) rfl λaM w' h1 h1' h2 h3 _=>ih t' ν l1 ο ο aM w' (by simp at hf ⊢;omega) h1 (by simpa using h1') h2 h3 (by simp) (by simp)
  ·(have kG:iI=false:=by cases h:iI with|false=>rfl|true=>have:=(h7 h).2.2;cases this);subst kG;exact oH 1 (cJ l0 ν ν ν ν ν ν ο ο) (by omega) rfl λaM w' h1 h1' h2 h3 _=>ih t' l0 ν ο ο aM w' (by simp at hf ⊢;omega) h1 (by simpa using h1') h2 h3 (by simp) (by simp)
  .cases h
  .cases h
  .cases h
  .cases h
  .cases h
  .obtain⟨o,ho,hg,hop,hd,_⟩:=Qs;refine Goes.step rfl λw₁ r₁=>?_;have hk1:=hk.rely r₁;rw[ajp ho hg hop (xp (hs.got 0 (by omega) (by simp[cJ]))) (xp (hs.got 1 (by omega) (by simp[cJ]))),bq];refine⟨y9.KB,?_⟩;(have hT:(⟨T,ia N⟩:Act).put o.dst (.pointer (θ ⟨N+3,0,η⟩))=⟨T.setIfInBounds 13 (.pointer (θ ⟨N+3,0,η⟩)),ia N⟩:=by simp[dz,hd]);rw[hT];refine ih t' ν ν ν ο _ w₁ (by simp at hf ⊢;omega) hk1 (by simpa using(r₁.1.same _ (by omega)).trans eY) (hs.put (by omega) (λk' hk' hl=>.inr ⟨by omega,?_⟩) (by omega)) (by rw[lZ (by omega)];exact h12) (λ_=>⟨by rw[CU (by rw[hs.size];omega)],rfl,rfl⟩) (by simp);(have hc:k'=0\/k'=1\/k'=2\/k'=3\/k'=4\/k'=5:=by omega);rcases hc with rfl|rfl|rfl|rfl|rfl|rfl<;>simp[cJ]
  .obtain⟨o,ho,hg,hop,hd,_⟩:=Qt;obtain⟨sa,sl,sc,rfl⟩:=hv;refine Goes.step rfl λw₁ r₁=>?_;have hk1:=hk.rely r₁;have nO:=(r₁.1.same _ (by omega)).trans eY;(have hc:w₁.cell? ⟨N+3,0,η⟩=θ u:=by rw[<-hu];simp only[c7,nO]);(have hz1:w₁.frozen? ⟨N+3,0,η⟩=false:=by rw[<-hz];simp only[qY,nO]);rw[ajo ho hg hop (xp (h7 rfl).1) (xp h12) hc hz1,bq];have hA:=qh w₁ ⟨N+3,0,η⟩ (.slice sa sl sc);have hwg:(w₁.setCell ⟨N+3,0,η⟩ (.slice sa sl sc)).heap[N+5]?=w₁.heap[N+5]?:=hA.block _ (by simp);refine⟨⟨⟨⟨hA.os,hA.output,hA.tape⟩,by rw[hA.size];exact Nat.le_refl _,hwg⟩,hA.size,λb hb=>hA.block b hb,λe he=>?_⟩,?_⟩
   .rw[Gi]at he;subst he;refine⟨λx hx=>?_,by simp,by simp,by simp,λx hx=>?_⟩<;>simp only[vu,sI,Γ]at hx<;>subst hx
    .rintro⟨a1,e1,e2⟩;(cases e1);have:=vQ _ e2;simp only at this;omega
    .show N+3<_;rw[hA.size];exact Qr hc
   ·((have hT:(⟨T,ia N⟩:Act).put o.dst undef=⟨T,ia N⟩:=by simp[dz,hd]);rw[hT];have xj:dy lk.tWg (N+5) (w₁.setCell ⟨N+3,0,η⟩ (.slice sa sl sc)):=by obtain⟨st,sm,hl⟩:=hk1.live;exact⟨st,sm,hl.of_block hwg⟩);refine ih t' ν ν ν ν T _ (by simp at hf ⊢;omega) (hk1.of (λb _ _ _ h3=>hA.block b h3) xj) ?_ ⟨hs.size,hs.t0,hs.cap,λk' hk' _=>hs.got k' hk' ?_⟩ h12 (λ_=>⟨(h7 rfl).1,rfl,rfl⟩) (λ_=>rfl)
    .simp only[dF];exact ajq (a:=⟨N+3,0,η⟩) nO
    ·(have hc:k'=0\/k'=1\/k'=2\/k'=3\/k'=4\/k'=5:=by omega);rcases hc with rfl|rfl|rfl|rfl|rfl|rfl<;>simp[cJ]
end
end fV
end Go.Proofs.YtfphigmeppdocaaGreatDoor
namespace Go.Proofs.YtfphigmeppdocaaGreatDoor
namespace fV
open Go.Conc Go.ConcN Go.RowKit Go.Conc.Lib Go.ConcR.Gen Go.ConcN.Gen Lo
open Go.ConcR (KK wgBlock WgAt stA smA rd wr mk Payload DC0)
variable{ls:Array Bool}{u:Array eU}{T:Array ay}{e:eU}{g:Goroutine}{fs:List Frame}{E:List Frame→υ→Prop}{B:Nat}{s s' w w' w₁:υ}
def KG:Type:=List Frame×υ
def GB(S:Program)(y x:KG):Prop:=∃τ d,(aF S x.1).run S (tp x.2 τ d)=.ok y.1 y.2
theorem XX{S}(hE:nL S E)(h:jc S E fs s):Acc (GB S) (fs,s):=by
 induction h with
 |stop h=>exact Bj _ λy ⟨τ,d,hr⟩=>absurd ⟨_,_,hr⟩ (hE.stuck _ _ h τ d)
 |step _ _ ih=>exact Bj _ λy ⟨τ,d,hr⟩=>ih τ d y.1 y.2 hr
inductive bH where
 |pre (k:Nat) (x:KG)
 |pg (x:KG)
 |post (k:Nat)
def bH.lt(S:Program):bH→bH→Prop
 | .pre k' x',.pre k x=>k'<k∧x'=x
 | .pg x',.pre _ x=>x'=x
 | .pg y,.pg x=>GB S y x
 | .post _,.pg _=>True
 | .post k',.post k=>k'<k
 |_,_=>False
theorem XY S:∀k,Acc (bH.lt S) (.post k):=by
 intro k;induction k using Nat.strongRecOn with
 |_ k ih=>
  refine Bj _ λy hy=>?_;cases y with
  |pre k' x=>exact hy.elim
  |pg x=>exact hy.elim
  |post k'=>exact ih k' hy
theorem XZ{S}{x}(h:Acc (GB S) x):Acc (bH.lt S) (.pg x):=by
 induction h with
 |intro x _ ih=>
  refine Bj _ λy hy=>?_;cases y with
  |pre k' x=>exact hy.elim
  |pg y=>exact ih y hy
  |post k'=>exact XY S k'
theorem ajt{S}{x}(h:Acc (GB S) x):∀k,Acc (bH.lt S) (.pre k x):=by
 intro k;induction k using Nat.strongRecOn with
 |_ k ih=>
  refine Bj _ λy hy=>?_;cases y with
  |pre k' x' =>
   obtain⟨h1,rfl⟩:=hy;exact ih k' h1
  |pg y=>cases hy;exact XZ h
  |post k'=>exact hy.elim
abbrev KH(S:Program):List Frame→υ→Prop:=o6 S λv _=>zb v
def jh(ag:cV)(N:Nat):cV where
 v:=ag.v
 p b:=ag b∨b=N∨b=N+1∨b=N+2∨b=N+4∨b=N+5∨b=N+6
theorem X0{ag:Nat→Prop}{bL}{N}(hsub:∀b,ag b→jh bL N b)(h:C6 (jh bL N) B e):Dt ag (N+5) B e:=by
 rcases h with⟨m,rfl|⟨f,rfl⟩,rfl⟩|⟨a,wr,rfl,h1,h2⟩|⟨r,wr,sy,rfl,h1⟩
 .exact⟨(λx hx=>by cases hx),by simp,by simp,by simp,(λx hx=>by cases hx)⟩
 .exact⟨(λx hx=>by cases hx),by simp,by simp,by simp,(λx hx=>by cases hx)⟩
 .refine⟨λx hx=>?_,by simp,by simp,by simp,λx hx=>?_⟩<;>simp only[vu,sI,Γ]at hx<;>subst hx
  .rintro⟨a1,e1,e2⟩;(cases e1);exact h2 (hsub _ e2)
  .exact h1
 .refine⟨λx hx=>?_,by simp,by simp,by simp,λx hx=>?_⟩
  .cases wr<;>cases sy<;>first|(cases hx;done)|(have hx':=hx;cases hx';rintro⟨a1,e1,_⟩;cases e1)
  .cases wr<;>cases sy<;>first|(cases hx;done)|(have hx':=hx;cases hx';exact h1)
structure DK(S:Program)(ok:FuncId→Bool)(sp:FuncId)(ag:Nat→Prop)(bL:cV)(N:Nat)(news paths:ay)(s0:υ):Prop where
 F:iP S Tryz.prog ok sp
 hno:∀x cs s,jc S (KH S) (Frame.enter S sp x .normal::cs) s→False
 vQ:∀b,ag b→b<N∨b=N+5
 hsub:∀b,ag b→jh bL N b
 known:ok 143=ν
 nsp:143≠sp
 all:vn S [Frame.enter S 143 (za news paths) .normal]
 own:Own S
 bar:jc S (KH S) [Frame.enter S 143 (za news paths) .normal] s0
 cell:∀fr s' fn v,sA S [Frame.enter S 143 (za news paths) .normal] s0 [fr] s'→fr.mode=.returning→S.funcs[fr.fn]?=θ fn→(∀τ d,(results fn fr.tmps).run S (tp s' τ d)=.ok v (tp s' τ d))→∃u,s'.cell? ⟨N+3,0,η⟩=θ u∧s'.frozen? ⟨N+3,0,η⟩=ο
section
variable (S:Program) (ok:FuncId→Bool) (sp:FuncId) (ag:Nat→Prop) (bL:cV) (N:Nat) (news paths:ay) (s0:υ)
def Br:List Frame:=[Frame.enter S 143 (za news paths) .normal]
def Cont(c:Frame):Prop:=∀v w u,zb v→jg N news paths w→w.cell? ⟨N+3,0,η⟩=θ u→w.frozen? ⟨N+3,0,η⟩=ο→
 ∃k,Goes Tryz.prog ο (e5 N) (DJ ag N) (GA N news (w.setCell ⟨N+3,0,η⟩ v).heap[N+3]?) k (G (c.finish v) [bot]) w
structure GC(x:KG)(g:Goroutine)(w:υ):Prop where
 bar:jc S (KH S) x.1 x.2
 rc:sA S (Br S news paths) s0 x.1 x.2
 all:fO (jh bL N) S x.1 x.2
 fn:∀f∈x.1,ok f.fn=ν∧f.fn≠sp
 top:∃f cs c,x.1=f::cs∧g=G f (cs++[c,bot])∧Cont ag N news paths c
 wr:di (jh bL N) x.2 w
 kw:jg N news paths w
def Qw(v:ay)(s' wf:υ):Prop:=zb v∧(∃fr fn,sA S (Br S news paths) s0 [fr] s'∧fr.mode=.returning∧S.funcs[fr.fn]?=θ fn∧∀τ d,(results fn fr.tmps).run S (tp s' τ d)=.ok v (tp s' τ d))∧di (jh bL N) s' wf∧jg N news paths wf
def KI(_:ay)(w:υ):Prop:=∃v s' wf,Qw S bL N news paths s0 v s' wf∧(∀b,b≠N+3→b≠N+5→b≠N→w.heap[b]?=wf.heap[b]?)∧w.heap.size=wf.heap.size∧w.heap[N+3]?=(wf.setCell ⟨N+3,0,η⟩ v).heap[N+3]?∧DC N 1 w
def DL:bH→Goroutine→υ→Prop
 | .pre k x,g,w=>x=(Br S news paths,s0)∧di (jh bL N) s0 w∧jg N news paths w∧Goes Tryz.prog ο (e5 N) (tY ag N) (Gz N news paths) k g w
 | .pg x,g,w=>GC S ok sp ag bL N news paths s0 x g w
 | .post k,g,w=>∃v s' wf,Qw S bL N news paths s0 v s' wf∧(∀b,b≠N+3→b≠N+5→w.heap[b]?=wf.heap[b]?)∧w.heap.size=wf.heap.size∧DC N 1 w∧Goes Tryz.prog ο (e5 N) (DJ ag N) (GA N news (wf.setCell ⟨N+3,0,η⟩ v).heap[N+3]?) k g w
end
section
variable {S:Program}{ok:FuncId→Bool}{sp:FuncId}{ag:Nat→Prop}{bL:cV}{N:Nat}{news paths:ay}{s0:υ}
theorem X3(h:di (jh bL N) s w)(hw:∀b,b≠N+5→w₁.heap[b]?=w.heap[b]?)(hs:w₁.heap.size=w.heap.size)(hl:dy lk.tWg (N+5) w→dy lk.tWg (N+5) w₁)(hv:dy lk.tWg (N+5) w):di (jh bL N) s w₁:=by
 refine⟨h.size.trans hs.symm,λb hb=>?_,λb hb=>?_,λb o v hb=>?_⟩
 .rw[hw b (λe=>hb (.inr (by omega)))];exact h.same b hb
 .by_cases e:b=N+5
  ·(subst e;obtain⟨t,c,h1,h2⟩:=h.bad _ hb;obtain⟨st,sm,hv⟩:=hv;obtain⟨st',sm',hv'⟩:=hl ⟨st,sm,hv⟩;have e1:t=lk.tWg:=by have:=h2.symm.trans hv;simp only[wgBlock,Γ,Obj.cells.injEq]at this;exact this.2.1);subst e1;exact⟨_,_,h1,hv'⟩
  .rw[hw b e];exact h.bad b hb
 .rw[hw b (λe=>hb (.inr (by omega)))];exact h.old b o v hb
theorem aju(hs:q5 (N+5) w w₁)(hr:RW lk.tWg (N+5) N 1 (N+6) 0 w w₁):e5 N w w₁:=⟨hs,hr.live⟩
theorem ajv{rest}(hs:vB N news paths ls T)(h2:ls.getD 2 ο=ν)(h3:ls.getD 3 ο=ν)(h4:ls.getD 4 ο=ν)(h5:ls.getD 5 ο=ν)w:bh Tryz.prog ο (G (hY.at ⟨T,ia N⟩ (.inRegion cM (6::rest)::[])) [bot]) w=.go (G (Frame.enter Tryz.prog 143 (za news paths) .normal) [hY.at ⟨T,ia N⟩ (.inRegion cM (6::rest)::[]),bot]) w #[]:=by
 obtain⟨o,ho,hg,hop,hd,_⟩:=KD;have hx:(#[.tmp 8,.tmp 9,.tmp 10,.tmp 11]:Array Operand).map (⟨T,ia N⟩:Act).eval=za news paths:=by have zc:=xp (ds:=ia N) (hs.got 2 (by omega) h2);have vC:=xp (ds:=ia N) (hs.got 3 (by omega) h3);have X4:=xp (ds:=ia N) (hs.got 4 (by omega) h4);have X5:=xp (ds:=ia N) (hs.got 5 (by omega) h5);simp only[Nat.reduceAdd]at zc vC X4 X5;simp[zc,vC,X4,X5,za,Gy]
 have hb':Tryz.f143.body.isNone=false:=by kernel_rfl
 have hnm : (Tryz.f143.name == "runtime.NumGoroutine") = ο := by kernel_rfl
 rw[stepG_enter ho (by simp[cF,hg]) (by decide) (run_call_body hop Tryz.func143 hnm hb'),hx];have:listed Tryz.prog hY.fn ⟨T,ia N⟩ o w=#[]:=by unfold listed;rw[events_call_body hop Tryz.func143 hnm hb'];exact tV _ _
 rw[this]
theorem X6(g:u7 (jh bL N) s s' w w' u):Ds (N+5) w w':=⟨⟨g.kept.os,g.kept.out,g.kept.tape⟩,g.kept.size,g.bad _ (.inr (by omega))⟩
theorem X7(g:u7 (jh bL N) s s' w w' u)(h:jg N news paths w):jg N news paths w':=
 h.of (λb h1 h2 h3 h4=>g.bad b (.inr (by omega))) (by obtain⟨st,sm,hv⟩:=h.live;exact⟨st,sm,hv.of_block (g.bad _ (.inr (by omega)))⟩)
theorem GC.go(W:DK S ok sp ag bL N news paths s0){x}(h:GC S ok sp ag bL N news paths s0 x g w):∃g' w' es,bh Tryz.prog ο g w=.go g' w' es∧Ds (N+5) w w'∧(∀e∈es,Dt ag (N+5) w'.heap.size e)∧
   ((∃x',GB S x' x∧GC S ok sp ag bL N news paths s0 x' g' w')∨∃k,DL S ok sp ag bL N news paths s0 (.post k) g' w'):=by
 obtain⟨DM,hrc,hall,hfn,⟨f,cs,c,hx,rfl,hc⟩,hwr,hk⟩:=h;obtain⟨fs,s⟩:=x;simp only at DM hrc hall hfn hx hwr;subst hx;obtain⟨hok,hsp⟩:=hfn f List.mem_cons_self;obtain⟨fn,fn',e1,e2,e3,_⟩:=W.F.same _ hok;have e3:=e3 hsp;subst e3;have hpl:=hall.plain;have hall:=hall.tp w.tape w.drawn;have hA:∀s1,FL sp (tp s w.tape w.drawn) s1 w:=λs1 i q _ _=>rfl;have hw0:di (jh bL N) (tp s w.tape w.drawn) w:=⟨hwr.size,hwr.same,hwr.bad,hwr.old⟩;cases DM with
 |stop hE=>
  obtain⟨fr,he,hm,Pv,v,DN,hres,wZ⟩:=hE;cases he
  rw[e1]at DN;cases DN
  obtain⟨_,_,_,hw⟩:=((FY (av:=sp) (ag:=jh bL N) W.F.sm fn' f.tmps) (tp s w.tape w.drawn) hw0.sh).2 _ _ (hres w.tape w.drawn);obtain⟨v',w',u,r,rfl,g⟩:=hw w #[] hw0 (hA _);have hg:(aF Tryz.prog (f::[c])).runT Tryz.prog w #[]=(.ok (c.finish v::[]) w',#[]++u):=by unfold aF;simp only[hm,e2];show ((results fn' f.tmps).bind λv=>o4 (c.finish v::[])).runT Tryz.prog w #[]=_;rw[Sem.runT_bind',r];simp only[Sem.runT]
  obtain⟨f1,w8,he,hst⟩:=JK hpl hg ο [bot] ⟨_,e2⟩;cases he
  obtain⟨u1,hcell,hz⟩:=W.cell f s fn' v hrc hm e1 hres;have X8 :di (jh bL N) s w':=⟨g.wr.size,g.wr.same,g.wr.bad,g.wr.old⟩;obtain⟨_,hb,hc1⟩:=X8.cell hcell;have hz1:w'.frozen? ⟨N+3,0,η⟩=false:=by rw[←hz];unfold qY; rw[hb]
  have hk':=X7 g hk;obtain⟨k,hgo⟩:=hc v w' u1 wZ hk' hc1 hz1;refine⟨_,w',_,hst,X6 g,λe he=>?_,.inr ⟨k,v,s,w',⟨wZ,⟨f,fn',hrc,hm,e1,hres⟩,X8,hk'⟩,λ_ _ _=>rfl,rfl,hk'.pN,hgo⟩⟩;have:=Ko he;rw[Kf]at this;exact X0 W.hsub (g.ev e this)
 |step h1 h2=>
  obtain⟨aV,s1,hr⟩:=h1 w.tape w.drawn;have jW:=h2 _ _ _ _ hr;have DN:∀fr∈aV,ok fr.fn=ν∧fr.fn≠sp:=by
   have jX:=yV W.own hall hw0.sh hr;rcases PL hr with ht|⟨g,y,rfl⟩
   .intro fr hfr;obtain⟨f0,h0,e⟩:=ht fr hfr;rw[e];exact hfn f0 h0
   .obtain⟨GD,hg⟩:=jX.known;have hg':=hg;intro fr hfr;rcases List.mem_cons.1 hfr with rfl|hfr
    .refine⟨?_,?_⟩
     .cases A4:ok g with
      |true=>exact A4
      |false=>exact(ah8 hg' (W.F.dead g GD A4 hg') jW).elim
     .intro e;have e':=e;subst e';exact W.hno _ _ _ jW
    .exact hfn fr hfr
  obtain⟨_,_,hd⟩:=(JU W.F hall hw0.sh hok hsp).2 _ _ hr;rcases hd with⟨g,y,hg,rfl⟩|hw
  .have:=(DN _ List.mem_cons_self).1;have h':ok g=true:=this;rw[hg]at h';cases h'
  .obtain⟨l,w',u,r,hl,g⟩:=hw w #[] hw0 (hA _);have jX:=yV W.own hall hw0.sh hr;have hl':l=aV:=by
    rcases hl with hl|⟨y,rfl,_⟩
    .exact hl.1.symm
    .exact absurd rfl (DN _ List.mem_cons_self).2
   subst hl';obtain⟨f1,w8,rfl,hst⟩:=JK hpl r ο [c,bot] ⟨_,e2⟩;refine⟨_,w',_,hst,X6 g,λe he=>?_,.inl ⟨(f1::w8,s1),⟨w.tape,w.drawn,hr⟩,jW,.step hrc hr,jX,DN,⟨f1,w8,c,rfl,rfl,hc⟩,g.wr,X7 g hk⟩⟩;have:=Ko he;rw[Kf]at this;exact X0 W.hsub (g.ev e this)
end
end fV
end Go.Proofs.YtfphigmeppdocaaGreatDoor
namespace Go.Proofs.YtfphigmeppdocaaGreatDoor
namespace fV
open Go.Conc Go.ConcN Go.RowKit Go.Conc.Lib Go.ConcR.Gen Go.ConcN.Gen
open Go.ConcR (KK wgBlock WgAt stA smA rd wr mk Payload DC0)
variable{ad:bP}{m:Int}{n sc sl:Nat}{x y:Operand}{sa:Option bP}{u v:ay}
def bs:Frame:=base 131
theorem Qx:(Tryz.prog.funcs[bs.fn]?).any (·.norace)=false:=by kernel_rfl
section
variable {a:Act}{w:υ}{ops:Array Oper}{k:Nat}{rest:List Nat}{o:Oper}{kk:List kD}{cs:List Frame}
theorem ajw(ho:ops[k]?=θ o)(hg:o.guard=η)(hop:o.op=.box 189 x)(hx:a.eval x=.slice sa sl sc):bh Tryz.prog ν (G (bs.at a (.inRegion ops (k::rest)::kk)) cs) w=.go (G (bs.at (a.put o.dst (.pointer (θ ⟨w.heap.size,0,η⟩))) (.inRegion ops rest::kk)) cs) (w.alloc (.cells #[.slice sa sl sc] 189)) #[]:=by
 have hr:(aL a.eval o).run Tryz.prog w=.ok (.value (.pointer (θ ⟨w.heap.size,0,η⟩))) (w.alloc (.cells #[.slice sa sl sc] 189)):=by unfold aL;simp only[hop,hx];simp[go_sem]
 have he:(aL a.eval o).events Tryz.prog w #[]=#[]:=by unfold aL;simp only[hop,hx];simp[go_sem]
 rw[tU ho (by simp[cF,hg]) (by decide) hr];unfold listed;rw[he,tV]
theorem ajx(ho:ops[k]?=θ o)(hg:o.guard=η)(hop:o.op=.box 191 x)(hx:a.eval x=.slice sa sl sc):bh Tryz.prog ν (G (bs.at a (.inRegion ops (k::rest)::kk)) cs) w=.go (G (bs.at (a.put o.dst (.pointer (θ ⟨w.heap.size,0,η⟩))) (.inRegion ops rest::kk)) cs) (w.alloc (.cells #[.slice sa sl sc] 191)) #[]:=by
 have hr:(aL a.eval o).run Tryz.prog w=.ok (.value (.pointer (θ ⟨w.heap.size,0,η⟩))) (w.alloc (.cells #[.slice sa sl sc] 191)):=by unfold aL;simp only[hop,hx];simp[go_sem]
 have he:(aL a.eval o).events Tryz.prog w #[]=#[]:=by unfold aL;simp only[hop,hx];simp[go_sem]
 rw[tU ho (by simp[cF,hg]) (by decide) hr];unfold listed;rw[he,tV]
theorem ajy(ho:ops[k]?=θ o)(hg:o.guard=η)(hop:o.op=.box 3 x)(hx:a.eval x=.int .i64 m):bh Tryz.prog ν (G (bs.at a (.inRegion ops (k::rest)::kk)) cs) w=.go (G (bs.at (a.put o.dst (.pointer (θ ⟨w.heap.size,0,η⟩))) (.inRegion ops rest::kk)) cs) (w.alloc (.cells #[.int .i64 m] 3)) #[]:=by
 have hr:(aL a.eval o).run Tryz.prog w=.ok (.value (.pointer (θ ⟨w.heap.size,0,η⟩))) (w.alloc (.cells #[.int .i64 m] 3)):=by unfold aL;simp only[hop,hx];simp[go_sem]
 have he:(aL a.eval o).events Tryz.prog w #[]=#[]:=by unfold aL;simp only[hop,hx];simp[go_sem]
 rw[tU ho (by simp[cF,hg]) (by decide) hr];unfold listed;rw[he,tV]
theorem ajz(ho:ops[k]?=θ o)(hg:o.guard=η)(hop:o.op=.alloc 194):bh Tryz.prog ν (G (bs.at a (.inRegion ops (k::rest)::kk)) cs) w=.go (G (bs.at (a.put o.dst (.pointer (θ ⟨w.heap.size,0,η⟩))) (.inRegion ops rest::kk)) cs) (w.alloc (.cells #[.slice η 0 0] 194)) #[]:=by
 have hr:(aL a.eval o).run Tryz.prog w=.ok (.value (.pointer (θ ⟨w.heap.size,0,η⟩))) (w.alloc (.cells #[.slice η 0 0] 194)):=by unfold aL;simp only[hop];simp[go_sem]
 have he:(aL a.eval o).events Tryz.prog w #[]=#[]:=by unfold aL;simp only[hop];simp[go_sem]
 rw[tU ho (by simp[cF,hg]) (by decide) hr];unfold listed;rw[he,tV]
theorem ajA(ho:ops[k]?=θ o)(hg:o.guard=η)(hop:o.op=.alloc 3):bh Tryz.prog ν (G (bs.at a (.inRegion ops (k::rest)::kk)) cs) w=.go (G (bs.at (a.put o.dst (.pointer (θ ⟨w.heap.size,0,η⟩))) (.inRegion ops rest::kk)) cs) (w.alloc (.cells #[.int .i64 0] 3)) #[]:=by
 have hr:(aL a.eval o).run Tryz.prog w=.ok (.value (.pointer (θ ⟨w.heap.size,0,η⟩))) (w.alloc (.cells #[.int .i64 0] 3)):=by unfold aL;simp only[hop];simp[go_sem]
 have he:(aL a.eval o).events Tryz.prog w #[]=#[]:=by unfold aL;simp only[hop];simp[go_sem]
 rw[tU ho (by simp[cF,hg]) (by decide) hr];unfold listed;rw[he,tV]
theorem ajB(ho:ops[k]?=θ o)(hg:o.guard=η)(hop:o.op=.alloc 217):bh Tryz.prog ν (G (bs.at a (.inRegion ops (k::rest)::kk)) cs) w=.go (G (bs.at (a.put o.dst (.pointer (θ ⟨w.heap.size,0,η⟩))) (.inRegion ops rest::kk)) cs) (w.alloc (.cells #[.int .u64 0,.int .u32 0] 217)) #[]:=by
 have hr:(aL a.eval o).run Tryz.prog w=.ok (.value (.pointer (θ ⟨w.heap.size,0,η⟩))) (w.alloc (.cells #[.int .u64 0,.int .u32 0] 217)):=by unfold aL;simp only[hop];simp[go_sem]
 have he:(aL a.eval o).events Tryz.prog w #[]=#[]:=by unfold aL;simp only[hop];simp[go_sem]
 rw[tU ho (by simp[cF,hg]) (by decide) hr];unfold listed;rw[he,tV]
theorem ajC(ho:ops[k]?=θ o)(hg:o.guard=η)(hop:o.op=.makeSlice 194 x y)(hn:n<=64)(hx:a.eval x=.int .i64 n)(hy:a.eval y=.int .i64 n):bh Tryz.prog ν (G (bs.at a (.inRegion ops (k::rest)::kk)) cs) w=.go (G (bs.at (a.put o.dst (.slice (θ ⟨w.heap.size,0,η⟩) n n)) (.inRegion ops rest::kk)) cs) (w.alloc (.cells (fo #[.slice η 0 0] n) 189)) #[]:=by
 have eb:Tryz.t189.bytes=24:=by kernel_rfl
 have hm:=run_make (P:=Tryz.prog) w 194 189 Tryz.t189 (.slice η 0 0) Tryz.underlying194 Tryz.type189 (by kernel_rfl) .i64 .i64 (n:Int) (n:Int) (by omega) (by omega) (by rw[eb];omega) (by omega);have hme:=events_make (P:=Tryz.prog) w 194 189 Tryz.t189 (.slice η 0 0) Tryz.underlying194 Tryz.type189 (by kernel_rfl) .i64 .i64 (n:Int) (n:Int) (by omega) (by omega) (by rw[eb];omega) (by omega) (by rw[eb];omega) #[];have es:Tryz.t189.size=1:=by kernel_rfl
 rw[es]at hm;have hr:(aL a.eval o).run Tryz.prog w=.ok (.value (.slice (θ ⟨w.heap.size,0,η⟩) n n)) (w.alloc (.cells (fo #[.slice η 0 0] n) 189)):=by unfold aL;simp only[hop,hx,hy];simp[go_sem,hm,Value.cells]
 have he:(aL a.eval o).events Tryz.prog w #[]=#[]:=by unfold aL;simp only[hop,hx,hy];simp[go_sem,hme]
 rw[tU ho (by simp[cF,hg]) (by decide) hr];unfold listed;rw[he,tV]
theorem Qy{ty:Θ}(ho:ops[k]?=θ o)(hg:o.guard=η)(hop:o.op=.load ty x)(hty:∀w,(nI ty).run Tryz.prog w=.ok ο w)(hx:a.eval x=.pointer (θ ad))(hc:w.cell? ad=θ v):bh Tryz.prog ν (G (bs.at a (.inRegion ops (k::rest)::kk)) cs) w=.go (G (bs.at (a.put o.dst v) (.inRegion ops rest::kk)) cs) w #[⟨.cell ad,ο,ο⟩]:=by
 have hr:(aL a.eval o).run Tryz.prog w=.ok (.value v) w:=by unfold aL;simp only[hop,hx];simp[go_sem,hty,hc]
 have he:(aL a.eval o).events Tryz.prog w #[]=#[⟨.cell ad,ο,ο⟩]:=by unfold aL;simp only[hop,hx];simp[go_sem,hty,hc]
 rw[tU ho (by simp[cF,hg]) (by decide) hr];unfold listed;rw[he,Gl Qx (by simp)]
theorem ajD(ho:ops[k]?=θ o)(hg:o.guard=η)(hop:o.op=.store 194 x y)(hx:a.eval x=.pointer (θ ad))(hy:a.eval y=.slice sa sl sc)(hc:w.cell? ad=θ u)(hz:w.frozen? ad=ο):bh Tryz.prog ν (G (bs.at a (.inRegion ops (k::rest)::kk)) cs) w=.go (G (bs.at (a.put o.dst undef) (.inRegion ops rest::kk)) cs) (w.setCell ad (.slice sa sl sc)) #[⟨.cell ad,ν,ο⟩]:=by
 have hr:(aL a.eval o).run Tryz.prog w=.ok .skip (w.setCell ad (.slice sa sl sc)):=by unfold aL;simp only[hop,hx,hy];simp[go_sem,stored,hc,hz]
 have he:(aL a.eval o).events Tryz.prog w #[]=#[⟨.cell ad,ν,ο⟩]:=by unfold aL;simp only[hop,hx,hy];have hst:∀es,(store ad (.slice sa sl sc)).events Tryz.prog w es=Gj Tryz.prog w es ad (.slice sa sl sc) .plain:=λes=>events_store Tryz.prog w es ad (.slice sa sl sc) .plain rfl;simp[go_sem,hst,Gj,hc,hz]
 rw[Qe ho (by simp[cF,hg]) (by decide) hr];unfold listed;rw[he,Gl Qx (by simp)]
theorem ajE(ho:ops[k]?=θ o)(hg:o.guard=η)(hop:o.op=.store 3 x y)(hx:a.eval x=.pointer (θ ad))(hy:a.eval y=.int .i64 m)(hc:w.cell? ad=θ u)(hz:w.frozen? ad=ο):bh Tryz.prog ν (G (bs.at a (.inRegion ops (k::rest)::kk)) cs) w=.go (G (bs.at (a.put o.dst undef) (.inRegion ops rest::kk)) cs) (w.setCell ad (.int .i64 m)) #[⟨.cell ad,ν,ο⟩]:=by
 have hr:(aL a.eval o).run Tryz.prog w=.ok .skip (w.setCell ad (.int .i64 m)):=by unfold aL;simp only[hop,hx,hy];simp[go_sem,stored,hc,hz]
 have he:(aL a.eval o).events Tryz.prog w #[]=#[⟨.cell ad,ν,ο⟩]:=by unfold aL;simp only[hop,hx,hy];simp[go_sem,Gj,hc,hz]
 rw[Qe ho (by simp[cF,hg]) (by decide) hr];unfold listed;rw[he,Gl Qx (by simp)]
theorem vals(ho:ops[k]?=θ o)(hg:o.guard=η)(hr:(aL a.eval o).run Tryz.prog w=.ok (.value v) w)(he:(aL a.eval o).events Tryz.prog w #[]=#[]):bh Tryz.prog ν (G (bs.at a (.inRegion ops (k::rest)::kk)) cs) w=.go (G (bs.at (a.put o.dst v) (.inRegion ops rest::kk)) cs) w #[]:=by rw[tU ho (by simp[cF,hg]) (by decide) hr];unfold listed;rw[he,tV]
end
variable{d:Nat}{o:Obj}{X Y:υ}
theorem fB(w:υ)d d':(w.at d).at d'=w.at d':=rfl
theorem GF(w:υ)d:(w.at d).heap.size=w.heap.size:=rfl
theorem GG(w:υ)d o:(w.at d).alloc o=(w.alloc o).at d:=rfl
theorem ajF(w:υ)d a v:(w.at d).setCell a v=(w.setCell a v).at d:=rfl
theorem ze(w:υ)o:(w.alloc o).heap[w.heap.size]?=θ o:=by show (w.heap.push o)[w.heap.size]?=θ o;simp
theorem Bs(w:υ)o{b}(h:b<w.heap.size):(w.alloc o).heap[b]?=w.heap[b]?:=by show (w.heap.push o)[b]?=w.heap[b]?;rw[Qa h,qT h]
noncomputable def sJ:Code:=Tryz.f131.body.getD .skip
section
variable (w:υ) (n:Nat) (na pa:Option bP) (nl au pl pc:Nat)
def Bt:World:=w.alloc (.cells #[.slice na nl au] 189)
def Bu:World:=(Bt w na nl au).alloc (.cells #[.slice pa pl pc] 191)
def vD:World:=(Bu w na pa nl au pl pc).alloc (.cells #[.int .i64 n] 3)
def Bv:World:=(vD w n na pa nl au pl pc).alloc (.cells (fo #[.slice η 0 0] n) 189)
def sK:World:=(Bv w n na pa nl au pl pc).alloc (.cells #[.slice η 0 0] 194)
def q7:World:=(sK w n na pa nl au pl pc).setCell ⟨w.heap.size+4,0,η⟩ (.slice (θ ⟨w.heap.size+3,0,η⟩) n n)
def mA:World:=(q7 w n na pa nl au pl pc).alloc (.cells #[.int .u64 0,.int .u32 0] 217)
theorem Qz:(Bt w na nl au).heap.size=w.heap.size+1:=by simp[Bt]
theorem KJ:(Bu w na pa nl au pl pc).heap.size=w.heap.size+2:=by simp[Bu,Qz]
theorem KL:(vD w n na pa nl au pl pc).heap.size=w.heap.size+3:=by simp[vD,KJ]
theorem KM:(Bv w n na pa nl au pl pc).heap.size=w.heap.size+4:=by simp[Bv,KL]
theorem QA:(sK w n na pa nl au pl pc).heap.size=w.heap.size+5:=by simp[sK,KM]
theorem KN:(q7 w n na pa nl au pl pc).heap.size=w.heap.size+5:=by rw[q7,(qh _ _ _).size,QA]
theorem X9:(mA w n na pa nl au pl pc).heap.size=w.heap.size+6:=by simp[mA,KN]
end
noncomputable def GH:Array Oper:=match sJ with
 | .seq _ (.seq _ (.seq (.region _ ops _) _))=>ops
 |_=>#[]
noncomputable def sL:Code:=match sJ with
 | .seq _ (.seq _ (.seq _ c))=>c
 |_=>.skip
section
variable {ag:Nat->Prop}{w:υ}{n:Nat}{na pa:Option bP}{nl au pl pc:Nat}{cs:List Frame}
theorem GI:tT ag (X.at d) ((X.alloc o).at d) #[]:=⟨by show X.heap.size<=(X.alloc o).heap.size;simp,by simp⟩
theorem KO{ad}{wr}(hs:Y.heap.size=X.heap.size)(h1:¬ag ad.block)(h2:ad.block<X.heap.size):tT ag (X.at d) (Y.at d) #[⟨.cell ad,wr,ο⟩]:=by
 refine⟨by show X.heap.size<=Y.heap.size;omega,λe he=>?_⟩;rw[Gi]at he;subst he;refine⟨λx hx=>?_,by simp,by simp,λx hx=>?_⟩<;>simp only[vu,sI,Γ]at hx<;>subst hx
 .rintro⟨a1,e1,e2⟩;cases e1
  exact h1 e2
 .show ad.block<Y.heap.size;omega
def GJ(N n:Nat)(na pa:Option bP)(nl au pl pc:Nat):Array Value:=#[.slice na nl au,.slice pa pl pc,.int .i64 n,.pointer (θ ⟨N,0,η⟩),.pointer (θ ⟨N+1,0,η⟩),.pointer (θ ⟨N+2,0,η⟩),.slice η 0 0,.pointer (θ ⟨N+4,0,η⟩),undef,undef,.int .i64 n,.slice (θ ⟨N+3,0,η⟩) n n,undef,undef,undef,undef,undef,undef,undef,undef,undef]
theorem c3 w n na pa nl au pl pc:(vD w n na pa nl au pl pc).cell? ⟨w.heap.size+2,0,η⟩=θ (.int .i64 n):=by have:=KJ w na pa nl au pl pc;rw[vD,<- this];simp only[c7];rw[ze];rfl
theorem c5 w n na pa nl au pl pc:(sK w n na pa nl au pl pc).cell? ⟨w.heap.size+4,0,η⟩=θ (.slice η 0 0)/\(sK w n na pa nl au pl pc).frozen? ⟨w.heap.size+4,0,η⟩=false:=by have:=KM w n na pa nl au pl pc;rw[sK,<- this];simp only[c7,qY];rw[ze];exact⟨rfl,rfl⟩
theorem h7 w n na pa nl au pl pc:(mA w n na pa nl au pl pc).heap[w.heap.size]?=θ (.cells #[.slice na nl au] 189)/\(mA w n na pa nl au pl pc).heap[w.heap.size+1]?=θ (.cells #[.slice pa pl pc] 191) /\
  (mA w n na pa nl au pl pc).heap[w.heap.size+2]?=θ (.cells #[.int .i64 n] 3)/\(mA w n na pa nl au pl pc).heap[w.heap.size+3]?=θ (.cells (fo #[.slice η 0 0] n) 189) /\
  (mA w n na pa nl au pl pc).heap[w.heap.size+4]?=θ (.cells #[.slice (θ ⟨w.heap.size+3,0,η⟩) n n] 194)/\(mA w n na pa nl au pl pc).heap[w.heap.size+5]?=θ (.cells #[.int .u64 0,.int .u32 0] 217) /\
  ∀b,b<w.heap.size->(mA w n na pa nl au pl pc).heap[b]?=w.heap[b]?:=by
 have s1:=Qz w na nl au;have s2:=KJ w na pa nl au pl pc;have s3:=KL w n na pa nl au pl pc;have JQ:=KM w n na pa nl au pl pc;have Pw:=QA w n na pa nl au pl pc;have A3:=KN w n na pa nl au pl pc;have DO:∀b,b<w.heap.size+5->(mA w n na pa nl au pl pc).heap[b]?=(q7 w n na pa nl au pl pc).heap[b]?:=λb hb=>Bs _ _ (by omega);have GK:∀b,b≠w.heap.size+4->(q7 w n na pa nl au pl pc).heap[b]?=(sK w n na pa nl au pl pc).heap[b]?:=λb hb=>(qh _ _ _).block b hb;have xq:∀b,b<w.heap.size+4->(sK w n na pa nl au pl pc).heap[b]?=(Bv w n na pa nl au pl pc).heap[b]?:=λb hb=>Bs _ _ (by omega);have zf:∀b,b<w.heap.size+3->(Bv w n na pa nl au pl pc).heap[b]?=(vD w n na pa nl au pl pc).heap[b]?:=λb hb=>Bs _ _ (by omega);have o2:∀b,b<w.heap.size+2->(vD w n na pa nl au pl pc).heap[b]?=(Bu w na pa nl au pl pc).heap[b]?:=λb hb=>Bs _ _ (by omega);have o1:∀b,b<w.heap.size+1->(Bu w na pa nl au pl pc).heap[b]?=(Bt w na nl au).heap[b]?:=λb hb=>Bs _ _ (by omega);have o0:∀b,b<w.heap.size->(Bt w na nl au).heap[b]?=w.heap[b]?:=λb hb=>Bs _ _ hb;refine⟨?_,?_,?_,?_,?_,?_,λb hb=>?_⟩
 .rw[DO _ (by omega),GK _ (by omega),xq _ (by omega),zf _ (by omega),o2 _ (by omega),o1 _ (by omega)];exact ze _ _
 .rw[DO _ (by omega),GK _ (by omega),xq _ (by omega),zf _ (by omega),o2 _ (by omega),<- s1];exact ze _ _
 .rw[DO _ (by omega),GK _ (by omega),xq _ (by omega),zf _ (by omega),<- s2];exact ze _ _
 .rw[DO _ (by omega),GK _ (by omega),xq _ (by omega),<- s3];exact ze _ _
 .rw[DO _ (by omega)];have iK:(sK w n na pa nl au pl pc).heap[w.heap.size+4]?=θ (.cells #[.slice η 0 0] 194 (0,0)):=by rw[<-JQ];exact ze _ _
  rw[q7,Xx _ (w.heap.size+4) 0 _ _ (0,0) _ iK,setRow_heap _ (w.heap.size+4) _ _ _ _ iK];simp
 .rw[<-A3];exact ze _ _
 .rw[DO _ (by omega),GK _ (by omega),xq _ (by omega),zf _ (by omega),o2 _ (by omega),o1 _ (by omega),o0 _ hb]
theorem ajG w n na pa nl au pl pc:(mA w n na pa nl au pl pc).cell? ⟨w.heap.size+2,0,η⟩=θ (.int .i64 n):=by simp only[c7,(h7 w n na pa nl au pl pc).2.2.1];rfl
theorem ajH(vQ:∀b,ag b->b<w.heap.size)(hn:n<=64)d0:Goes Tryz.prog ν tW (tT ag) (λg w'=>∃d,w'=(q7 w n na pa nl au pl pc).at d/\g=G (bs.at ⟨GJ w.heap.size n na pa nl au pl pc,[]⟩ [.inRegion GH [0],.code sL]) cs) 20
  (G (bs.at ⟨#[.slice na nl au,.slice pa pl pc,.int .i64 n,undef,undef,undef,undef,undef,undef,undef,undef,undef,undef,undef,undef,undef,undef,undef,undef,undef,undef],[]⟩ [.code sJ]) cs) (w.at d0):=by
 have hno:∀b,w.heap.size<=b->¬ag b:=λb hb hs=>by have:=vQ b hs;omega
 simp only[sJ,Tryz.f131,Ω];(refine Goes.step rfl (λ_ hq=>?_);obtain⟨d,rfl⟩:=hq;simp only[fB];rw[k8];simp only[bq];refine⟨dO,?_⟩);(refine Goes.step rfl (λ_ hq=>?_);obtain⟨d,rfl⟩:=hq;simp only[fB];rw[oD];simp only[bq,List.size_toArray,List.length_cons,List.length_nil,Nat.zero_add];(try simp only[Nat.reduceAdd]);simp only[List.range,List.range.loop];refine⟨dO,?_⟩);(refine Goes.step rfl (λ_ hq=>?_);obtain⟨d,rfl⟩:=hq;simp only[fB];rw[ajw rfl rfl rfl rfl];simp only[bq,GF,GG];refine⟨GI,?_⟩;walk_nrm;rw[show w.alloc (.cells #[.slice na nl au] 189)=Bt w na nl au from rfl]);(refine Goes.step rfl (λ_ hq=>?_);obtain⟨d,rfl⟩:=hq;simp only[fB];rw[ajx rfl rfl rfl rfl];simp only[bq,GF,GG];refine⟨GI,?_⟩;walk_nrm;rw[Qz,show (Bt w na nl au).alloc (.cells #[.slice pa pl pc] 191)=Bu w na pa nl au pl pc from rfl]);(refine Goes.step rfl (λ_ hq=>?_);obtain⟨d,rfl⟩:=hq;simp only[fB];rw[ajy rfl rfl rfl rfl];simp only[bq,GF,GG];refine⟨GI,?_⟩;walk_nrm;rw[KJ,show (Bu w na pa nl au pl pc).alloc (.cells #[.int .i64 n] 3)=vD w n na pa nl au pl pc from rfl]);(refine Goes.step rfl (λ_ hq=>?_);obtain⟨d,rfl⟩:=hq;simp only[fB];rw[vals rfl rfl (v:=.slice η 0 0) (by unfold aL;simp[go_sem]) (by unfold aL;simp[go_sem])];simp only[bq];refine⟨dO,?_⟩;walk_nrm;skip);(refine Goes.step rfl (λ_ hq=>?_);obtain⟨d,rfl⟩:=hq;simp only[fB];rw[mq];simp only[bq];refine⟨dO,?_⟩);(refine Goes.step rfl (λ_ hq=>?_);obtain⟨d,rfl⟩:=hq;simp only[fB];rw[k8];simp only[bq];refine⟨dO,?_⟩);(refine Goes.step rfl (λ_ hq=>?_);obtain⟨d,rfl⟩:=hq;simp only[fB];rw[oD];simp only[bq,List.size_toArray,List.length_cons,List.length_nil,Nat.zero_add];(try simp only[Nat.reduceAdd]);simp only[List.range,List.range.loop];refine⟨dO,?_⟩);(refine Goes.step rfl (λ_ hq=>?_);obtain⟨d,rfl⟩:=hq;simp only[fB];rw[Qy (w:=(vD w n na pa nl au pl pc).at d) rfl rfl rfl Tryz.isAgg3 rfl (c3 w n na pa nl au pl pc)];simp only[bq];refine⟨KO rfl (hno _ (by simp)) (by rw[KL];simp),?_⟩;walk_nrm;skip);(refine Goes.step rfl (λ_ hq=>?_);obtain⟨d,rfl⟩:=hq;simp only[fB];rw[ajC rfl rfl rfl hn rfl rfl];simp only[bq,GF,GG];refine⟨GI,?_⟩;walk_nrm;rw[KL,show (vD w n na pa nl au pl pc).alloc (.cells (fo #[.slice η 0 0] n) 189)=Bv w n na pa nl au pl pc from rfl]);(refine Goes.step rfl (λ_ hq=>?_);obtain⟨d,rfl⟩:=hq;simp only[fB];rw[ajz rfl rfl rfl];simp only[bq,GF,GG];refine⟨GI,?_⟩;walk_nrm;rw[KM,show (Bv w n na pa nl au pl pc).alloc (.cells #[.slice η 0 0] 194)=sK w n na pa nl au pl pc from rfl]);(refine Goes.step rfl (λ_ hq=>?_);obtain⟨d,rfl⟩:=hq;simp only[fB];rw[ajD (w:=(sK w n na pa nl au pl pc).at d) rfl rfl rfl rfl rfl (c5 w n na pa nl au pl pc).1 (c5 w n na pa nl au pl pc).2];simp only[bq,ajF];refine⟨KO (qh _ _ _).size (hno _ (by simp)) (by rw[QA];simp),?_⟩;walk_nrm;rw[show (sK w n na pa nl au pl pc).setCell ⟨w.heap.size+4,0,η⟩ (.slice (θ ⟨w.heap.size+3,0,η⟩) n n)=q7 w n na pa nl au pl pc from rfl]);(refine Goes.step rfl (λ_ hq=>?_);obtain⟨d,rfl⟩:=hq;simp only[fB];rw[mq];simp only[bq];refine⟨dO,?_⟩);(refine Goes.step rfl (λ_ hq=>?_);obtain⟨d,rfl⟩:=hq;simp only[fB];rw[k8];simp only[bq];refine⟨dO,?_⟩);(refine Goes.step rfl (λ_ hq=>?_);obtain⟨d,rfl⟩:=hq;simp only[fB];rw[oD];simp only[bq,List.size_toArray,List.length_cons,List.length_nil,Nat.zero_add];(try simp only[Nat.reduceAdd]);simp only[List.range,List.range.loop];refine⟨dO,?_⟩);exact Goes.stop (λw₁ hq=>by obtain⟨d,rfl⟩:=hq;exact⟨d,rfl,rfl⟩)
end
noncomputable def GL:Code:=match sL with
 | .seq (.seq _ (.block _ (.loop c))) _=>c
 |_=>.skip
noncomputable def q8:Code:=match sL with
 | .seq _ c=>c
 |_=>.skip
def vE(N n:Nat)(j:Int)(na pa:Option bP)(nl au pl pc:Nat)(gD q9 gF gG gH gI:ay):Array Value:=#[.slice na nl au,.slice pa pl pc,.int .i64 n,.pointer (θ ⟨N,0,η⟩),.pointer (θ ⟨N+1,0,η⟩),.pointer (θ ⟨N+2,0,η⟩),.slice η 0 0,.pointer (θ ⟨N+4,0,η⟩),.pointer (θ ⟨N+5,0,η⟩),gD,.int .i64 n,.slice (θ ⟨N+3,0,η⟩) n n,.int .i64 n,.int .i64 j,q9,gF,gG,gH,gI,undef,undef]
section
variable {ag:Nat->Prop}{w:υ}{N n:Nat}{na pa:Option bP}{nl au pl pc:Nat}{cs:List Frame}
noncomputable def DQ (N n:Nat) (j:Int) (na pa:Option bP) (nl au pl pc:Nat) (cs:List Frame) (gD q9 gF gG gH gI:ay):Goroutine:=
 G (bs.at ⟨vE N n j na pa nl au pl pc gD q9 gF gG gH gI,[]⟩ [.code GL,.inLoop GL,.inBlock 0,.code q8]) cs
theorem ajI(vQ:∀b,ag b->b<w.heap.size\/b=w.heap.size+5)d0:Goes Tryz.prog ν tW (tT ag) (λg w'=>∃d,w'=(mA w n na pa nl au pl pc).at d/\g=DQ w.heap.size n 0 na pa nl au pl pc cs undef undef undef undef undef undef) 20
  (G (bs.at ⟨(GJ w.heap.size n na pa nl au pl pc).setIfInBounds 8 (.pointer (θ ⟨w.heap.size+5,0,η⟩)),[]⟩ [.inRegion GH [],.code sL]) cs) ((mA w n na pa nl au pl pc).at d0):=by
 have hno:¬ag (w.heap.size+2):=λhs=>by have:=vQ _ hs;omega
 have hc:=ajG w n na pa nl au pl pc;simp only[GJ,GH,sL,sJ,Tryz.f131,Ω];walk_nrm;(refine Goes.step rfl (λ_ hq=>?_);obtain⟨d,rfl⟩:=hq;simp only[fB];rw[mq];simp only[bq];refine⟨dO,?_⟩);(refine Goes.step rfl (λ_ hq=>?_);obtain⟨d,rfl⟩:=hq;simp only[fB];rw[k8];simp only[bq];refine⟨dO,?_⟩);(refine Goes.step rfl (λ_ hq=>?_);obtain⟨d,rfl⟩:=hq;simp only[fB];rw[k8];simp only[bq];refine⟨dO,?_⟩);(refine Goes.step rfl (λ_ hq=>?_);obtain⟨d,rfl⟩:=hq;simp only[fB];rw[oD];simp only[bq,List.size_toArray,List.length_cons,List.length_nil,Nat.zero_add];(try simp only[Nat.reduceAdd]);simp only[List.range,List.range.loop];refine⟨dO,?_⟩);(refine Goes.step rfl (λ_ hq=>?_);obtain⟨d,rfl⟩:=hq;simp only[fB];rw[Qy (w:=(mA w n na pa nl au pl pc).at d) rfl rfl rfl Tryz.isAgg3 rfl hc];simp only[bq];refine⟨KO rfl hno (by rw[X9];simp),?_⟩;walk_nrm);(refine Goes.step rfl (λ_ hq=>?_);obtain⟨d,rfl⟩:=hq;simp only[fB];rw[vals rfl rfl (v:=.int .i64 0) (by unfold aL;simp[go_sem]) (by unfold aL;simp[go_sem])];simp only[bq];refine⟨dO,?_⟩;walk_nrm);(refine Goes.step rfl (λ_ hq=>?_);obtain⟨d,rfl⟩:=hq;simp only[fB];rw[mq];simp only[bq];refine⟨dO,?_⟩);(refine Goes.step rfl (λ_ hq=>?_);obtain⟨d,rfl⟩:=hq;simp only[fB];rw[Km];simp only[bq];refine⟨dO,?_⟩);(refine Goes.step rfl (λ_ hq=>?_);obtain⟨d,rfl⟩:=hq;simp only[fB];rw[stepG_loop];simp only[bq];refine⟨dO,?_⟩);exact Goes.stop (λw₁ hq=>by obtain⟨d,rfl⟩:=hq;exact⟨d,rfl,rfl⟩)
end
noncomputable def KP (N n:Nat) (na pa:Option bP) (nl au pl pc:Nat) (cs:List Frame) (gD q9 gF gG gH gI:ay):Goroutine:=
 match q8 with
 | .seq (.region _ ops _) c=>G (bs.at ⟨(vE N n n na pa nl au pl pc gD q9 gF gG gH gI).setIfInBounds 19 (.tuple #[]),[]⟩ [.inRegion ops [],.code c]) cs
 |_=>default
noncomputable def recC (N n:Nat) (na pa:Option bP) (nl au pl pc:Nat) (gD q9 gF gG gH gI:ay):Frame:=
 match q8 with
 | .seq (.region _ ops _) c=>bs.at ⟨vE N n n na pa nl au pl pc gD q9 gF gG gH gI,[]⟩ [.inRegion ops [0],.code c]
 |_=>default
section
variable {ag:Nat->Prop}{N n:Nat}{na pa:Option bP}{nl au pl pc:Nat}{cs:List Frame}{gD q9 gF gG gH gI:ay}
theorem ajJ w(hF:dy lk.tWg (N+5) w):Goes Tryz.prog ν (R0 lk.tWg (N+5)) (D0 (N+5)) (AtKd Tryz.prog lk.tWg (N+5) (Gw lk (N+5) (recC N n na pa nl au pl pc gD (.bool ο) gF gG gH gI) cs)) 13 (DQ N n n na pa nl au pl pc cs gD q9 gF gG gH gI) w:=by
 simp only[DQ,recC,vE,GL,q8,sL,sJ,Tryz.f131,Ω];iterate 2 (refine Goes.step rfl (λ_ hq=>?_);replace hF:=hq hF;first|(rw[k8];simp only[bq];refine⟨cS,?_⟩)|(rw[oD];simp only[bq,List.size_toArray,List.length_cons,List.length_nil,Nat.zero_add];(try simp only[Nat.reduceAdd]);simp only[List.range,List.range.loop];refine⟨cS,?_⟩))
 (refine Goes.step rfl (λ_ hq=>?_);replace hF:=hq hF;rw[vals rfl rfl (v:=.bool ο) (by unfold aL;simp[go_sem,je]) (by unfold aL;simp[go_sem,je])];simp only[bq];refine⟨cS,?_⟩;walk_nrm);iterate 2 (refine Goes.step rfl (λ_ hq=>?_);replace hF:=hq hF;first|(rw[k8];simp only[bq];refine⟨cS,?_⟩)|(rw[mq];simp only[bq];refine⟨cS,?_⟩))
 (refine Goes.step rfl (λ_ hq=>?_);replace hF:=hq hF;rw[Dy (t:=ο) rfl];simp only[bq,Bool.false_eq_true,↓reduceIte];refine⟨cS,?_⟩);(refine Goes.step rfl (λ_ hq=>?_);replace hF:=hq hF;refine goes_exit rfl ?_;refine⟨cS,?_⟩);iterate 2 (refine Goes.step rfl (λ_ hq=>?_);replace hF:=hq hF;first|(rw[k8];simp only[bq];refine⟨cS,?_⟩)|(rw[oD];simp only[bq,List.size_toArray,List.length_cons,List.length_nil,Nat.zero_add];(try simp only[Nat.reduceAdd]);simp only[List.range,List.range.loop];refine⟨cS,?_⟩))
 have hW:=@ajc lk Tryz.prog (N+5);(refine Goes.step rfl (λ_ hq=>?_);replace hF:=hq hF;refine Dz rfl rfl (by k_ne) rfl Tryz.func144 (nm_wait lk) rfl ⟨cS,?_⟩);have h3:=hW (c:=recC N n na pa nl au pl pc gD (.bool ο) gF gG gH gI) (cs:=cs) Kz _ hF;simp only[recC,vE,q8,sL,sJ,Tryz.f131,Ω,Kw,waitFn]at h3;walk_nrmf Tryz.f144;exact h3
end
variable{ops:Array Oper}{cs:List Frame}{k:List kD}{N d:Nat}{ag:Nat→Prop}{w:υ}
theorem tZ{P}{main}{R:υ→υ→Prop}{D:υ→υ→Array eU→Prop}{Stop Ya:Goroutine→υ→Prop}(h:∀g w,Stop g w→Ya g w):∀{n:Nat}{g:Goroutine}{w:υ},Goes P main R D Stop n g w→Goes P main R D Ya n g w
 |0,_,_,hg=>λw₁ r=>h _ _ (hg w₁ r)
 |n+1,g,w,hg=>by
  rcases hg with hg|⟨hs,hg⟩
  .exact .inl λw₁ r=>h _ _ (hg w₁ r)
  .refine .inr ⟨hs,λw₁ r=>?_⟩;have:=hg w₁ r;revert this;(cases bh P main g w₁<;>simp only[GStep.goes,imp_self]);exact λ⟨d,x⟩=>⟨d,tZ h x⟩
section
variable {P:Program}{ty:Θ}{Wg:Nat}{A A':Goroutine→υ→Prop}{O O':Goroutine→Prop}
theorem AtAcq.imp(h:∀g,O g→O' g)g w(x:AtAcq P Wg O g w):AtAcq P Wg O' g w:=let ⟨a,g',b,c⟩:=x;⟨a,g',b,h g' c⟩
theorem AtKe.imp(h:∀g,O g→O' g)g w(x:AtKe P ty Wg O g w):AtKe P ty Wg O' g w:=let ⟨a,g',b,m,c⟩:=x;⟨a,g',b,m,tZ (AtAcq.imp h) c⟩
theorem AtW4.imp(h:∀g,O g→O' g)g w(x:AtW4 P ty Wg O g w):AtW4 P ty Wg O' g w:=⟨x.1,λhw=>let ⟨g',b,m,c⟩:=x.2 hw;⟨g',b,m,tZ (AtKe.imp h) c⟩⟩
theorem AtW3.imp(h:∀g,O g→O' g)g w(x:AtW3 P ty Wg O g w):AtW3 P ty Wg O' g w:=⟨x.1,x.2.1,x.2.2.1,λhw=>let ⟨g',b,m,c⟩:=x.2.2.2 hw;⟨g',b,m,tZ (AtW4.imp h) c⟩⟩
theorem AtW2.imp(hA:∀g w,A g w→A' g w)(h:∀g,O g→O' g){vs}g w(x:AtW2 P ty Wg A O vs g w):AtW2 P ty Wg A' O' vs g w:=
 ⟨x.1,λv hv hw=>⟨λe=>let ⟨g',b,m,c⟩:=(x.2 v hv hw).1 e;⟨g',b,m,tZ (AtW3.imp h) c⟩,λe=>let ⟨g',b,m,c⟩:=(x.2 v hv hw).2 e;⟨g',b,m,tZ hA c⟩⟩⟩
theorem AtW1.imp(hA:∀g w,A g w→A' g w)(h:∀g,O g→O' g)g w(x:AtW1 P ty Wg A O g w):AtW1 P ty Wg A' O' g w:=
 ⟨x.1,λv hv hw=>let ⟨g',b,c,d⟩:=x.2 v hv hw;⟨g',b,λe=>let ⟨m,z⟩:=c e;⟨m,tZ (AtKe.imp h) z⟩,λe=>let ⟨m,z⟩:=d e;⟨m,tZ (AtW2.imp hA h) z⟩⟩⟩
theorem AtKd.imp(hA:∀g w,A g w→A' g w)g w(x:AtKd P ty Wg A g w):AtKd P ty Wg A' g w:=let ⟨a,g',b,m,c⟩:=x;⟨a,g',b,m,tZ hA c⟩
end
theorem ajK:Tryz.prog.follows .mixedOrders=true:=by kernel_rfl
theorem ajL{b:Frame}{a}{id}:∃t,bh Tryz.prog ο (G (b.at a (.code (.region id ops ν)::k)) cs) w=.go (G (b.at a (.inRegion ops (iA .any ops ops.size t (Δ ops.size ο) [])::k)) cs) (w.at (w.drawn+1)) #[]:=by
 refine⟨w.tape w.drawn (.order b.fn id),?_⟩;have ajM:∀t,kY (Tryz.prog.follows .mixedOrders) ops t=iA .any ops ops.size t (Δ ops.size ο) []:=λt=>by simp only[kY,ajK,Bool.true_or,dF];rfl
 simp[G,bh,stepG.exec,Frame.at,choose,Sem.run,yK,AO,ajM,World.at]
theorem ajN:tY ag N w (w.at d) #[]:=⟨⟨d,rfl⟩,by simp⟩
theorem ajO{news paths:ay}(vQ:∀b,ag b→b<N∨b=N+5)w(hk:jg N news paths w):Goes Tryz.prog ο (e5 N) (tY ag N) (Gz N news paths) 15 (born Tryz.prog (y8 N)) w:=by
 refine Goes.step rfl λw₁ r₁=>?_;replace hk:=hk.rely r₁;rw[ajf,bq];refine⟨y9,?_⟩
 have e1 : Gx = .seq (.region 0 #[{ dst := η, op := .defer { callee := .value (.func 142), args := #[.tmp 0], argTypes := #[217] }, type := 0, pos := (match Gx with | .seq (.region _ ops _) _ => (ops[0]?.map (·.pos)).getD "" | _ => ""), after := #[], guard := η }] ο) (.region 1 cM ν) := rfl
 rw[e1];refine Goes.step rfl λw₂ r₂=>?_;replace hk:=hk.rely r₂;rw[k8,bq];refine⟨y9,Goes.step rfl λw₃ Qu=>?_⟩;replace hk:=hk.rely Qu;rw[oD];simp only[bq,List.size_toArray,List.length_cons,List.length_nil,Nat.zero_add,List.range,List.range.loop];refine⟨y9,Goes.step rfl λQB ajP=>?_⟩;replace hk:=hk.rely ajP;rw[stepG_defer rfl rfl (by decide) rfl];simp only[bq];refine⟨y9,?_⟩;walk_nrm;refine Goes.step rfl λaxE ajQ=>?_;replace hk:=hk.rely ajQ;rw[mq,bq];refine⟨y9,Goes.step rfl λBw ajR=>?_⟩;replace hk:=hk.rely ajR;obtain⟨t,ht⟩:=ajL (b:=hY) (a:=(⟨#[.pointer (θ ⟨N+5,0,η⟩),.pointer (θ ⟨N,0,η⟩),.pointer (θ ⟨N+1,0,η⟩),.pointer (θ ⟨N+6,0,η⟩),.pointer (θ ⟨N+2,0,η⟩),.pointer (θ ⟨N+4,0,η⟩),undef,undef,undef,undef,undef,undef,undef,undef],ia N⟩:Act)) (k:=[]) (cs:=[bot]) (w:=Bw) (id:=1) (ops:=cM);have hst:∀K:Goroutine→υ→Array eU→Prop,K (G (hY.at (⟨#[.pointer (θ ⟨N+5,0,η⟩),.pointer (θ ⟨N,0,η⟩),.pointer (θ ⟨N+1,0,η⟩),.pointer (θ ⟨N+6,0,η⟩),.pointer (θ ⟨N+2,0,η⟩),.pointer (θ ⟨N+4,0,η⟩),undef,undef,undef,undef,undef,undef,undef,undef],ia N⟩:Act) (.inRegion cM (iA .any cM cM.size t (Δ cM.size ο) [])::[])) [bot]) (Bw.at (Bw.drawn+1)) #[]→
   (bh Tryz.prog ο (G (hY.at (⟨#[.pointer (θ ⟨N+5,0,η⟩),.pointer (θ ⟨N,0,η⟩),.pointer (θ ⟨N+1,0,η⟩),.pointer (θ ⟨N+6,0,η⟩),.pointer (θ ⟨N+2,0,η⟩),.pointer (θ ⟨N+4,0,η⟩),undef,undef,undef,undef,undef,undef,undef,undef],ia N⟩:Act) [.code (.region 1 cM ν)]) [bot]) Bw).goes K:=λK hK=>by
  rw[ht,bq];exact hK
 change (bh Tryz.prog ο (G (hY.at (⟨#[.pointer (θ ⟨N+5,0,η⟩),.pointer (θ ⟨N,0,η⟩),.pointer (θ ⟨N+1,0,η⟩),.pointer (θ ⟨N+6,0,η⟩),.pointer (θ ⟨N+2,0,η⟩),.pointer (θ ⟨N+4,0,η⟩),undef,undef,undef,undef,undef,undef,undef,undef],ia N⟩:Act) [.code (.region 1 cM ν)]) [bot]) Bw).goes _;apply hst;refine⟨ajN,?_⟩;have ajS:jg N news paths (Bw.at (Bw.drawn+1)):=⟨hk.cN,hk.cP,hk.cW,hk.cB,hk.cI,hk.live,hk.pN⟩;refine ajn vQ 9 t ο ο ο ο ο ο _ _ rfl ajS ⟨rfl,rfl,λk hk=>?_,λk hk hl=>?_⟩
 .have hc:k=0∨k=1∨k=2∨k=3∨k=4∨k=5:=by omega
  rcases hc with rfl|rfl|rfl|rfl|rfl|rfl<;>rfl
 .have hc:k=0∨k=1∨k=2∨k=3∨k=4∨k=5:=by omega
  rcases hc with rfl|rfl|rfl|rfl|rfl|rfl<;>simp[cJ]at hl
end fV
end Go.Proofs.YtfphigmeppdocaaGreatDoor
namespace Go.Proofs.YtfphigmeppdocaaGreatDoor
namespace fV
open Go.Conc Go.ConcN Go.RowKit Go.Conc.Lib Go.ConcR.Gen Go.ConcN.Gen Lo
open Go.ConcR (KK wgBlock WgAt stA smA rd wr mk Payload DC0)
section
variable {S:Program}{ok:FuncId->Bool}{sp:FuncId}{ag:Nat->Prop}{bL:cV}{N:Nat}{news paths:ay}{s0:υ}
theorem Yb{w w₁}(h:w₁.heap[N]?=w.heap[N]?)(hp:DC N 1 w):DC N 1 w₁:=let ⟨cs,h1,h2⟩:=hp;⟨cs,h.trans h1,h2⟩
theorem DL.go(W:DK S ok sp ag bL N news paths s0){x}{g}{w}(h:DL S ok sp ag bL N news paths s0 x g w):∃g' w' es,bh Tryz.prog ο g w=.go g' w' es/\Ds (N+5) w w'/\(∀e∈es,Dt ag (N+5) w'.heap.size e)/\((∃x',bH.lt S x' x/\DL S ok sp ag bL N news paths s0 x' g' w') \/
   ∃v m,KI S bL N news paths s0 v w'/\Goes Tryz.prog ο (RW lk.tWg (N+5) N 1 (N+6) 0) (DWs (N+5) gB gB N 1 1) (AtR0 Tryz.prog lk.tWg (N+5) N 1 (N+6) 1 v) m g' w'):=by
 cases x with
 |pre k x=>
  obtain⟨rfl,h2,h3,hg⟩:=h;rcases Goes.cases hg with hstop|⟨k',rfl,hstep⟩
  .obtain⟨hk,T,l0,l1,fuel,t,hfu,hs,rfl⟩:=hstop w (e5.refl _ w);have hst:=ajv (rest:=iA .any cM fuel t (cJ l0 l1 ν ν ν ν ν ο ο) []) hs (by simp[cJ]) (by simp[cJ]) (by simp[cJ]) (by simp[cJ]) w;rw[PC W.F W.known W.nsp]at hst;refine⟨_,w,#[],hst,KA _ w w.drawn,by simp,.inl ⟨.pg (Br S news paths,s0),rfl,W.bar,.refl,W.all.at _,λf hf=>?_,⟨_,[],_,rfl,rfl,λv w' u hv hk' hc hz=>?_⟩,h2,h3⟩⟩
   ·(obtain rfl:f=Frame.enter S 143 (za news paths) .normal:=by simpa[Br]using hf);exact⟨W.known,W.nsp⟩
   .obtain⟨o,ho,_,_,hd,_⟩:=KD;refine⟨fuel+2,?_⟩;rw[Frame.finish_at,ho];(have hT:(⟨T,ia N⟩:Act).put ((θ o).bind (·.dst)) v=⟨T.setIfInBounds 12 v,ia N⟩:=by simp[dz,hd]);rw[hT];refine ajr W.vQ hv hc hz fuel t l0 l1 ο ο _ w' (by simp;omega) hk' (by simp) (hs.put (by omega) (λk' KF hl=>.inr ⟨by omega,?_⟩) (by omega)) (by rw[CU (by rw[hs.size];omega)]) (by simp) (by simp);(have hc:k'=0\/k'=1\/k'=2\/k'=3\/k'=4\/k'=5:=by omega);rcases hc with rfl|rfl|rfl|rfl|rfl|rfl
    .simpa[cJ]using hl
    .simpa[cJ]using hl
    .simp[cJ]
    .simp[cJ]
    .simp[cJ]
    .simp[cJ]
  .obtain⟨g',w',es,hgo,⟨⟨d,rfl⟩,hev⟩,hg'⟩:=hstep w (e5.refl _ w);exact⟨g',_,es,hgo,KA _ w d,hev,.inl ⟨.pre k' (Br S news paths,s0),⟨by omega,rfl⟩,rfl,⟨h2.size,h2.same,h2.bad,h2.old⟩,h3.of (λ_ _ _ _ _=>rfl) h3.live,hg'⟩⟩
 |pg x=>
  obtain⟨g',w',es,hgo,hE,hev,hn⟩:=GC.go W h;rcases hn with⟨x',hlt,h'⟩|⟨k,h'⟩
  .exact⟨g',w',es,hgo,hE,hev,.inl ⟨.pg x',hlt,h'⟩⟩
  .exact⟨g',w',es,hgo,hE,hev,.inl ⟨.post k,trivial,h'⟩⟩
 |post k=>
  obtain⟨v,s',wf,h1,h2,h3,h4,hg⟩:=h;rcases Goes.cases hg with hstop|⟨k',rfl,hstep⟩
  .obtain⟨_,eY,_,g',hgo,m,hm⟩:=hstop w (e5.refl _ w);exact⟨g',w,#[],hgo,KA _ w w.drawn,by simp,.inr ⟨news,m,⟨v,s',wf,h1,λb a c _=>h2 b a c,h3,eY,h4⟩,hm⟩⟩
  .obtain⟨g',w',es,hgo,⟨hE,hsz,hb,hev⟩,hg'⟩:=hstep w (e5.refl _ w);exact⟨g',w',es,hgo,hE,hev,.inl ⟨.post k',by show k'<k'+1;omega,v,s',wf,h1,λb a c=>(hb b a).trans (h2 b a c),hsz.trans h3,Yb (hb N (by omega)) h4,hg'⟩⟩
noncomputable def Yc (W:DK S ok sp ag bL N news paths s0):sC Tryz.prog ag lk.tWg (N+5) N (N+6) where
 X:=bH
 lt:=bH.lt S
 vr:=DL S ok sp ag bL N news paths s0
 Fin:=KI S bL N news paths s0
 acc:=by
  intro x g w h;cases x with
  |pre k x=>
   obtain⟨rfl,_⟩:=h;exact ajt (XX (sx S _) W.bar) k
  |pg x=>exact XZ (XX (sx S _) h.bar)
  |post k=>exact XY S k
 run:=by
  intro x g w h;cases x with
  |pre k x=>exact Goes.running (λg w h=>by obtain⟨_,T,l0,l1,fuel,t,_,_,rfl⟩:=h;rfl) w (e5.refl _ w) h.2.2.2
  |pg x=>
   obtain⟨f,cs,c,_,rfl,_⟩:=h.top;rfl
  |post k=>
   obtain⟨v,s',wf,_,_,_,_,hg⟩:=h;exact Goes.running (λg w h=>h.1) w (e5.refl _ w) hg
 stay:=by
  intro x g w w₁ h hs hr;have KQ:=aju hs hr;cases x with
  |pre k x=>
   obtain⟨h1,h2,h3,hg⟩:=h;exact⟨h1,X3 h2 hs.same hs.size hr.live h3.live,h3.rely KQ,Goes.rely (e5.tr _) hg KQ⟩
  |pg x=>exact⟨h.bar,h.rc,h.all,h.fn,h.top,X3 h.wr hs.same hs.size hr.live h.kw.live,h.kw.rely KQ⟩
  |post k=>
   obtain⟨v,s',wf,h1,h2,h3,h4,hg⟩:=h;exact⟨v,s',wf,h1,λb a c=>(hs.same b c).trans (h2 b a c),hs.size.trans h3,Yb (hs.same N (by omega)) h4,Goes.rely (e5.tr _) hg KQ⟩
 Gc:=λ⟨v,s',wf,h1,h2,h3,h4,h5⟩ hs=>⟨v,s',wf,h1,λb a c d=>(hs.same b c d).trans (h2 b a c d),hs.size.trans h3,(hs.same _ (by omega) (by omega)).trans h4,hs.pay h5⟩
 go:=λh _=>DL.go W h
end
variable{ops:Array Oper}{kk:List kD}{j nb:Nat}{o:Oper}{w:υ}
theorem ajT P fn x y w:(DD fn x y).run P w=.ok (.func fn x y) w:=rfl
theorem ajU P fn x y w es:(DD fn x y).events P w es=es:=rfl
abbrev KR:Obj:=.cells #[.int .i64 0] 3
abbrev oj(j:Nat):Obj:=.cells #[.int .i64 j] 3
abbrev vj(j:Nat):Value:=.int .i64 j
section
variable (N n:Nat) (na pa:Option bP) (nl au pl pc:Nat) (cs:List Frame)
def KS(g:Goroutine)(w:υ):Prop:=∃gD gF gG gH gI,Gw lk (N+5) (recC N n na pa nl au pl pc gD (.bool ο) gF gG gH gI) cs g w
def ajV(ag:Nat->Prop)(g:Goroutine):Prop:=∃gD gF gG gH gI,XR lk Tryz.prog ag (N+5) (KP N n na pa nl au pl pc cs gD (.bool ο) gF gG gH gI) g
theorem ajW g w(h:KS N n na pa nl au pl pc cs g w):g.status=.running:=by obtain⟨_,_,_,_,_,T,rfl,_⟩:=h;rfl
theorem ajX{ag}g w(h:KS N n na pa nl au pl pc cs g w):∃m,Goes Tryz.prog ν (R0 lk.tWg (N+5)) (D0 (N+5)) (AtW1 Tryz.prog lk.tWg (N+5) (KS N n na pa nl au pl pc cs) (ajV N n na pa nl au pl pc cs ag)) m g w:=by obtain⟨gD,gF,gG,gH,gI,h⟩:=h;have e:recC N n na pa nl au pl pc gD (.bool ο) gF gG gH gI=bs.at ⟨vE N n n na pa nl au pl pc gD (.bool ο) gF gG gH gI,[]⟩ (.inRegion (match q8 with | .seq (.region _ ops _) _=>ops|_=>#[]) (0::[])::[.code (match q8 with | .seq _ c=>c|_=>.skip)]):=rfl;rw[e]at h;obtain⟨m,hm⟩:=ajd (ag:=ag) Kz g w h;refine⟨m,tZ (AtW1.imp (λg w h=>⟨gD,gF,gG,gH,gI,by rw[e];exact h⟩) (λg h=>⟨gD,gF,gG,gH,gI,?_⟩)) hm⟩;have e2:KP N n na pa nl au pl pc cs gD (.bool ο) gF gG gH gI=G (bs.at ((⟨vE N n n na pa nl au pl pc gD (.bool ο) gF gG gH gI,[]⟩:Act).put (((match q8 with | .seq (.region _ ops _) _=>ops|_=>#[])[0]?).bind (·.dst)) (.tuple #[])) (.inRegion (match q8 with | .seq (.region _ ops _) _=>ops|_=>#[]) []::[.code (match q8 with | .seq _ c=>c|_=>.skip)])) cs:=rfl;rw[e2];exact h
end
section
variable {S:Program}{ok:FuncId->Bool}{sp:FuncId}{ag:Nat->Prop}{bL:cV}{N:Nat}{na pa:Option bP}{nl au pl pc:Nat}{s0:υ}{cs:List Frame}{w0:υ}
theorem ajY{a}{cs}{N}(ha:a.eval (.tmp 17)=.func (.func 141) #[] #[.pointer (θ ⟨N+5,0,η⟩),.pointer (θ ⟨N,0,η⟩),.pointer (θ ⟨N+1,0,η⟩),.pointer (θ ⟨N+6,0,η⟩),.pointer (θ ⟨N+2,0,η⟩),.pointer (θ ⟨N+4,0,η⟩)])(ho:ops[1]?=θ o)(hg:o.guard=η)(hd:o.dst=η)(hop:o.op=.go {callee:=.value (.tmp 17),args:=#[],argTypes:=#[] }):bh Tryz.prog ν (G (bs.at a (.inRegion ops (1::[])::kk)) cs) w=.spawn (G (bs.at a (.inRegion ops []::kk)) cs) (born Tryz.prog (y8 N)) w #[]:=by
 have hr:(aL a.eval o).run Tryz.prog w=.ok (.spawn (y8 N)) w:=by unfold aL;simp[hop,resolve,Deferred.ofValue,ha,y8]
 have he:(aL a.eval o).events Tryz.prog w #[]=#[]:=by unfold aL;simp[hop,resolve,Deferred.ofValue,ha]
 rw[stepG_spawn (d:=y8 N) (f:=.func 141) (c:=#[.pointer (θ ⟨N+5,0,η⟩),.pointer (θ ⟨N,0,η⟩),.pointer (θ ⟨N+1,0,η⟩),.pointer (θ ⟨N+6,0,η⟩),.pointer (θ ⟨N+2,0,η⟩),.pointer (θ ⟨N+4,0,η⟩)]) ho (by simp[cF,hg]) (by decide) hr rfl];unfold listed;rw[he,tV];simp[dz,hd]
theorem Yd(h:w.heap[nb]?=θ KR):w.cell? ⟨nb,0,η⟩=θ (.int .i64 0)/\w.frozen? ⟨nb,0,η⟩=false:=by simp only[c7,qY];rw[h];exact⟨rfl,rfl⟩
theorem ajZ(h:w.heap[nb]?=θ KR):(w.setCell ⟨nb,0,η⟩ (vj j)).heap[nb]?=θ (oj j):=by rw[Xx w nb 0 _ _ (0,0) _ h,setRow_heap w nb _ _ _ _ h];simp
structure Base(N:Nat)(na pa:Option bP)(nl au pl pc:Nat)(w0:υ):Prop where
 b0:w0.heap[N]?=θ (.cells #[.slice na nl au] 189)
 b1:w0.heap[N+1]?=θ (.cells #[.slice pa pl pc] 191)
 b2:w0.heap[N+2]?=θ (.cells #[.int .i64 1] 3)
 b4:w0.heap[N+4]?=θ (.cells #[.slice (θ ⟨N+3,0,η⟩) 1 1] 194)
theorem Ye(B:Base N na pa nl au pl pc w0)(h1:w.heap[N+6]?=θ (oj 0))(h2:∀b,b<N+6->b≠N+5->w.heap[b]?=w0.heap[b]?)(h4:dy lk.tWg (N+5) w):jg N (.slice na nl au) (.slice pa pl pc) w:=by
 have hc:∀b c t,w.heap[b]?=θ (.cells c t)->w.cell? ⟨b,0,η⟩=c[0]?:=λb c t h=>by simp only[c7];rw[h];rfl
 have hN:=(h2 N (by omega) (by omega)).trans B.b0;exact⟨by rw[hc N _ _ hN];rfl,by rw[hc _ _ _ ((h2 (N+1) (by omega) (by omega)).trans B.b1)];rfl,by rw[hc _ _ _ ((h2 (N+2) (by omega) (by omega)).trans B.b2)];rfl,by rw[hc _ _ _ ((h2 (N+4) (by omega) (by omega)).trans B.b4)];rfl,by rw[hc _ _ _ h1];rfl,h4,⟨_,hN,rfl⟩⟩
theorem aj0(W:DK S ok sp ag bL N (.slice na nl au) (.slice pa pl pc) s0)(B:Base N na pa nl au pl pc w0)(hρ:∀w:υ,w.heap[N+6]?=θ (oj 0)->(∀b,b<N+6->b≠N+5->w.heap[b]?=w0.heap[b]?)->w.heap.size=N+6+1->dy lk.tWg (N+5) w->di (jh bL N) s0 w):∀gD q9 gF gG gH gI,∃m,∀w,dy lk.tWg (N+5) w->Goes Tryz.prog ν (R0 lk.tWg (N+5)) (D0 (N+5)) (P9 Tryz.prog lk.tWg (N+5) (Yc W) w0 KR (oj 0) (vj 0) (y5 Tryz.prog lk.tWg (N+5) (KS N 1 na pa nl au pl pc cs))) m (DQ N 1 (0:Int) na pa nl au pl pc cs gD q9 gF gG gH gI) w:=by
 intro gD q9 gF gG gH gI;have hlt:(0:Int)<(1:Int):=by omega
 have hwr:IntKind.i64.wrap 1=1:=by rw[IntKind.wrap_i64];omega
 refine⟨30,λw hF=>?_⟩;simp only[DQ,vE,GL,q8,sL,sJ,Tryz.f131,Ω]at ⊢;iterate 2 (refine Goes.step rfl (λ_ hq=>?_);replace hF:=hq hF;first|(rw[k8];simp only[bq];refine⟨cS,?_⟩)|(rw[oD];simp only[bq,List.size_toArray,List.length_cons,List.length_nil,Nat.zero_add];(try simp only[Nat.reduceAdd]);simp only[List.range,List.range.loop];refine⟨cS,?_⟩))
 (refine Goes.step rfl (λ_ hq=>?_);replace hF:=hq hF;rw[vals rfl rfl (v:=.bool ν) (by unfold aL;simp[go_sem,je,hlt]) (by unfold aL;simp[go_sem,je,hlt])];simp only[bq];refine⟨cS,?_⟩;walk_nrm);iterate 2 (refine Goes.step rfl (λ_ hq=>?_);replace hF:=hq hF;first|(rw[k8];simp only[bq];refine⟨cS,?_⟩)|(rw[mq];simp only[bq];refine⟨cS,?_⟩))
 (refine Goes.step rfl (λ_ hq=>?_);replace hF:=hq hF;rw[Dy (t:=ν) rfl];simp only[bq,↓reduceIte];refine⟨cS,?_⟩);iterate 2 (refine Goes.step rfl (λ_ hq=>?_);replace hF:=hq hF;first|(rw[k8];simp only[bq];refine⟨cS,?_⟩)|(rw[Kn];simp only[bq];refine⟨cS,?_⟩))
 (refine Goes.step rfl (λ_ hq=>?_);replace hF:=hq hF;rw[Km];simp only[bq];refine⟨cS,?_⟩);iterate 2 (refine Goes.step rfl (λ_ hq=>?_);replace hF:=hq hF;first|(rw[k8];simp only[bq];refine⟨cS,?_⟩)|(rw[oD];simp only[bq,List.size_toArray,List.length_cons,List.length_nil,Nat.zero_add];(try simp only[Nat.reduceAdd]);simp only[List.range,List.range.loop];refine⟨cS,?_⟩))
 (refine Goes.step rfl (λ_ hq=>?_);replace hF:=hq hF;rw[vals rfl rfl (v:=.int .i64 0) (by unfold aL;simp[go_sem,je]) (by unfold aL;simp[go_sem,je])];simp only[bq];refine⟨cS,?_⟩;walk_nrm);refine Goes.stop (λw₁ hq=>?_);replace hF:=hq hF;refine⟨rfl,λhsz=>⟨_,ajA rfl rfl rfl,1,?_⟩⟩;replace hF:dy lk.tWg (N+5) (w₁.alloc KR):=by obtain⟨st,sm,h⟩:=hF;exact⟨st,sm,h.of_block (Bs _ _ (by omega))⟩
 rw[hsz];walk_nrm;refine Goes.stop (λw₂ h₂=>?_);replace hF:=h₂ hF;refine⟨rfl,λho=>⟨_,ajE (m:=(0:Int)) rfl rfl rfl rfl rfl (Yd ho).1 (Yd ho).2,ajZ ho,20,?_⟩⟩;replace hF:dy lk.tWg (N+5) (w₂.setCell ⟨N+6,0,η⟩ (vj 0)):=by obtain⟨st,sm,h⟩:=hF;exact⟨st,sm,h.of_block ((qh _ _ _).block _ (by simp))⟩
 walk_nrm;iterate 3 (refine Goes.step rfl (λ_ hq=>?_);replace hF:=hq hF;first|(rw[k8];simp only[bq];refine⟨cS,?_⟩)|(rw[mq];simp only[bq];refine⟨cS,?_⟩)|(rw[oD];simp only[bq,List.size_toArray,List.length_cons,List.length_nil,Nat.zero_add];(try simp only[Nat.reduceAdd]);simp only[List.range,List.range.loop];refine⟨cS,?_⟩))
 have hA:=@ajb _ lk Tryz.prog ag (N+5) N (N+6) (Yc W) w0 (oj 0);(refine Goes.step rfl (λ_ hq=>?_);replace hF:=hq hF;refine Dz rfl rfl (by k_ne) rfl Tryz.func140 (nm_add lk) rfl ⟨cS,?_⟩);simp only[body_add,addFn,Ω]at hA;walk_nrmf Tryz.f140;refine Goes.mono (n:=12) (hA (mT:=3) Kz (λw₃ hF=>?_) _ hF) (by omega);walk_nrm;iterate 2 (refine Goes.step rfl (λ_ hq=>?_);replace hF:=hq hF;first|(rw[mq];simp only[bq];refine⟨cS,?_⟩)|(rw[oD];simp only[bq,List.size_toArray,List.length_cons,List.length_nil,Nat.zero_add];(try simp only[Nat.reduceAdd]);simp only[List.range,List.range.loop];refine⟨cS,?_⟩))
 (refine Goes.step rfl (λ_ hq=>?_);replace hF:=hq hF;rw[vals rfl rfl (v:=.func (.func 141) #[] #[.pointer (θ ⟨N+5,0,η⟩),.pointer (θ ⟨N,0,η⟩),.pointer (θ ⟨N+1,0,η⟩),.pointer (θ ⟨N+6,0,η⟩),.pointer (θ ⟨N+2,0,η⟩),.pointer (θ ⟨N+4,0,η⟩)]) (by unfold aL;simp[go_sem,je,ajT]) (by unfold aL;simp[go_sem,je,ajU])];simp only[bq];refine⟨cS,?_⟩;walk_nrm);refine Goes.stop (λQB h₄=>?_);replace hF:=h₄ hF;have hev:∀a:Act,a.eval (.tmp 17)=.func (.func 141) #[] #[.pointer (θ ⟨N+5,0,η⟩),.pointer (θ ⟨N,0,η⟩),.pointer (θ ⟨N+1,0,η⟩),.pointer (θ ⟨N+6,0,η⟩),.pointer (θ ⟨N+2,0,η⟩),.pointer (θ ⟨N+4,0,η⟩)] ->
   ∀(ops:Array Oper) (o:Oper),ops[1]?=θ o->o.guard=η->o.dst=η->o.op=.go {callee:=.value (.tmp 17),args:=#[],argTypes:=#[] }->∀kk,bh Tryz.prog ν (G (bs.at a (.inRegion ops (1::[])::kk)) cs) QB=.spawn (G (bs.at a (.inRegion ops []::kk)) cs) (born Tryz.prog (y8 N)) QB #[]:=λa ha ops o ho hg hd hop kk=>ajY ha ho hg hd hop
 refine⟨rfl,_,_,hev _ rfl _ _ rfl rfl rfl rfl _,?_,λh1 h2 h3 h4=>?_⟩
 .refine⟨13+7,?_⟩;have hm:=ajJ (N:=N) (n:=1) (na:=na) (pa:=pa) (nl:=nl) (au:=au) (pl:=pl) (pc:=pc) (cs:=cs) (gD:=.pointer (θ ⟨N+6,0,η⟩)) (q9:=.bool ν) (gF:=.int .i64 0) (gG:=.tuple #[]) (gH:=.func (.func 141) #[] #[.pointer (θ ⟨N+5,0,η⟩),.pointer (θ ⟨N,0,η⟩),.pointer (θ ⟨N+1,0,η⟩),.pointer (θ ⟨N+6,0,η⟩),.pointer (θ ⟨N+2,0,η⟩),.pointer (θ ⟨N+4,0,η⟩)]) (gI:=.int .i64 1);simp only[DQ,vE,GL,q8,sL,sJ,Tryz.f131,Ω]at hm;(refine Goes.step rfl (λ_ hq=>?_);replace hF:=hq hF;rw[mq];simp only[bq];refine⟨cS,?_⟩);(refine Goes.step rfl (λ_ hq=>?_);replace hF:=hq hF;rw[stepG_inBlock];simp only[bq];refine⟨cS,?_⟩);(refine Goes.step rfl (λ_ hq=>?_);replace hF:=hq hF;rw[oD];simp only[bq,List.size_toArray,List.length_cons,List.length_nil,Nat.zero_add];(try simp only[Nat.reduceAdd]);simp only[List.range,List.range.loop];refine⟨cS,?_⟩);(refine Goes.step rfl (λ_ hq=>?_);replace hF:=hq hF;rw[vals rfl rfl (v:=.int .i64 1) (by unfold aL;simp[go_sem,je,hwr]) (by unfold aL;simp[go_sem,je])];simp only[bq];refine⟨cS,?_⟩;walk_nrm);(refine Goes.step rfl (λ_ hq=>?_);replace hF:=hq hF;rw[vals rfl rfl (v:=.int .i64 1) (by unfold aL;simp[go_sem,je]) (by unfold aL;simp[go_sem,je])];simp only[bq];refine⟨cS,?_⟩;walk_nrm);(refine Goes.step rfl (λ_ hq=>?_);replace hF:=hq hF;rw[mq];simp only[bq];refine⟨cS,?_⟩);(refine Goes.step rfl (λ_ hq=>?_);replace hF:=hq hF;rw[stepG_inLoop];simp only[bq];refine⟨cS,?_⟩);exact tZ (AtKd.imp λg w h=>⟨_,_,_,_,_,h⟩) (hm _ hF)
 .exact⟨.pre 15 (Br S (.slice na nl au) (.slice pa pl pc),s0),rfl,hρ _ h1 h2 h3 h4,Ye B h1 h2 h4,ajO W.vQ _ (Ye B h1 h2 h4)⟩
end
theorem enters na pa nl au pl pc n:Frame.enter Tryz.prog 131 #[.slice na nl au,.slice pa pl pc,.int .i64 n] .normal=
  bs.at ⟨#[.slice na nl au,.slice pa pl pc,.int .i64 n,undef,undef,undef,undef,undef,undef,undef,undef,undef,undef,undef,undef,undef,undef,undef,undef,undef,undef],[]⟩ [.code sJ]:=by
 simp[Frame.enter,Frame.at,Tryz.func131,bs,base,sJ,Tryz.f131]
section
variable {N n:Nat}{na pa:Option bP}{nl au pl pc:Nat}{c:Frame}{cs:List Frame}{ag:Nat->Prop}{gD gF gG gH gI:ay}
theorem aj1{w}(hno:¬ag (N+4))(hc:w.cell? ⟨N+4,0,η⟩=θ (.slice (θ ⟨N+3,0,η⟩) n n))d0:Goes Tryz.prog ν tW (tT ag) (λg w'=>g=G (c.finish (.slice (θ ⟨N+3,0,η⟩) n n)) cs/\tW w w') 12 (KP N n na pa nl au pl pc (c::cs) gD (.bool ο) gF gG gH gI) (w.at d0):=by simp only[KP,vE,q8,sL,sJ,Tryz.f131,Ω];walk_nrm;(refine Goes.step rfl (λ_ hq=>?_);obtain⟨d,rfl⟩:=hq;simp only[fB];rw[mq];simp only[bq];refine⟨dO,?_⟩);(refine Goes.step rfl (λ_ hq=>?_);obtain⟨d,rfl⟩:=hq;simp only[fB];rw[k8];simp only[bq];refine⟨dO,?_⟩);(refine Goes.step rfl (λ_ hq=>?_);obtain⟨d,rfl⟩:=hq;simp only[fB];rw[oD];simp only[bq,List.size_toArray,List.length_cons,List.length_nil,Nat.zero_add];(try simp only[Nat.reduceAdd]);simp only[List.range,List.range.loop];refine⟨dO,?_⟩);(refine Goes.step rfl (λ_ hq=>?_);obtain⟨d,rfl⟩:=hq;simp only[fB];rw[Qy (w:=w.at d) rfl rfl rfl Tryz.isAgg194 rfl hc];simp only[bq];refine⟨KO rfl hno (Qr hc),?_⟩;walk_nrm);(refine Goes.step rfl (λ_ hq=>?_);obtain⟨d,rfl⟩:=hq;simp only[fB];rw[vals rfl rfl (v:=.slice (θ ⟨N+3,0,η⟩) n n) (by unfold aL;simp[go_sem,je]) (by unfold aL;simp[go_sem,je])];simp only[bq];refine⟨dO,?_⟩;walk_nrm);(refine Goes.step rfl (λ_ hq=>?_);obtain⟨d,rfl⟩:=hq;simp only[fB];rw[mq];simp only[bq];refine⟨dO,?_⟩);(refine Goes.step rfl (λ_ hq=>?_);obtain⟨d,rfl⟩:=hq;simp only[fB];rw[sG];simp only[bq];refine⟨dO,?_⟩);(refine Goes.step rfl (λ_ hq=>?_);obtain⟨d,rfl⟩:=hq;simp only[fB];rw[stepG_leave rfl rfl Tryz.func131 (results_tmp (t:=6) rfl _ Tryz.prog _) (events_results_tmp (t:=6) rfl _ _)];simp only[bq];refine⟨dO,?_⟩);exact Goes.stop (λw₁ hq=>⟨rfl,atRel_trans _ _ _ ⟨_,rfl⟩ hq⟩)
end
structure KT(s s0:υ)(N:Nat):Prop where
 size:s.heap.size=N
 QC:s0.heap.size=N+7
 old:∀b,b<N->s0.heap[b]?=s.heap[b]?
 b0:s0.heap[N]?=θ (.cells #[] 189)
 b1:s0.heap[N+1]?=θ (.cells #[] 191)
 b2:s0.heap[N+2]?=θ (.cells #[] 3)
 b3:s0.heap[N+3]?=θ (.cells (fo #[.slice η 0 0] 1) 189)
 b4:s0.heap[N+4]?=θ (.cells #[] 194)
 b5:s0.heap[N+5]?=θ (.cells #[] 217)
 b6:s0.heap[N+6]?=θ (.cells #[] 3)
theorem KT.wr{ag}{s s0 w w1}{N}(h:KT s s0 N)(hw:di ag s w)(vQ:∀b,ag b->b<N)(hold:∀b,b<N->w1.heap[b]?=w.heap[b]?)(hsz:w1.heap.size=N+7)(h0:∃c,w1.heap[N]?=θ (.cells c 189))(h1:∃c,w1.heap[N+1]?=θ (.cells c 191))(h2:∃c,w1.heap[N+2]?=θ (.cells c 3))(h3:w1.heap[N+3]?=θ (.cells (fo #[.slice η 0 0] 1) 189))(h4:∃c,w1.heap[N+4]?=θ (.cells c 194))(h5:∃c,w1.heap[N+5]?=θ (.cells c 217))(h6:∃c,w1.heap[N+6]?=θ (.cells c 3)):di (jh ag N) s0 w1:=by
 refine⟨h.QC.trans hsz.symm,λb hb=>?_,λb hb=>?_,λb o v hb hs hp hv=>?_⟩
 .rcases Nat.lt_or_ge b N with hlt|hge
  .rw[h.old b hlt,hold b hlt];exact hw.same b λhs=>hb (.inl hs)
  .by_cases e:b=N+3
   .subst e;rw[h.b3,h3];exact .inl ⟨rfl,λo ho=>by cases ho;exact⟨by simp,by simp⟩⟩
   ·(have Yf:N+7<=b:=by apply Nat.le_of_not_lt;intro hlt;exact hb (.inr (by omega)));rw[gx (by rw[h.QC];exact Yf),gx (by rw[hsz];exact Yf)];exact .inl ⟨rfl,by simp⟩
 .rcases hb with hs|rfl|rfl|rfl|rfl|rfl|rfl
  .obtain⟨t,c,e1,e2⟩:=hw.bad b hs;exact⟨t,c,(h.old b (vQ b hs)).trans e1,(hold b (vQ b hs)).trans e2⟩
  .obtain⟨c,e⟩:=h0;exact⟨_,c,h.b0,e⟩
  .obtain⟨c,e⟩:=h1;exact⟨_,c,h.b1,e⟩
  .obtain⟨c,e⟩:=h2;exact⟨_,c,h.b2,e⟩
  .obtain⟨c,e⟩:=h4;exact⟨_,c,h.b4,e⟩
  .obtain⟨c,e⟩:=h5;exact⟨_,c,h.b5,e⟩
  .obtain⟨c,e⟩:=h6;exact⟨_,c,h.b6,e⟩
 .rcases Nat.lt_or_ge b N with hlt|hge
  .rw[h.old b hlt]at hs;rw[hold b hlt];exact hw.old b o v (λhs=>hb (.inl hs)) hs hp hv
  .have hl:=(ξ.1 hs).1;rw[h.QC]at hl;by_cases e:b=N+3
   .subst e;rw[h.b3]at hs;(cases hs);exact absurd ⟨by simp,by simp,by simp⟩ hp
   .exact absurd (.inr (by omega)) hb
section
variable {S:Program}{ok:FuncId->Bool}{sp:FuncId}{ag:Nat->Prop}{bL:cV}{na pa:Option bP}{nl au pl pc:Nat}{s s0:υ}{c:Frame}{cs:List Frame}{w:υ}{gs:Array Goroutine}{q:Nat->Nat}{t:gS}
theorem aj2(W:DK S ok sp (more ag (w.heap.size+5)) bL w.heap.size (.slice na nl au) (.slice pa pl pc) s0)(rf:KT s s0 w.heap.size)(hwr:di bL s w)(hlt:∀b,bL b->b<w.heap.size){Post}(h0:gs[0]?=θ (G (Frame.enter Tryz.prog 131 #[.slice na nl au,.slice pa pl pc,.int .i64 (1:Nat)] .normal) (c::cs)))(xu:Fr Tryz.prog ag gs q w t)(hK:∀gs' w' sl' t' q',gs'[0]?=θ (G (c.finish (.slice (θ ⟨w.heap.size+3,0,η⟩) 1 1)) cs)->Fr Tryz.prog (more ag (w.heap.size+5)) gs' q' w' t'->KI S bL w.heap.size (.slice na nl au) (.slice pa pl pc) s0 undef w'->dy lk.tWg (w.heap.size+5) w' ->
   (w'.os=w.os/\w'.output=w.output/\w'.tape=w.tape)->Ends Tryz.prog Post (dG gs' w' sl') t')sl:Ends Tryz.prog Post (dG gs w sl) t:=by
 have hsb:=xu.sb;rw[enters]at h0;refine Kc 20 gs _ q w sl t h0 xu (ajH (n:=1) (na:=na) (pa:=pa) (nl:=nl) (au:=au) (pl:=pl) (pc:=pc) (cs:=c::cs) hsb (by omega) w.drawn) λmo a1 q1 w1 aj3 t1 g1 z1 ri s1=>?_;obtain⟨d1,rfl,rfl⟩:=s1;refine ai6 (w:=(q7 w 1 na pa nl au pl pc)) (o:=.cells #[.int .u64 0,.int .u32 0] 217) (gs:=mo) (ag:=ag) rfl (λd=>⟨G (bs.at ⟨(GJ w.heap.size 1 na pa nl au pl pc).setIfInBounds 8 (.pointer (θ ⟨w.heap.size+5,0,η⟩)),[]⟩ [.inRegion GH [],.code sL]) (c::cs),?_,?_⟩) (dN mo.size q1) mo q1 d1 aj3 t1 (Nat.le_refl _) g1 rfl ri
 .have:=ajB (a:=⟨GJ w.heap.size 1 na pa nl au pl pc,[]⟩) (w:=(q7 w 1 na pa nl au pl pc).at d) (ops:=GH) (k:=0) (rest:=[]) (kk:=[.code sL]) (cs:=c::cs) rfl rfl rfl;rw[this];rw[show ((q7 w 1 na pa nl au pl pc).at d).heap.size=w.heap.size+5 from KN w 1 na pa nl au pl pc];rfl
 intro P6 q2 P7 t2 g2 z2 QD;have iK:=KN w 1 na pa nl au pl pc;rw[iK]at QD;have kG:({(q7 w 1 na pa nl au pl pc).at d with heap:=((q7 w 1 na pa nl au pl pc).at d).heap.push (.cells #[.int .u64 0,.int .u32 0] 217) }:υ)=(mA w 1 na pa nl au pl pc).at d:=rfl;rw[kG]at QD ⊢;have QE:∀b,more ag (w.heap.size+5) b->b<w.heap.size\/b=w.heap.size+5:=λb hb=>hb.imp (hsb b) id;refine Kc 20 P6 _ q2 _ P7 t2 g2 QD (ajI QE d) λaxF a3 dR w3 aj4 t3 g3 z3 aj5 s3=>?_;obtain⟨d3,rfl,rfl⟩:=s3;obtain⟨k0,k1,k2,bz,eB,sM,aj6⟩:=h7 w 1 na pa nl au pl pc;have aj7:((mA w 1 na pa nl au pl pc).at d3).heap.size=w.heap.size+6:=X9 w 1 na pa nl au pl pc;have hwg:=sM;have hB:Base w.heap.size na pa nl au pl pc ((mA w 1 na pa nl au pl pc).at d3):=⟨k0,k1,k2,eB⟩;have aj8:sD (more ag (w.heap.size+5)) (w.heap.size+5) w.heap.size (w.heap.size+6):=
  ⟨by omega,by omega,by omega,.inr rfl,λb hb=>by have:=QE b hb;omega⟩
 have hρ:∀w':υ,w'.heap[w.heap.size+6]?=θ (oj 0)->(∀b,b<w.heap.size+6->b≠w.heap.size+5->w'.heap[b]?=((mA w 1 na pa nl au pl pc).at d3).heap[b]?)->w'.heap.size=w.heap.size+6+1->dy lk.tWg (w.heap.size+5) w'->di (jh bL w.heap.size) s0 w':=by intro w' KU hb hsz hl;obtain⟨st,sm,hl⟩:=hl;exact rf.wr hwr hlt (λb hl=>(hb b (by omega) (by omega)).trans (aj6 b hl)) hsz ⟨_,(hb _ (by omega) (by omega)).trans k0⟩ ⟨_,(hb _ (by omega) (by omega)).trans k1⟩ ⟨_,(hb _ (by omega) (by omega)).trans k2⟩ ((hb _ (by omega) (by omega)).trans bz) ⟨_,(hb _ (by omega) (by omega)).trans eB⟩ ⟨_,hl⟩ ⟨_,KU⟩
 obtain⟨m,hm⟩:=aj0 (cs:=c::cs) (w0:=(mA w 1 na pa nl au pl pc).at d3) W hB hρ undef undef undef undef undef undef;refine group aj7.symm aj8 (ajW _ _ _ _ _ _ _ _ _) (ajX (ag:=more ag (w.heap.size+5)) _ _ _ _ _ _ _ _ _) g3 aj5 hwg (hm _ ⟨_,_,hwg⟩) (λaj9 a4 w4 aka t4 iH J=>?_) aj4;obtain⟨gD,gF,gG,gH,gI,m4,akb⟩:=J.out;have xj:dy lk.tWg (w.heap.size+5) w4:=J.live;obtain⟨akc,_,fJ⟩:=J.fin;have akd :KI S bL w.heap.size (.slice na nl au) (.slice pa pl pc) s0 akc w4:=fJ;obtain⟨v,s',wf,Bx,f1,f2,f3,f4⟩:=akd;refine Kc m4 aj9 a4 iH w4 aka t4 J.zero J.fr (akb w4 xj) λake a5 lf aO akf t5 g5 z5 akg Pw=>?_;obtain⟨rfl,d5,rfl⟩:=Pw;have akh:w4.cell? ⟨w.heap.size+4,0,η⟩=θ (.slice (θ ⟨w.heap.size+3,0,η⟩) 1 1):=by rw[Qf (f1 (w.heap.size+4) (by omega) (by omega) (by omega)) 0];exact Bx.2.2.2.cB
 refine Kc 12 ake _ lf _ akf t5 g5 akg (aj1 (c:=c) (cs:=cs) (w:=w4) (λh=>by have:=QE _ h;omega) akh d5) λaki a6 Gv bW akj t6 g6 axG akk A3=>?_;obtain⟨rfl,d6,rfl⟩:=A3;refine hK aki (w4.at d6) akj t6 Gv g6 akk ⟨v,s',wf,Bx,f1,f2,f3,f4⟩ xj ⟨J.same.1.trans ?_,J.same.2.1.trans ?_,J.same.2.2.trans ?_⟩
 .rfl
 .rfl
 .rfl
end
end fV
end Go.Proofs.YtfphigmeppdocaaGreatDoor
namespace Go.Proofs.YtfphigmeppdocaaGreatDoor
namespace Lo
section
variable (R:Program) (kn:List Nat) (sp:Nat) (g:Func)
theorem Yg:(mask R kn sp g).toTables=R.toTables:=rfl
theorem Yh(t:Θ):(mask R kn sp g).underlying t=R.underlying t:=rfl
theorem Yi(t:Θ)w:(se t).run (mask R kn sp g) w=(se t).run R w:=by
 have h1 : ∀ P : Program, (se t).run P w = (match P.info? t with | θ i => (.ok i w : Result TypeInfo) | η => .halt (.stuck "no such type") w) := by
  intro P
  show (match P.info? t with | θ i => (pure i : Sem TypeInfo) | η => stuck "no such type").run P w = _
  cases P.info? t<;>rfl
 rw[h1,h1,Yg]
theorem Yj(t:Θ)w:(gR t).run (mask R kn sp g) w=(gR t).run R w:=by
 have h1 : ∀ P : Program, (gR t).run P w = (match P.underlying t with | θ i => (.ok i w : Result TypeDesc) | η => .halt (.stuck "no such type") w) := by
  intro P
  show (match P.underlying t with | θ i => (pure i : Sem TypeDesc) | η => stuck "no such type").run P w = _
  cases P.underlying t<;>rfl
 rw[h1,h1,Yh]
theorem akl(t:Θ)w:(qU t).run (mask R kn sp g) w=(qU t).run R w:=by simp[qU,Yi]
theorem akm(t:Θ)w:(nI t).run (mask R kn sp g) w=(nI t).run R w:=by simp only[nI,XE,Yj];congr 1;funext d w';cases d<;>simp
theorem akn(t:Θ)w:(tJ t).run (mask R kn sp g) w=(tJ t).run R w:=by simp only[tJ,XE,Yi];congr 1;funext d w';cases d.zero<;>simp
variable {R kn sp g}
theorem ako{f}{fn}(h:R.funcs[f]?=θ fn)(hf:f≠sp)(hk:kn.contains f=ν):(mask R kn sp g).funcs[f]?=θ fn:=by rw[Bc,h];simp only[nK,yX,ς hf,hk,dF]
end
end Lo
end Go.Proofs.YtfphigmeppdocaaGreatDoor
namespace Go.Proofs.YtfphigmeppdocaaGreatDoor
open Lo (ah Bg kn)
open Go.Proofs.Tryz
@[simp] theorem akp(t:Θ)w:(qU t).run ah w=(qU t).run Tryz.prog w:=Lo.akl _ _ _ _ t w
@[simp] theorem axH(t:Θ)w:(gR t).run ah w=(gR t).run Tryz.prog w:=Lo.Yj _ _ _ _ t w
@[simp] theorem akq(t:Θ)w:(nI t).run ah w=(nI t).run Tryz.prog w:=Lo.akm _ _ _ _ t w
@[simp] theorem Yk(t:Θ)w:(tJ t).run ah w=(tJ t).run Tryz.prog w:=Lo.akn _ _ _ _ t w
@[simp] theorem cD(t:Θ):ah.underlying t=Tryz.prog.underlying t:=Lo.Yh _ _ _ _ t
@[simp] theorem akr:ah.toTables=Tryz.prog.toTables:=Lo.Yg _ _ _ _
abbrev aW(f:FuncId):=∀args w,(gX f args).run ah w=.ok (.enter f args) w
theorem Yl{f}(h:kn.contains f=ν)(hb:((ah.funcs[f]?).bind (·.body)).isSome=ν):aW f:=by intro args w;obtain⟨fn,_,e1,_⟩:=Lo.oB.1.same f h;have e3:=(Lo.oB.1.all f fn e1).1;rw[e1]at hb;obtain⟨c,hc⟩:=XF.1 hb;have hc:fn.body=θ c:=hc;simp[gX,e1,e3,hc]
theorem aP{f}{fn}(h:Tryz.prog.funcs[f]?=θ fn)(hf:f≠131:=by decide)(hk:kn.contains f=true:=by rfl):ah.funcs[f]?=θ fn:=Lo.ako h hf hk
theorem aY{f}{fn}(e:Tryz.prog.funcs[f]?=θ fn)(hb:fn.body.isSome=true:=by rfl)(hf:f≠131:=by decide)(hk:kn.contains f=true:=by rfl):aW f:=Yl hk (by rw[aP e hf hk];exact hb)
@[simp] theorem axI:aW 131:=Yl rfl (by kernel_rfl)
theorem aks:ah.funcs[3]?=θ f3:=aP func3
theorem akt:ah.funcs[4]?=θ f4:=aP func4
theorem Ym:ah.funcs[5]?=θ f5:=aP func5
theorem aku:ah.funcs[6]?=θ f6:=aP func6
theorem akv:ah.funcs[8]?=θ f8:=aP func8
theorem akw:ah.funcs[10]?=θ f10:=aP func10
theorem akx:ah.funcs[11]?=θ f11:=aP func11
theorem aky:ah.funcs[12]?=θ f12:=aP func12
theorem QF:ah.funcs[13]?=θ f13:=aP func13
theorem akz:ah.funcs[14]?=θ f14:=aP func14
theorem akA:ah.funcs[15]?=θ f15:=aP func15
theorem akB:ah.funcs[16]?=θ f16:=aP func16
theorem akC:ah.funcs[18]?=θ f18:=aP func18
theorem Yn:ah.funcs[25]?=θ f25:=aP func25
theorem akD:ah.funcs[26]?=θ f26:=aP func26
theorem akE:ah.funcs[27]?=θ f27:=aP func27
theorem Yo:ah.funcs[28]?=θ f28:=aP func28
theorem Bz:ah.funcs[29]?=θ f29:=aP func29
theorem akF:ah.funcs[34]?=θ f34:=aP func34
theorem QG:ah.funcs[35]?=θ f35:=aP func35
theorem KV:ah.funcs[36]?=θ f36:=aP func36
theorem akG:ah.funcs[37]?=θ f37:=aP func37
theorem akH:ah.funcs[39]?=θ f39:=aP func39
theorem KW:ah.funcs[40]?=θ f40:=aP func40
theorem akI:ah.funcs[41]?=θ f41:=aP func41
theorem Yp:ah.funcs[42]?=θ f42:=aP func42
theorem Yq:ah.funcs[43]?=θ f43:=aP func43
theorem akJ:ah.funcs[44]?=θ f44:=aP func44
theorem akK:ah.funcs[45]?=θ f45:=aP func45
theorem akL:ah.funcs[46]?=θ f46:=aP func46
theorem akM:ah.funcs[47]?=θ f47:=aP func47
theorem Yr:ah.funcs[48]?=θ f48:=aP func48
theorem akN:ah.funcs[49]?=θ f49:=aP func49
theorem Ys:ah.funcs[50]?=θ f50:=aP func50
theorem Yt:ah.funcs[51]?=θ f51:=aP func51
theorem akO:ah.funcs[52]?=θ f52:=aP func52
theorem akP:ah.funcs[53]?=θ f53:=aP func53
theorem KX:ah.funcs[54]?=θ f54:=aP func54
theorem QH:ah.funcs[55]?=θ f55:=aP func55
theorem akQ:ah.funcs[64]?=θ f64:=aP func64
theorem QI:ah.funcs[65]?=θ f65:=aP func65
theorem KY:ah.funcs[66]?=θ f66:=aP func66
theorem KZ:ah.funcs[67]?=θ f67:=aP func67
theorem Yu:ah.funcs[68]?=θ f68:=aP func68
theorem QJ:ah.funcs[69]?=θ f69:=aP func69
theorem QK:ah.funcs[70]?=θ f70:=aP func70
theorem akR:ah.funcs[71]?=θ f71:=aP func71
theorem akS:ah.funcs[72]?=θ f72:=aP func72
theorem akT:ah.funcs[73]?=θ f73:=aP func73
theorem akU:ah.funcs[74]?=θ f74:=aP func74
theorem akV:ah.funcs[75]?=θ f75:=aP func75
theorem QL:ah.funcs[76]?=θ f76:=aP func76
theorem akW:ah.funcs[77]?=θ f77:=aP func77
theorem akX:ah.funcs[78]?=θ f78:=aP func78
theorem Yv:ah.funcs[79]?=θ f79:=aP func79
theorem Yw:ah.funcs[80]?=θ f80:=aP func80
theorem Yx:ah.funcs[81]?=θ f81:=aP func81
theorem Yy:ah.funcs[82]?=θ f82:=aP func82
theorem QM:ah.funcs[83]?=θ f83:=aP func83
theorem akY:ah.funcs[84]?=θ f84:=aP func84
theorem akZ:ah.funcs[85]?=θ f85:=aP func85
theorem Yz:ah.funcs[86]?=θ f86:=aP func86
theorem ak0:ah.funcs[87]?=θ f87:=aP func87
theorem ak1:ah.funcs[88]?=θ f88:=aP func88
theorem ak2:ah.funcs[89]?=θ f89:=aP func89
theorem ak3:ah.funcs[90]?=θ f90:=aP func90
theorem ak4:ah.funcs[91]?=θ f91:=aP func91
theorem QN:ah.funcs[92]?=θ f92:=aP func92
theorem GM:ah.funcs[93]?=θ f93:=aP func93
theorem ak5:ah.funcs[103]?=θ f103:=aP func103
theorem ak6:ah.funcs[104]?=θ f104:=aP func104
theorem ak7:ah.funcs[105]?=θ f105:=aP func105
theorem ak8:ah.funcs[106]?=θ f106:=aP func106
theorem ak9:ah.funcs[107]?=θ f107:=aP func107
theorem ala:ah.funcs[108]?=θ f108:=aP func108
theorem YA:ah.funcs[109]?=θ f109:=aP func109
theorem QO:ah.funcs[110]?=θ f110:=aP func110
theorem YB:ah.funcs[111]?=θ f111:=aP func111
theorem YC:ah.funcs[112]?=θ f112:=aP func112
theorem alb:ah.funcs[113]?=θ f113:=aP func113
theorem alc:ah.funcs[114]?=θ f114:=aP func114
theorem YD:ah.funcs[115]?=θ f115:=aP func115
theorem ald:ah.funcs[116]?=θ f116:=aP func116
theorem ale:ah.funcs[117]?=θ f117:=aP func117
theorem K0:ah.funcs[118]?=θ f118:=aP func118
theorem QS:ah.funcs[119]?=θ f119:=aP func119
theorem K1:ah.funcs[127]?=θ f127:=aP func127
theorem alf:ah.funcs[128]?=θ f128:=aP func128
theorem alg:ah.funcs[129]?=θ f129:=aP func129
theorem alh:ah.funcs[130]?=θ f130:=aP func130
theorem ali:ah.funcs[132]?=θ f132:=aP func132
theorem alj:ah.funcs[133]?=θ f133:=aP func133
theorem alk:ah.funcs[134]?=θ f134:=aP func134
theorem alm:ah.funcs[135]?=θ f135:=aP func135
theorem aln:ah.funcs[139]?=θ f139:=aP func139
theorem alo:ah.funcs[143]?=θ f143:=aP func143
theorem QT:ah.funcs[145]?=θ f145:=aP func145
theorem alp:ah.funcs[146]?=θ f146:=aP func146
theorem QU:ah.funcs[147]?=θ f147:=aP func147
theorem K2:ah.funcs[148]?=θ f148:=aP func148
theorem alq:ah.funcs[164]?=θ f164:=aP func164
theorem YE:ah.funcs[170]?=θ f170:=aP func170
theorem K3:ah.funcs[171]?=θ f171:=aP func171
theorem alr:ah.funcs[172]?=θ f172:=aP func172
theorem als:ah.funcs[173]?=θ f173:=aP func173
theorem alu:ah.funcs[174]?=θ f174:=aP func174
theorem alv:ah.funcs[175]?=θ f175:=aP func175
theorem alw:ah.funcs[176]?=θ f176:=aP func176
theorem QV:ah.funcs[177]?=θ f177:=aP func177
theorem QW:ah.funcs[178]?=θ f178:=aP func178
theorem alx:ah.funcs[179]?=θ f179:=aP func179
theorem K4:ah.funcs[180]?=θ f180:=aP func180
theorem GN:ah.funcs[181]?=θ f181:=aP func181
theorem QX:ah.funcs[182]?=θ f182:=aP func182
theorem aly:ah.funcs[187]?=θ f187:=aP func187
theorem K5:ah.funcs[189]?=θ f189:=aP func189
theorem YF:ah.funcs[190]?=θ f190:=aP func190
theorem alz:ah.funcs[191]?=θ f191:=aP func191
theorem alC:ah.funcs[192]?=θ f192:=aP func192
theorem alD:ah.funcs[193]?=θ f193:=aP func193
theorem alE:ah.funcs[194]?=θ f194:=aP func194
theorem QY:ah.funcs[195]?=θ f195:=aP func195
theorem alF:ah.funcs[196]?=θ f196:=aP func196
theorem QZ:ah.funcs[197]?=θ f197:=aP func197
theorem YG:ah.funcs[198]?=θ f198:=aP func198
theorem YH:ah.funcs[199]?=θ f199:=aP func199
theorem alG:ah.funcs[201]?=θ f201:=aP func201
theorem Q0:ah.funcs[202]?=θ f202:=aP func202
theorem Q1:ah.funcs[203]?=θ f203:=aP func203
theorem YI:ah.funcs[206]?=θ f206:=aP func206
theorem alH:ah.funcs[33]?=θ f33:=aP func33
@[simp] theorem axJ:aW 5:=aY func5
@[simp] theorem axK:aW 6:=aY func6
@[simp] theorem axL:aW 7:=aY func7
@[simp] theorem axM:aW 8:=aY func8
@[simp] theorem axN:aW 9:=aY func9
@[simp] theorem axO:aW 10:=aY func10
@[simp] theorem axP:aW 11:=aY func11
@[simp] theorem axQ:aW 12:=aY func12
@[simp] theorem axR:aW 13:=aY func13
@[simp] theorem axS:aW 14:=aY func14
@[simp] theorem axT:aW 15:=aY func15
@[simp] theorem axU:aW 16:=aY func16
@[simp] theorem axV:aW 17:=aY func17
@[simp] theorem axW:aW 18:=aY func18
@[simp] theorem axX:aW 23:=aY func23
@[simp] theorem axY:aW 24:=aY func24
@[simp] theorem axZ:aW 25:=aY func25
@[simp] theorem ax0:aW 26:=aY func26
@[simp] theorem ax1:aW 27:=aY func27
@[simp] theorem ax2:aW 28:=aY func28
@[simp] theorem ax3:aW 29:=aY func29
@[simp] theorem ax4:aW 34:=aY func34
@[simp] theorem ax5:aW 35:=aY func35
@[simp] theorem ax6:aW 36:=aY func36
@[simp] theorem ax7:aW 37:=aY func37
@[simp] theorem ax8:aW 38:=aY func38
@[simp] theorem ax9:aW 39:=aY func39
@[simp] theorem aya:aW 40:=aY func40
@[simp] theorem ayb:aW 41:=aY func41
@[simp] theorem ayc:aW 42:=aY func42
@[simp] theorem ayd:aW 45:=aY func45
@[simp] theorem aye:aW 47:=aY func47
@[simp] theorem ayf:aW 48:=aY func48
@[simp] theorem ayg:aW 49:=aY func49
@[simp] theorem ayh:aW 50:=aY func50
@[simp] theorem ayi:aW 51:=aY func51
@[simp] theorem ayj:aW 52:=aY func52
@[simp] theorem ayk:aW 53:=aY func53
@[simp] theorem ayl:aW 54:=aY func54
@[simp] theorem aym:aW 55:=aY func55
@[simp] theorem ayn:aW 62:=aY func62
@[simp] theorem ayo:aW 64:=aY func64
@[simp] theorem ayp:aW 65:=aY func65
@[simp] theorem ayq:aW 66:=aY func66
@[simp] theorem ayr:aW 67:=aY func67
@[simp] theorem ays:aW 68:=aY func68
@[simp] theorem ayt:aW 69:=aY func69
@[simp] theorem ayu:aW 70:=aY func70
@[simp] theorem ayv:aW 71:=aY func71
@[simp] theorem ayw:aW 73:=aY func73
@[simp] theorem ayx:aW 74:=aY func74
@[simp] theorem ayy:aW 76:=aY func76
@[simp] theorem ayz:aW 79:=aY func79
@[simp] theorem ayA:aW 80:=aY func80
@[simp] theorem ayB:aW 81:=aY func81
@[simp] theorem ayC:aW 82:=aY func82
@[simp] theorem ayD:aW 83:=aY func83
@[simp] theorem ayE:aW 84:=aY func84
@[simp] theorem ayF:aW 85:=aY func85
@[simp] theorem ayG:aW 86:=aY func86
@[simp] theorem ayH:aW 89:=aY func89
@[simp] theorem ayI:aW 90:=aY func90
@[simp] theorem ayJ:aW 92:=aY func92
@[simp] theorem ayK:aW 93:=aY func93
@[simp] theorem ayL:aW 103:=aY func103
@[simp] theorem ayM:aW 104:=aY func104
@[simp] theorem ayN:aW 105:=aY func105
@[simp] theorem ayO:aW 106:=aY func106
@[simp] theorem ayP:aW 107:=aY func107
@[simp] theorem ayQ:aW 108:=aY func108
@[simp] theorem ayR:aW 109:=aY func109
@[simp] theorem ayS:aW 110:=aY func110
@[simp] theorem ayT:aW 112:=aY func112
@[simp] theorem ayU:aW 113:=aY func113
@[simp] theorem ayV:aW 114:=aY func114
@[simp] theorem ayW:aW 115:=aY func115
@[simp] theorem ayX:aW 116:=aY func116
@[simp] theorem ayY:aW 117:=aY func117
@[simp] theorem ayZ:aW 118:=aY func118
@[simp] theorem ay0:aW 119:=aY func119
@[simp] theorem ay1:aW 127:=aY func127
@[simp] theorem ay2:aW 128:=aY func128
@[simp] theorem ay3:aW 129:=aY func129
@[simp] theorem ay4:aW 130:=aY func130
@[simp] theorem ay5:aW 132:=aY func132
@[simp] theorem ay6:aW 133:=aY func133
@[simp] theorem ay7:aW 134:=aY func134
@[simp] theorem ay8:aW 135:=aY func135
@[simp] theorem ay9:aW 136:=aY func136
@[simp] theorem aza:aW 139:=aY func139
@[simp] theorem azb:aW 145:=aY func145
@[simp] theorem azc:aW 146:=aY func146
@[simp] theorem azd:aW 147:=aY func147
@[simp] theorem aze:aW 148:=aY func148
@[simp] theorem azf:aW 164:=aY func164
@[simp] theorem azg:aW 170:=aY func170
@[simp] theorem azh:aW 171:=aY func171
@[simp] theorem azi:aW 172:=aY func172
@[simp] theorem azj:aW 173:=aY func173
@[simp] theorem azk:aW 174:=aY func174
@[simp] theorem azl:aW 175:=aY func175
@[simp] theorem azm:aW 176:=aY func176
@[simp] theorem azn:aW 178:=aY func178
@[simp] theorem azo:aW 179:=aY func179
@[simp] theorem azp:aW 180:=aY func180
@[simp] theorem azq:aW 182:=aY func182
@[simp] theorem azr:aW 187:=aY func187
@[simp] theorem azs:aW 189:=aY func189
@[simp] theorem azt:aW 190:=aY func190
@[simp] theorem azu:aW 191:=aY func191
@[simp] theorem azv:aW 192:=aY func192
@[simp] theorem azw:aW 193:=aY func193
@[simp] theorem azx:aW 194:=aY func194
@[simp] theorem azy:aW 195:=aY func195
@[simp] theorem azz:aW 196:=aY func196
@[simp] theorem azA:aW 197:=aY func197
@[simp] theorem azB:aW 199:=aY func199
@[simp] theorem azC:aW 200:=aY func200
@[simp] theorem azD:aW 201:=aY func201
@[simp] theorem azE:aW 202:=aY func202
@[simp] theorem azF:aW 206:=aY func206
theorem bN{f}{a b}(e:Tryz.prog.funcs[f]?=θ a)(h:a=b:=by kernel_rfl)(hf:f≠131:=by decide)(hk:kn.contains f=true:=by rfl):ah.funcs[f]?=θ b:=h▸aP e hf hk
theorem bA{t b}(h:Tryz.prog.underlying t=b):ah.underlying t=b:=(cD t).trans h
theorem bB{t}{b:υ->_}(h:∀w,(nI t).run Tryz.prog w=b w)w:(nI t).run ah w=b w:=(akq t w).trans (h w)
theorem bC{t}{b:υ->_}(h:∀w,(qU t).run Tryz.prog w=b w)w:(qU t).run ah w=b w:=(akp t w).trans (h w)
theorem bE{t}{b:υ->_}(h:∀w,(tJ t).run Tryz.prog w=b w)w:(tJ t).run ah w=b w:=(Yk t w).trans (h w)
end Go.Proofs.YtfphigmeppdocaaGreatDoor
namespace Go.Proofs.YtfphigmeppdocaaGreatDoor
namespace Lo
open fV
variable{T:Array ay}{fn:Func}{cs:List Frame}{K:List Frame→υ→Prop}{M:Nat}{o:Oper}{sa:Option bP}{v:ay}{s s' s0 w:υ}
theorem alI(h:s0.heap=((((((s.heap.push (.cells #[] 189)).push (.cells #[] 191)).push (.cells #[] 3)).push (.cells (fo #[.slice η 0 0] 1) 189)).push (.cells #[] 194)).push (.cells #[] 217)).push (.cells #[] 3)):KT s s0 s.heap.size:=by
 refine⟨rfl,by rw[h];simp,λb hb=>?_,?_,?_,?_,?_,?_,?_,?_⟩<;>rw[h]<;>simp only[Array.getElem?_push,Array.size_push]
 .rw[ς (by omega),ς (by omega),ς (by omega),ς (by omega),ς (by omega),ς (by omega),ς (by omega)]
 all_goals (simp;try (repeat rw[ς (by omega)]))
theorem YJ(hop:o.op=.indexAddr 194 (.tmp 3) (.const (.int .i64 0)))(h3:c8 T (.tmp 3)=.slice (θ ⟨M,0,η⟩) 1 1):(aL (c8 T) o).run ah w=.ok (.value (.pointer (θ ⟨M,0,η⟩))) w:=by unfold aL;simp only[hop,h3];have h0:c8 T (.const (.int .i64 0))=.int .i64 0:=rfl;simp[go_sem,h0]
theorem YK{sl sc}(hop:o.op=.store 189 (.tmp 5) (.tmp 4))(h5:c8 T (.tmp 5)=.pointer (θ ⟨M,0,η⟩))(h4:c8 T (.tmp 4)=.slice sa sl sc):(aL (c8 T) o).run ah w=match w.cell? ⟨M,0,η⟩with
   | θ _ => if w.frozen? ⟨M, 0, η⟩ then .halt (.unsupported (.unsafePointer "a write to bytes that a string shares")) w else .ok .skip (w.setCell ⟨M, 0, η⟩ (.slice sa sl sc))
   |none=>match w.farStore ah ⟨M,0,η⟩ (.slice sa sl sc) ο with
    | .ok (w',_)=>.ok .skip w'
    | .error h=>.halt h w:=by
 unfold aL;simp only[hop,h5,h4];simp[go_sem];rw[show (Mode.plain==Mode.atomic)=ο from rfl];cases w.cell? ⟨M,0,η⟩with
 |none=>
  simp only;cases w.farStore ah ⟨M,0,η⟩ (.slice sa sl sc) ο<;>rfl
 |some u=>
  simp only;split<;>rfl
theorem YL{f c}(hm:f.mode=.returning)(hf:ah.funcs[f.fn]?=θ fn)(hres:(results fn f.tmps).run ah s=.ok v s'):(aF ah (f::c::cs)).run ah s=.ok (c.finish v::cs) s':=by unfold aF;simp only[hm,hf];show ((results fn f.tmps).bind λv=>o4 (c.finish v::cs)).run ah s=_;rw[Sem.run_bind',hres];rfl
theorem alJ:Bg.results=#[.tmp 3]:=rfl
theorem YM(h:c8 T (.tmp 3)=v):(results Bg T).run ah s=.ok v s:=by subst h;exact results_tmp (t:=3) alJ T ah s
section
variable {E:List Frame→υ→Prop}{bG:dM→Bool}
theorem behind(hK:F8 K)(Q2:∀fs s,K fs s→fu ah bG E fs s)(hR:∀f cs s,f.mode=.run→¬E (f::cs) s)(hT:T.size=8)(h3:c8 T (.tmp 3)=.slice (θ ⟨M,0,η⟩) 1 1){f}(hm:f.mode=.returning)(hf:ah.funcs[f.fn]?=θ fn)(hres:∀τ d,(results fn f.tmps).run ah (tp s τ d)=.ok v (tp s τ d))(wZ:zb v){c}(h:K (f::fr T [.inRegion gA [7,8,9],.code .ret]::c::cs) s):(∃u,s.cell? ⟨M,0,η⟩=θ u∧s.frozen? ⟨M,0,η⟩=ο)∧K (c.finish (.slice (θ ⟨M,0,η⟩) 1 1)::cs) (s.setCell ⟨M,0,η⟩ v):=by
 obtain⟨sa,sl,sc,rfl⟩:=wZ;have e3:∀a b:ay,c8 ((T.setIfInBounds 4 a).setIfInBounds 5 b) (.tmp 3)=.slice (θ ⟨M,0,η⟩) 1 1:=λa b=>by rw[←h3];show ((T.setIfInBounds 4 a).setIfInBounds 5 b).getD 3 undef=T.getD 3 undef;simp[oZ,lZ]
 have alK :∀a:ay,c8 (T.setIfInBounds 4 a) (.tmp 3)=.slice (θ ⟨M,0,η⟩) 1 1:=λa=>by rw[←h3];show (T.setIfInBounds 4 a).getD 3 undef=T.getD 3 undef;simp[oZ,lZ]
 have h1:=hK.next (d:=0) h (YL hm hf (hres _ 0))
 rw[J4 rfl]at h1;have h2:=hK.next (d:=0) h1 (oC rfl rfl (YJ rfl (alK _)))
 have iK:c8 ((T.setIfInBounds 4 (.slice sa sl sc)).setIfInBounds 5 (.pointer (θ ⟨M,0,η⟩))) (.tmp 5)=.pointer (θ ⟨M,0,η⟩):=by show ((T.setIfInBounds 4 (.slice sa sl sc)).setIfInBounds 5 (.pointer (θ ⟨M,0,η⟩))).getD 5 undef=_;simp[oZ,hT]
 have iJ:c8 ((T.setIfInBounds 4 (.slice sa sl sc)).setIfInBounds 5 (.pointer (θ ⟨M,0,η⟩))) (.tmp 4)=.slice sa sl sc:=by show ((T.setIfInBounds 4 (.slice sa sl sc)).setIfInBounds 5 (.pointer (θ ⟨M,0,η⟩))).getD 4 undef=_;simp[oZ,hT]
 have hrun:=λ(w:υ)=>YK (T:=(T.setIfInBounds 4 (.slice sa sl sc)).setIfInBounds 5 (.pointer (θ ⟨M,0,η⟩))) (o:=gA[9]) (w:=w) (M:=M) rfl iK iJ;have hc:∃u,s.cell? ⟨M,0,η⟩=θ u∧s.frozen? ⟨M,0,η⟩=false:=by
  obtain⟨aV,s1,hr⟩:=PS hR (Q2 _ _ h2) rfl (Bb bG) 0;have hw:=hrun (tp s (λ_ _=>0) 0);cases hc:s.cell? ⟨M,0,η⟩with
  |none=>
   obtain⟨e,he⟩:=af1 (p:=ah) (s:=tp s (λ_ _=>0) 0) ⟨M,0,η⟩ (v:=.slice sa sl sc) rfl ο;have dV:(tp s (λ_ _=>0) 0).cell? ⟨M,0,η⟩=none:=hc;rw[dV]at hw;simp only[he]at hw;cases hr.symm.trans (J6 (o:=gA[9]) rfl rfl hw)
  |some u=>
   cases hz:s.frozen? ⟨M,0,η⟩with
   |true=>
    have dV:(tp s (λ_ _=>0) 0).cell? ⟨M,0,η⟩=θ u:=hc;have iZ:(tp s (λ_ _=>0) 0).frozen? ⟨M,0,η⟩=true:=hz;rw[dV]at hw;simp only[iZ,dF]at hw;cases hr.symm.trans (J6 (o:=gA[9]) rfl rfl hw)
   |false=>exact⟨u,rfl,rfl⟩
 refine⟨hc,?_⟩;obtain⟨u,hc,hz⟩:=hc;have hw:(aL (c8 ((T.setIfInBounds 4 (.slice sa sl sc)).setIfInBounds 5 (.pointer (θ ⟨M,0,η⟩)))) gA[9]).run ah (tp s (λ_ _=>0) 0)=.ok .skip ((tp s (λ_ _=>0) 0).setCell ⟨M,0,η⟩ (.slice sa sl sc)):=by have hw:=hrun (tp s (λ_ _=>0) 0);have dV:(tp s (λ_ _=>0) 0).cell? ⟨M,0,η⟩=θ u:=hc;have iZ:(tp s (λ_ _=>0) 0).frozen? ⟨M,0,η⟩=false:=hz;rw[dV]at hw;simpa only[iZ,Bool.false_eq_true,fh]using hw
 have h4:=hK.next (d:=0) h2 (aiB (o:=gA[9]) rfl rfl hw)
 have h5:=hK.next (d:=0) h4 J3
 have h6:=hK.next (d:=0) h5 aiA
 have h7:=hK.next (d:=0) h6 (YL (v:=.slice (θ ⟨M,0,η⟩) 1 1) rfl PO (YM (e3 _ _)))
 exact hK.tp (τ:=λ_ _=>0) (d:=0) h7
end
theorem YN{S}{Q}f cs s(hm:f.mode=.run):¬o6 S Q (f::cs) s:=by
 rintro⟨fr,e,hm',_⟩;cases e
 rw[hm]at hm';cases hm'
theorem YO:143≠131:=by decide
theorem alL:kn.contains 143=true:=by kernel_rfl
theorem alM{ag}{bL}{N}{news paths}{s0}(vQ:∀b,ag b->b<N\/b=N+5)(hsub:∀b,ag b->jh bL N b)(hsh:Sh no s0)(hsend:∀τ d,Ξ ah 143 #[news,paths,.int .i64 0,.int .i64 1] (tp s0 τ d) λe _=>∃v,e=.returned v/\zb v){Q}{K}(hK:tS ah (eX 131) K)(Q2:∀fs s,K fs s->fu ah (eX 131) (o6 ah Q) fs s){T}(hT:T.size=8)(h3:c8 T (.tmp 3)=.slice (θ ⟨N+3,0,η⟩) 1 1){c}{cs}(hb:K (Frame.enter ah 143 #[news,paths,.int .i64 0,.int .i64 1] .normal::fr T [.inRegion gA [7,8,9],.code .ret]::c::cs) s0):DK ah (λf=>kn.contains f) 131 ag bL N news paths s0 /\
  ∀v s' wf,Qw ah bL N news paths s0 v s' wf->K (c.finish (.slice (θ ⟨N+3,0,η⟩) 1 1)::cs) (s'.setCell ⟨N+3,0,η⟩ v):=by
 have F:=oB.2;have hall:vn ah [Frame.enter ah 143 #[news,paths,.int .i64 0,.int .i64 1] .normal]:=⟨gz.enter F Xq rfl _,λ_ h=>by cases h⟩;have hwf:WF ah [Frame.enter ah 143 #[news,paths,.int .i64 0,.int .i64 1] .normal] s0:=⟨hall.at _,hsh⟩;have DM:jc ah (KH ah) [Frame.enter ah 143 #[news,paths,.int .i64 0,.int .i64 1] .normal] s0:=
  ah7 F hwf λτ d=>(hsend τ d).mono λe w' ⟨v,h1,h2⟩=>⟨v,h1,h2⟩
 have key:∀fr' s' fn v,sA ah [Frame.enter ah 143 #[news,paths,.int .i64 0,.int .i64 1] .normal] s0 [fr'] s'->fr'.mode=.returning->ah.funcs[fr'.fn]?=θ fn->(∀τ d,(results fn fr'.tmps).run ah (tp s' τ d)=.ok v (tp s' τ d)) ->
   (∃u,s'.cell? ⟨N+3,0,η⟩=θ u/\s'.frozen? ⟨N+3,0,η⟩=ο)/\K (c.finish (.slice (θ ⟨N+3,0,η⟩) 1 1)::cs) (s'.setCell ⟨N+3,0,η⟩ v):=by
  intro fr' s' fn v hrc hm hf hres;obtain⟨_,_,hz⟩:=aiz F (sx _ _) hK (λx cs s h=>Xo h) hwf (λf hf=>by
   rw[List.mem_singleton]at hf;subst hf;exact YO) DM hrc
  have wZ:zb v:=by
   cases sA.bar (sx _ _) DM hrc with
   |stop he=>
    obtain⟨FU,e,_,azG,v2,xw,hr2,hs2⟩:=he;(cases e);(rw[hf]at xw;cases xw);have:=(hres s'.tape s'.drawn).symm.trans (hr2 s'.tape s'.drawn);(cases this);exact hs2
   |step h1 _=>
    obtain⟨aV,s1,hr⟩:=h1 s'.tape s'.drawn;obtain⟨why,hh⟩:=Xf (S:=ah) hm (tp s' s'.tape s'.drawn);cases hr.symm.trans hh
  exact behind (PT hK) Q2 YN hT h3 hm hf hres wZ (hz _ hb)
 refine⟨⟨oB.1,λx cs s h=>Xo h,vQ,hsub,alL,YO,hall,F,DM,λfr' s' fn v a b c d=>(key fr' s' fn v a b c d).1⟩,λv s' wf hc=>?_⟩;obtain⟨_,⟨fr',fn,a1,a2,a3,a4⟩,_⟩:=hc;exact(key fr' s' fn v a1 a2 a3 a4).2
variable{T x x0 y:Array ay}{A:Ending->υ->Prop}{cs ep:List Frame}{n:Nat}{s s0:υ}
def rj(x y:ay):Value:=.func (.func 143) #[x,y,.int .i64 1,undef,undef,undef,undef,undef] #[]
def Sends(H:Array Obj)(x y:ay):Prop:=∀w:υ,(∀b,b<H.size->w.heap[b]?=H[b]?)->Ξ ah 143 #[x,y,.int .i64 0,.int .i64 1] w λe _=>∃v,e=.returned v/\zb v
def ji(H:Array Obj):Prop:=∃(K6:Array Obj) (na:Option bP) (nl au:Nat) (pa:Option bP) (pl pc:Nat),H=K6.push (.cells #[rj (.slice na nl au) (.slice pa pl pc)] 3)/\Sends K6 (.slice na nl au) (.slice pa pl pc)
theorem eight(h:T.size=8):T=#[T.getD 0 undef,T.getD 1 undef,T.getD 2 undef,T.getD 3 undef,T.getD 4 undef,T.getD 5 undef,T.getD 6 undef,T.getD 7 undef]:=by
 obtain⟨l⟩:=T
 match l,h with
 |[a,b,c,d,e,f,g,i],_=>rfl
theorem alN(hx:x.size<=8):((T2 x).getD 7 undef).cells=#[.func (.func 143) (T1 x) #[]]:=by
 have h1:(T2 x).getD 7 undef=.func (.func 143) ((#[.tmp 0,.tmp 1,.tmp 2,.tmp 3,.tmp 4,.tmp 5,.tmp 6,.tmp 7]:Array Operand).map (c8 (T1 x))) ((#[]:Array Operand).map (c8 (T1 x))):=by unfold T2;simp[oZ,PU hx]
 rw[h1];have h2:((#[.tmp 0,.tmp 1,.tmp 2,.tmp 3,.tmp 4,.tmp 5,.tmp 6,.tmp 7]:Array Operand).map (c8 (T1 x)))=T1 x:=by rw[eight (PU hx)];simp only[List.map_toArray,List.map_cons,List.map_nil];rfl
 rw[h2];simp only[List.map_toArray,List.map_nil];rfl
theorem YP(hn:8<=n)(hx:x.size<=8):x++Δ (n-x.size) undef=T1 x++Δ (n- 8) undef:=by unfold T1;rw[Array.append_assoc,Array.replicate_append_replicate];congr 2;omega
theorem alO(hx:x.size<=8)(hy:y.size<=8)(h:T1 x=T1 y):Frame.enter ah 131 x .normal=Frame.enter ah 131 y .normal/\Frame.enter Tryz.prog 131 x .normal=Frame.enter Tryz.prog 131 y .normal:=by
 refine⟨?_,?_⟩
 .rw[J2,J2];show fr (T1 x) _=fr (T1 y) _;rw[h]
 .have e:x++Δ (Tryz.f131.ntmps-x.size) undef=y++Δ (Tryz.f131.ntmps-y.size) undef:=by rw[YP (by decide+kernel) hx,YP (by decide+kernel) hy,h]
  simp only[Frame.enter,Tryz.func131,nK,Ω,e]
theorem YQ(hwf:WF ah ep s0):F7 (Rec ah ep s0):=⟨λh hr=>h.step oB.2 hwf hr,λh=>h⟩
theorem alP{fl}(hwf:WF ah [Frame.enter ah fl x0 .normal] s0)(hA:∀e w',A e w'->(∃v,e=.returned v)\/∃ch,e=.panicked ch/\ji w'.heap)(hC:∀τ d,Ξ ah fl x0 (tp s0 τ d) A)(BA:Rec ah [Frame.enter ah fl x0 .normal] s0 (Frame.enter ah 131 x .normal::cs) s)(hx:x.size<=8):∃na nl au pa pl pc,(T1 x=#[.slice na nl au,.slice pa pl pc,.int .i64 1,undef,undef,undef,undef,undef])/\Sends s.heap (.slice na nl au) (.slice pa pl pc):=by have h1:=PW (YQ hwf).z hx BA;obtain⟨aM,s',h2,hh⟩:=Xn (YQ hwf) (PV hx) h1;obtain⟨n,τ,d,hg⟩:=h2;obtain⟨v,hv⟩:=Xm (T:=aM) (cs:=cs) (tp s' τ d);obtain⟨K6,na,nl,au,pa,pl,pc,e1,e2⟩:=aiq oB.2 hwf hA (hC τ 0) hg hv;have e3:s'.heap=K6.push (.cells #[rj (.slice na nl au) (.slice pa pl pc)] 3):=e1;rw[hh,alN hx]at e3;obtain⟨iJ,iK⟩:=Array.push_eq_push.1 e3;refine⟨na,nl,au,pa,pl,pc,?_,by rw[iK];exact e2⟩;simp only[Obj.cells.injEq]at iJ;have KU:=iJ.1;simp only[rj,Array.mk.injEq,List.cons.injEq,Value.func.injEq]at KU;exact KU.1.2.1
end Lo
end Go.Proofs.YtfphigmeppdocaaGreatDoor
namespace Go.Proofs.YtfphigmeppdocaaGreatDoor
namespace fV
open Go.Conc Go.ConcN Lo
open Go.ConcR (KK wgBlock WgAt stA smA rd wr mk Payload DC0 deafBehind_cons deafBehind_one)
variable{es:Array eU}{ag:Nat->Prop}{P:Program}{v:ay}{w w':υ}
theorem alQ{f}{fn}(hp:Plain f)(hm:f.mode=.returning)(hf:P.funcs[f.fn]?=θ fn)(hi:P.inits.idxOf? f.fn=η)(hr:(results fn f.tmps).runT P w #[]=(.ok v w',es)):bh P ν (G f []) w=.ended (.done v) w' (seen P f.fn es):=by obtain⟨jy,tmps,todo,defers,mode,kind,roundOf⟩:=f;obtain⟨h1,h2,h3⟩:=hp;simp only at h1 h2 h3 hm hf hi hr;subst h1 h2 h3 hm;simp only[Conc.G,bh,nH,hf,hr,doReturn,yJ,hi];simp
theorem alR{a}{Post}(hr:a.status=.running)(hstep:∀d,∃v w' es,bh P ν a (w.at d)=.ended (.done v) w' es/\w.heap.size<=w'.heap.size/\(∀e∈es,P3 ag w'.heap.size e)/\Post v w'):∀(M:Nat) (gs:Array Goroutine) (q:Nat->Nat) (d:Nat) (sl:Option (Nat×Nat)) (t:gS),dN gs.size q<=M->gs[0]?=θ a->Fr P ag gs q (w.at d) t->Ends P Post (dG gs (w.at d) sl) t:=by
 intro M;induction M with
 |zero=>
  intro gs q d sl t hM h0 h;rcases Dr h0 hr h sl with⟨d',sl',hst⟩|⟨gs',q',d',sl',ops,_,_,_,_,hlt⟩
  .exact fin d' sl' hst h0 h
  .omega
 |succ M ih=>
  intro gs q d sl t hM h0 h;rcases Dr h0 hr h sl with⟨d',sl',hst⟩|⟨gs',q',d',sl',ops,hst,h0',hs',nN,hlt⟩
  .exact fin d' sl' hst h0 h
  .exact .step hst (ih gs' q' d' sl' _ (by rw[hs'];omega) h0' nN)
 where
 fin {gs:Array Goroutine}{q:Nat->Nat}{d:Nat}{sl:Option (Nat×Nat)}{t:gS} (d':Nat) (sl':Option (Nat×Nat)) (hst:stepT P (dG gs (w.at d) sl)=runT P (dG gs ((w.at d).at d') sl') 0) (h0:gs[0]?=θ a) (h:Fr P ag gs q (w.at d) t):
   Ends P Post (dG gs (w.at d) sl) t:=by
  obtain⟨v,w',es,hend,hsz,hes,hpost⟩:=hstep d';have xh:=runT_many_ended (P:=P) (sl:=sl') (i:=0) h0 (show bh P (0==0) a ((w.at d).at d')=_ from hend);have YR:=hst.trans xh;have htr:=h.tr;have hT:e4 (mm ag) (λ_ _=>False) (λ_ _=>False) (gs.size- 1) (gs.size- 1) w'.heap.size (t++MemOp.ofEvents 0 a.frame.fn a.frame.place es):=by
   refine(htr.mono hsz).app0 PZ (λop hop=>?_) (λop hop=>?_)
   .obtain⟨e,he,rfl⟩:=kE hop;exact⟨rfl,λx hx=>.inr ⟨(hes e he).1 x hx,λ_ _ _ hf=>hf,λ_ _ _ _ hf=>hf⟩⟩
   .obtain⟨e,he,rfl⟩:=kE hop;exact(hes e he).2.2.2
  refine⟨0,dG gs (w.at d) sl,_,_,t++MemOp.ofEvents 0 a.frame.fn a.frame.place es,by simp only[runNT,YR],rfl,by simp only[Go.step,YR],v,rfl,hpost,hT.ct.nr,hT.start,⟨λx hx=>?_,rfl⟩,λj x hx hj=>?_⟩
  .obtain⟨j,hj⟩:=List.mem_iff_getElem?.1 hx;rw[List.getElem?_drop]at hj;exact⟨_,(h.lv (1+j) x (by omega) (by simpa[dG]using hj)).leaves⟩
  .have hq:=h.lv j x (by omega) hx;refine⟨q j,?_⟩;have e:(t++MemOp.ofEvents 0 a.frame.fn a.frame.place es).deaf j (t++MemOp.ofEvents 0 a.frame.fn a.frame.place es).size=Deaf t j:=
    l6 t (g:=j) (g':=0) (by omega) _ ofEvents_g
   rw[e];exact hq.hears _
end fV
end Go.Proofs.YtfphigmeppdocaaGreatDoor
namespace Go.Proofs.YtfphigmeppdocaaGreatDoor
namespace fV
open Go.Conc Go.ConcN Lo
variable{u:Array eU}{x:Array ay}{e:eU}{cs:List Frame}{B:Nat}{ag:Nat→Prop}{bG:dM→Bool}{W s s' w w':υ}{bL:cV}
abbrev sp:FuncId:=131
abbrev ok:FuncId→Bool:=λf=>kn.contains f
theorem YS(vQ:∀b,ag b→bL b)(h:C6 bL B e):P3 ag B e:=by
 rcases h with⟨m,rfl|⟨f,rfl⟩,rfl⟩|⟨a,wr,rfl,h1,h2⟩|⟨r,wr,sy,rfl,h1⟩
 .exact⟨(λx hx=>by cases hx),by simp,by simp,(λx hx=>by cases hx)⟩
 .exact⟨(λx hx=>by cases hx),by simp,by simp,(λx hx=>by cases hx)⟩
 .refine⟨λx hx=>?_,by simp,by simp,λx hx=>?_⟩
  .simp only[vu,sI,Γ]at hx;subst hx;rintro⟨a',ha,hs⟩;(cases ha);exact h2 (vQ _ hs)
  .simp only[vu,sI,Γ]at hx;subst hx;exact h1
 .refine⟨λx hx=>?_,by simp,by simp,λx hx=>?_⟩
  .cases wr<;>cases sy<;>first|(cases hx;done)|(have hx':=hx;cases hx';rintro⟨a1,e1,_⟩;cases e1)
  .cases wr<;>cases sy<;>first|(cases hx;done)|(have hx':=hx;cases hx';exact h1)
structure qj(W:υ)(bL:cV)(w:υ):Prop where
 size:W.heap.size≤w.heap.size
 low:∀b,bL b→W.heap.size≤b
 v:bL.v=λb=>W.heap[b]?
 out:w.os=W.os∧w.output=W.output∧w.tape=W.tape
theorem qj.goes(h:qj W bL w)(g:u7 bL s s' w w' u):qj W bL w':=
 ⟨Nat.le_trans h.size g.kept.size,h.low,h.v,⟨g.kept.os.trans h.out.1,g.kept.out.trans h.out.2.1,g.kept.tape.trans h.out.2.2⟩⟩
theorem qj.at(h:qj W bL w)d:qj W bL (w.at d):=⟨h.size,h.low,h.v,h.out⟩
def xx(fs:List Frame):Prop:=∀f∈fs,ok f.fn=ν∧f.fn≠sp
def Q3(ep:List Frame)(s0 W:υ)(Post:ay→υ→Prop)(fs:List Frame)(s:υ):Prop:=
 Rec ah ep s0 fs s→∀(gs:Array Goroutine) (q:Nat→Nat) (w:υ) (t:gS) (sl:Option (Nat×Nat)) (ag:Nat→Prop) (bL:cV) (f':Frame) (cs':List Frame),
  gs[0]?=θ (G f' cs')→Fr Tryz.prog ag gs q w t→((fs=f'::cs'∧xx fs)∨∃x c cs,fs=Frame.enter ah sp x .normal::c::cs∧f'=Frame.enter Tryz.prog sp x .normal∧cs'=c::cs∧xx (c::cs))→di bL s w→(∀b,ag b→bL b)→qj W bL w→fO bL ah fs s→
  Ends Tryz.prog Post (dG gs w sl) t
theorem alS:kn.all (λf=>(Tryz.prog.inits.idxOf? f).isNone)=true:=by kernel_rfl
theorem alT{f}(h:ok f=ν):Tryz.prog.inits.idxOf? f=none:=by have:=List.all_eq_true.1 alS f (List.contains_iff_mem.1 h);simpa using this
theorem YT{f}{fn}{Q:ay→Array Obj→Prop}(hf:ah.funcs[f]?=θ fn)(hb:∃why,fn.body=θ (.refuse why))(h:fu ah bG (o6 ah Q) (Frame.enter ah f x .normal::cs) s):False:=by
 obtain⟨why,hb⟩:=hb;cases h with
 |stop he=>
  obtain⟨fr,e,hm,_⟩:=he;cases e
  simp[Frame.enter]at hm
 |step h1 _=>
  obtain⟨aV,s1,hr⟩:=h1 (λ_ _=>0) 0 (Bb bG)
  have : aF ah (Frame.enter ah f x .normal :: cs) = oz "not here" := by simp [aF,Frame.enter,hf,hb]
  rw[this]at hr;simp[oz]at hr
theorem xx.step{bG:dM→Bool}{Q:ay→Array Obj→Prop}{fs aV}{s s1}{bL}(hall:fO bL ah aV s1)(h:xx fs){τ:Nat→dM→Nat}{d}(hr:(aF ah fs).run ah (tp s τ d)=.ok aV s1)(hB:fu ah bG (o6 ah Q) aV s1)(hne:∀x,aV≠Frame.enter ah sp x .normal::fs):xx aV:=by
 cases fs with
 |nil=>exact absurd hr (PG _ _ _)
 |cons f cs=>
  rcases PL hr with ht|⟨g,y,rfl⟩
  .intro fr hfr;obtain⟨f0,h0,e⟩:=ht fr hfr;rw[e];exact h f0 h0
  .obtain⟨GD,hg⟩:=hall.known;have hg':=hg;intro fr hfr;rcases List.mem_cons.1 hfr with rfl|hfr
   .refine⟨?_,λe=>?_⟩
    .show ok g=ν;cases A4:ok g with
     |true=>rfl
     |false=>exact(YT hg' (oB.1.dead g GD A4 hg') hB).elim
    .have e':g=sp:=e;subst e';exact hne y rfl
   .exact h fr hfr
theorem alU{c}(h:xx (c::cs))v:xx (c.finish v::cs):=by
 intro f hf;rcases List.mem_cons.1 hf with rfl|hf
 .rw[Dk];exact h c List.mem_cons_self
 .exact h f (List.mem_cons_of_mem _ hf)
def YU(fs:List Frame)(s:υ)(fs':List Frame)(s':υ):Prop:=(fs'=fs∧∃τ d,tp s' τ d=s)∨qf ah (eX sp) fs s fs' s'
theorem alV fs s:tS ah (eX sp) (YU fs s):=by
 refine⟨λ{aV vo s1 s2 τ d} h hz hr=>?_,λ{aV s1 τ d} h=>?_⟩
 .rcases h with⟨rfl,fK,d',rfl⟩|h
  .exact .inr (.one (τ:=τ) (d:=d) hz (by rw[q4];exact hr))
  .exact .inr (.more h hz hr)
 .rcases h with⟨rfl,fK,d',e⟩|h
  .exact .inl ⟨rfl,fK,d',e⟩
  .exact .inr (.tp h)
variable{gs:Array Goroutine}{x x0:Array ay}{A:Ending->υ->Prop}{cs:List Frame}{N:Nat}{q:Nat->Nat}{ag:Nat->Prop}{sl:Option (Nat×Nat)}{t:gS}{d e g h v:ay}{W s s' s0 w w':υ}{bL:cV}
theorem alW{a b c f}(hT:T1 x=#[a,b,c,d,e,f,g,h]):c8 (T2 x) (.tmp 0)=a/\c8 (T2 x) (.tmp 1)=b/\c8 (T2 x) (.tmp 2)=c:=by
 have key:∀j,j≠7->(T2 x).getD j undef=(#[a,b,c,d,e,f,g,h]:Array ay).getD j undef:=λj hj=>by unfold T2;rw[<-hT];simp[oZ,lZ (jx hj)]
 exact⟨key 0 (by decide),key 1 (by decide),key 2 (by decide)⟩
theorem DR{a}b(h:b≠a.block):(w.setCell a v).heap[b]?=w.heap[b]?:=by simp only[eV,q6];rw[ς (jx h)]
theorem alX{news paths}{wf}(hwr:di (jh bL N) s' wf)(hk:jg N news paths wf)(h1:∀b,b≠N+3->b≠N+5->b≠N->w'.heap[b]?=wf.heap[b]?)(h2:w'.heap.size=wf.heap.size)(h3:w'.heap[N+3]?=(wf.setCell ⟨N+3,0,η⟩ v).heap[N+3]?)(h4:DC N 1 w')(h5:dy lk.tWg (N+5) w'):di (jh bL N) (s'.setCell ⟨N+3,0,η⟩ v) w':=by
 have azH:¬(jh bL N) (N+3)->True:=λ_=>trivial;by_cases aB:(jh bL N) (N+3)
 .obtain⟨t,c,e1,e2⟩:=hwr.bad _ aB;refine⟨by simp[eV,hwr.size,h2],λb hb=>?_,λb hb=>?_,λb o x hb=>?_⟩
  .have e:b≠N+3:=λe=>hb (e▸aB);rw[DR b e,h1 b e (λe=>hb (.inr (by omega))) (λe=>hb (.inr (by omega)))];exact hwr.same b hb
  .by_cases e3:b=N+3
   .subst e3;rw[h3];refine⟨t,c.setIfInBounds 0 v,?_,?_⟩
    .simp[eV,q6,e1]
    .simp[eV,q6,e2]
   .rw[DR b e3];by_cases iK:b=N+5
    .subst iK;obtain⟨t,c,h6,h7⟩:=hwr.bad _ hb;obtain⟨st,sm,hv⟩:=hk.live;obtain⟨st',sm',hv'⟩:=h5;have:=h7.symm.trans hv;simp only[ConcR.wgBlock,Γ,Obj.cells.injEq]at this;obtain rfl:t=lk.tWg:=this.2.1;exact⟨_,_,h6,hv'⟩
    .by_cases e0:b=N
     .subst e0;obtain⟨t,c,h6,h7⟩:=hwr.bad _ hb;obtain⟨c1,h8,_⟩:=hk.pN;obtain⟨c2,h9,_⟩:=h4;have:=h7.symm.trans h8;simp only[Γ,Obj.cells.injEq]at this;exact⟨_,c2,this.2.1▸h6,h9⟩
     .rw[h1 b e3 iK e0];exact hwr.bad b hb
  .have e:b≠N+3:=λe=>hb (e▸aB);rw[DR b e,h1 b e (λe=>hb (.inr (by omega))) (λe=>hb (.inr (by omega)))];exact hwr.old b o x hb
 .have f1:C7 λo=>match o with|Obj.cells c elem frozen=>Obj.cells (if(⟨N+3,0,η⟩:bP).spot.isSome then c else c.setIfInBounds (⟨N+3,0,η⟩:bP).off v) elem frozen|o=>o:=by intro o;cases o<;>first|exact .inl rfl|exact .inr ⟨_,_,_,_,_,_,rfl,rfl⟩
  have hm:di (jh bL N) (s'.setCell ⟨N+3,0,η⟩ v) (wf.setCell ⟨N+3,0,η⟩ v):=hwr.modify aB f1;have h1' :∀b,b≠N+5->b≠N->w'.heap[b]?=(wf.setCell ⟨N+3,0,η⟩ v).heap[b]?:=λb iK e0=>by
   by_cases e3:b=N+3
   .subst e3;exact h3
   .rw[DR b e3];exact h1 b e3 iK e0
  refine⟨by rw[hm.size];simp[eV,h2],λb hb=>?_,λb hb=>?_,λb o x hb=>?_⟩
  .rw[h1' b (λe=>hb (.inr (by omega))) (λe=>hb (.inr (by omega)))];exact hm.same b hb
  .by_cases iK:b=N+5
   .subst iK;obtain⟨t,c,h6,h7⟩:=hwr.bad _ hb;obtain⟨st,sm,hv⟩:=hk.live;obtain⟨st',sm',hv'⟩:=h5;have:=h7.symm.trans hv;simp only[ConcR.wgBlock,Γ,Obj.cells.injEq]at this;obtain rfl:t=lk.tWg:=this.2.1;exact⟨_,_,by rw[DR _ (by show N+5≠N+3;omega)];exact h6,hv'⟩
   .by_cases e0:b=N
    .subst e0;obtain⟨t,c,h6,h7⟩:=hwr.bad _ hb;obtain⟨c1,h8,_⟩:=hk.pN;obtain⟨c2,h9,_⟩:=h4;have:=h7.symm.trans h8;simp only[Γ,Obj.cells.injEq]at this;exact⟨_,c2,by rw[DR _ (by show b≠b+3;omega)];exact this.2.1▸h6,h9⟩
    .rw[h1' b iK e0];exact hm.bad b hb
  .rw[h1' b (λe=>hb (.inr (by omega))) (λe=>hb (.inr (by omega)))];exact hm.old b o x hb
theorem alY{fl}{Q}{Post}(xy:WF ah [Frame.enter ah fl x0 .normal] s0)(hA:∀e w',A e w'->(∃v,e=.returned v)\/∃ch,e=.panicked ch/\ji w'.heap)(hC:∀τ d,Ξ ah fl x0 (tp s0 τ d) A){c}(hB:fu ah (eX sp) (o6 ah Q) (Frame.enter ah sp x .normal::c::cs) s)(BA:Rec ah [Frame.enter ah fl x0 .normal] s0 (Frame.enter ah sp x .normal::c::cs) s)(ih:∀fs' s',qf ah (eX sp) (Frame.enter ah sp x .normal::c::cs) s fs' s'->Q3 [Frame.enter ah fl x0 .normal] s0 W Post fs' s')(h0:gs[0]?=θ (G (Frame.enter Tryz.prog sp x .normal) (c::cs)))(xu:Fr Tryz.prog ag gs q w t)(hfs:xx (c::cs))(hwr:di bL s w)(vQ:∀b,ag b->bL b)(hK:qj W bL w)(hall:tP ah (c::cs)):Ends Tryz.prog Post (dG gs w sl) t:=by
 have F:=oB.2;have hx:=few (sx _ _) YN hB;obtain⟨na,nl,au,pa,pl,pc,hT,hS⟩:=alP xy hA hC BA hx;let K:List Frame->υ->Prop:=λfs' s'=>(fu ah (eX sp) (o6 ah Q) fs' s'/\Rec ah [Frame.enter ah fl x0 .normal] s0 fs' s')/\YU (Frame.enter ah sp x .normal::c::cs) s fs' s';have hq:tS ah (eX sp) K:=((aiu (sx _ _)).and (aiv F _ xy)).and (alV _ _);have k0:K (Frame.enter ah sp x .normal::c::cs) s:=⟨⟨hB,BA⟩,.inl ⟨rfl,s.tape,s.drawn,rfl⟩⟩;obtain⟨g0,g1,g2⟩:=alW hT;obtain⟨aM,s1,k1,lq,h3,hheap⟩:=aiI (PT hq) (PV hx) g2 (PW (PT hq) hx k0);rw[g0,g1]at k1;have hN:=hwr.size;have rf:=alI hheap;rw[hN]at rf h3;have hsh:=(k1.1.2.wf F xy).sh;obtain⟨ef,alZ⟩:=alM (ag:=more ag (w.heap.size+5)) (bL:=bL) (N:=w.heap.size) (λb hb=>hb.imp (xu.sb b) id) (λb hb=>by
   rcases hb with hb|hb
   .exact .inl (vQ b hb)
   .exact .inr (.inr (.inr (.inr (.inr (.inl hb)))))) hsh (λτ d=>hS (tp s1 τ d) λb hb=>rf.old b (by omega)) hq (λ_ _ k=>k.1.1) lq h3 k1
 have hlt:∀b,bL b->b<w.heap.size:=λb hb=>by obtain⟨_,_,_,h⟩:=hwr.bad b hb;exact(ξ.1 h).1
 have hx3:T1 x=T1 #[.slice na nl au,.slice pa pl pc,.int .i64 (1:Nat)]:=by rw[hT];rfl
 rw[(alO hx (by show (3:Nat)<=8;omega) hx3).2]at h0;refine aj2 ef rf hwr hlt h0 xu (λgs' w' sl' t' q' YV F' fJ xj hout=>?_) sl;obtain⟨v,s',wf,Bx,f1,f2,f3,f4⟩:=fJ;have k2:=alZ v s' wf Bx;have al0:qf ah (eX sp) (Frame.enter ah sp x .normal::c::cs) s (c.finish (.slice (θ ⟨w.heap.size+3,0,η⟩) 1 1)::cs) (s'.setCell ⟨w.heap.size+3,0,η⟩ v):=by
  rcases k2.2 with⟨e,_⟩|h
  .have:=jM List.length e;simp at this
  .exact h
 have hsz:w.heap.size<=w'.heap.size:=by have h6:=OZ Bx.2.2.2.cN;rw[f2];exact Nat.le_of_lt h6
 refine ih _ _ al0 k2.1.2 gs' q' w' t' sl' (more ag (w.heap.size+5)) (jh bL w.heap.size) _ cs YV F' (.inl ⟨rfl,alU hfs _⟩) (alX Bx.2.2.1 Bx.2.2.2 f1 f2 f3 f4 xj) ef.hsub
  ⟨Nat.le_trans hK.size hsz,λb hb=>?_,hK.v,⟨hout.1.trans hK.out.1,hout.2.1.trans hK.out.2.1,hout.2.2.trans hK.out.2.2⟩⟩
  (vn.at (tP.f (all_cons.2 ⟨(all_cons.1 hall).1.finish _,(all_cons.1 hall).2⟩)) _)
 have:=hK.size;rcases hb with hb|hb
 .exact hK.low b hb
 .omega
variable{x0:Array ay}{A:Ending->υ->Prop}{fs:List Frame}{W s s0 w:υ}{bL:cV}
theorem YW(h:di bL s w)τ d d':di bL (tp s τ d) (w.at d'):=⟨h.size,h.same,h.bad,h.old⟩
theorem outer{fl}{Q}{Post}(xy:WF ah [Frame.enter ah fl x0 .normal] s0)(hA:∀e w',A e w'->(∃v,e=.returned v)\/∃ch,e=.panicked ch/\ji w'.heap)(hC:∀τ d,Ξ ah fl x0 (tp s0 τ d) A)(Q4:∀v s' w' bL,Q v s'.heap->di bL s' w'->qj W bL w'->Post v w')(hB:fu ah (eX sp) (o6 ah Q) fs s):Q3 [Frame.enter ah fl x0 .normal] s0 W Post fs s:=by
 have F:=oB.2;refine aix (P:=Q3 [Frame.enter ah fl x0 .normal] s0 W Post) (sx _ _) (λfs s hB ih=>?_) hB;intro BA gs q w t sl ag bL f' cs' h0 xu hrel hwr vQ hK hall;rcases hrel with⟨rfl,hfs⟩|⟨x,c,cs,rfl,rfl,rfl,hfs⟩
 .obtain⟨hok,hsp⟩:=hfs f' List.mem_cons_self;obtain⟨fn0,fn',e1,e2,e3,_⟩:=oB.1.same f'.fn hok;have e3:=e3 hsp;subst e3;have hpl:=hall.plain;cases hB with
  |stop hE=>
   obtain⟨fr,he,hm,fn,v,hfn,hres,hQ⟩:=hE;obtain⟨rfl,rfl⟩:=List.cons.inj he;rw[e1]at hfn;(cases hfn);refine alR (w:=w) (ag:=ag) rfl (λd=>?_) (dN gs.size q) gs q w.drawn sl t (Nat.le_refl _) h0 xu;have hw0:=YW hwr w.tape d d;obtain⟨_,_,_,hw⟩:=((FY (av:=sp) (ag:=bL) oB.1.sm fn' f'.tmps) (tp s w.tape d) hw0.sh).2 _ _ (hres w.tape d);obtain⟨v',w',u,r,rfl,g⟩:=hw (w.at d) #[] hw0 (λi q _ _=>rfl);refine⟨v,w',_,alQ hpl hm e2 (alT hok) r,g.kept.size,λe he=>?_,Q4 v (tp s w.tape d) w' bL hQ g.wr ((hK.at d).goes g)⟩;have:=Ko he;rw[Kf]at this;exact YS vQ (g.ev e this)
  |step h1 h2=>
   refine Xu (w:=w) (gs:=gs) (ag:=ag) rfl (λd=>?_) (dN gs.size q) gs q w.drawn sl t (Nat.le_refl _) h0 rfl xu;obtain⟨aV,s1,hr⟩:=h1 (tR sp w.tape) d (J1 sp w.tape);have jW:=h2 _ _ _ _ (J1 sp w.tape) hr;have hw0:=YW hwr (tR sp w.tape) d d;have hall:=hall.tp (tR sp w.tape) d;have jX:=yV F hall hw0.sh hr;obtain⟨_,_,hd⟩:=(JU oB.1 hall hw0.sh hok hsp).2 _ _ hr;rcases hd with⟨g,y,hg,rfl⟩|hw
   .obtain⟨GD,YX⟩:=jX.known;exact(YT YX (oB.1.dead g GD hg YX) jW).elim
   .obtain⟨l,w',u,r,hl,g⟩:=hw (w.at d) #[] hw0 (λi q hz _=>(Xh sp w.tape _ q hz).symm);obtain⟨f1,w8,rfl,hst⟩:=JK hpl r ν [] ⟨_,e2⟩;rw[List.append_nil,List.append_nil]at hst;refine⟨_,w',_,hst,⟨g.kept.size,λe he=>?_⟩,λgs' q' sl' t' g0 _ nN=>ih _ _ (.one (J1 sp w.tape) hr) (BA.step F xy hr) gs' q' w' t' sl' ag bL f1 w8 g0 nN ?_ g.wr vQ ((hK.at d).goes g) jX⟩
    .have:=Ko he;rw[Kf]at this;exact YS vQ (g.ev e this)
    .rcases hl with⟨rfl,hne⟩|⟨x,rfl,e⟩
     .exact .inl ⟨rfl,xx.step jX hfs hr jW hne⟩
     .obtain⟨rfl,rfl⟩:=List.cons.inj e;exact .inr ⟨x,_,_,rfl,rfl,rfl,hfs⟩
 .exact alY xy hA hC hB BA ih h0 xu hfs hwr vQ hK hall.2
end fV
end Go.Proofs.YtfphigmeppdocaaGreatDoor
namespace Go.Proofs.YtfphigmeppdocaaGreatDoor
namespace fV
open Go.Conc Go.ConcN Lo Go.RowKit
def calm:Obj->Obj
 | .loop _=>.coro η
 | .pending _ _=>.coro η
 |o=>o
def kI(W:υ):World:={W with heap:=W.heap.map calm }
theorem K7 W(b:Nat):(kI W).heap[b]?=(W.heap[b]?).map calm:=by simp[kI]
theorem K8 W:(kI W).heap.size=W.heap.size:=by simp[kI]
theorem al1 W a:(kI W).cell? a=W.cell? a:=by
 unfold c7;rw[K7];cases W.heap[a.block]? with
 |none=>rfl
 |some o=>cases o<;>rfl
theorem al2 o:eW (o.map calm) o:=by
 cases o with
 |none=>exact .inl ⟨rfl,by simp⟩
 |some o=>
  cases o with
  |loop l=>exact .inr ⟨_,rfl,rfl,.inl ⟨l,rfl⟩⟩
  |pending c t=>exact .inr ⟨_,rfl,rfl,.inr ⟨c,t,rfl⟩⟩
  |_=>exact .inl ⟨rfl,λp hp=>by cases hp;exact⟨by simp[calm],by simp[calm]⟩⟩
theorem al3{o}(h:Pl (calm o)):calm o=o:=by
 cases o with
 |loop l=>exact absurd rfl h.2.2
 |pending c t=>exact absurd rfl h.2.2
 |_=>rfl
def YY(W:υ):cV:=⟨λ_=>False,λb=>W.heap[b]?⟩
theorem YZ W:di (YY W) (kI W) W:=by refine⟨K8 W,λb _=>?_,λb hb=>False.elim hb,λb o v _ _ _ hv=>hv⟩;rw[K7];exact al2 _
theorem Y0{fl}{W}{args}{Post}(hfl:ok fl=ν)(hns:fl≠sp)(hC:∀τ d,Ξ ah fl args (tp (kI W) τ d) λe w'=>(e=.returned (.bool ν)/\Below W.heap.size (tp (kI W) τ d) w')\/(¬eH (eX sp) τ/\∃ch,e=.panicked ch/\ji w'.heap))(Q4:∀w',Below W.heap.size W w'->Post (.bool ν) w')(hbd:((ah.funcs[fl]?).bind (·.body)).isSome=true:=by kernel_rfl):Ends Tryz.prog Post (dG #[G (Frame.enter Tryz.prog fl args .normal) []] W η) #[]:=by
 have F:=oB.2;obtain⟨fn,fn',e1,e2,e3,_⟩:=oB.1.same fl hfl;have hall:vn ah [Frame.enter ah fl args .normal]:=by rw[e1]at hbd;obtain⟨c,hc⟩:=XF.1 hbd;exact⟨gz.enter F e1 hc _,λ_ h=>by cases h⟩
 have xy:WF ah [Frame.enter ah fl args .normal] (kI W):=by exact⟨hall.at _,(YZ W).sh.no⟩
 have hB:fu ah (eX sp) (o6 ah λv h=>v=.bool ν/\∀b,b<W.heap.size->h[b]?=(kI W).heap[b]?) [Frame.enter ah fl args .normal] (kI W):=
  adW F xy λτ d hz=>(hC τ d).mono λe w' h=>by obtain⟨h1,h2⟩:=h.resolve_right λh=>h.1 hz;exact⟨_,h1,rfl,λb hb=>h2.block b hb⟩
 refine outer (W:=W) (Post:=Post) xy (A:=λe w'=>(∃v,e=.returned v)\/∃ch,e=.panicked ch/\ji w'.heap) (λ_ _ h=>h) (λτ d=>(hC τ d).mono λe w' h=>h.imp (λh=>⟨_,h.1⟩) λh=>h.2)
  (λv s' w' bL hq hwr hk=>?_) hB (Rec.start _ _) #[G (Frame.enter Tryz.prog fl args .normal) []] (λ_=>0) W #[] η (λ_=>False) (YY W) _ [] rfl (aiQ _ _ _)
  (.inl ⟨by rw[PC oB.1 hfl hns],λf hf=>?_⟩) (YZ W) (λ_ h=>h) ⟨Nat.le_refl _,λ_ h=>False.elim h,rfl,rfl,rfl,rfl⟩ (hall.at _)
 .obtain⟨rfl,hb⟩:=hq;refine Q4 w' ⟨hk.out.1,hk.out.2.2,hk.out.2.1,hk.size,λb hlt=>?_⟩;have hnb:¬bL b:=λh=>by have:=hk.low b h;omega
  obtain⟨o,ho⟩:∃o,W.heap[b]?=θ o:=⟨_,qT hlt⟩;have hs:s'.heap[b]?=θ (calm o):=by rw[hb b hlt,K7,ho];rfl
  rw[ho];by_cases hp:Pl (calm o)
  .rcases hwr.same b hnb with⟨h1,_⟩|⟨o1,h1,_⟩
   .rw[<-h1,hs,al3 hp]
   .rw[hs]at h1;exact absurd (jP h1) hp.2.2
  .exact hwr.old b _ o hnb hs hp (by rw[hk.v];exact ho)
 .rw[List.mem_singleton]at hf;subst hf;exact⟨hfl,hns⟩
end fV
end Go.Proofs.YtfphigmeppdocaaGreatDoor
namespace Go.Proofs.YtfphigmeppdocaaGreatDoor.Q
open Lo (ah)
variable{ops:Array Oper}{cs:Array ay}{d h how t t0 v v0:Int}{F:Int->Int->Option Int}{q:Int×Int×Int}{l:List (Int×Int)}{m:List (Int×Int×Int)}{al:List Bool}{S T ns x:List Int}{xs:List ay}{B cap e aT i j k n r:Nat}{val:Nat->ay}{o st:Oper}{ao:Option bP}{P:Program}{cO cG:ay}{W W' w w' w0:υ}
def cT(x:Int):Prop:= -1000000000<=x/\x<=1000000000
def jY(l:List (Int×Int))(k:Nat):Prop:=∀i,i<k->cT (l.getD i (0,0)).1/\cT (l.getD i (0,0)).2
def al4(l:List (Int×Int))(k:Nat):Decidable (jY l k):=by unfold jY cT;infer_instance
def Form(l:List (Int×Int))(k:Nat):Prop:=∀i,i<k->(l.getD i (0,0)).1<(l.getD i (0,0)).2/\(0<i->(l.getD (i- 1) (0,0)).2<(l.getD i (0,0)).1)
def al5(l:List (Int×Int))(k:Nat):Decidable (jY l k/\Form l k):=by unfold jY Form cT;infer_instance
def ql(l:List (Int×Int)):Int:=if 200<l.length then 2 else@ite Int (jY l l.length) (al4 l l.length) 0 5
def dY(l:List (Int×Int)):Int:=if 200<l.length then 2 else@ite Int (jY l l.length/\Form l l.length) (al5 l l.length) 0 5
theorem al6(h:jY l k)(h1:cT (l.getD k (0,0)).1)(h2:cT (l.getD k (0,0)).2):jY l (k+1):=by
 intro i hi;by_cases e:i=k
 .subst e;exact⟨h1,h2⟩
 .exact h i (by omega)
theorem Y1(h:Form l k)(h1:(l.getD k (0,0)).1<(l.getD k (0,0)).2)(h2:0<k->(l.getD (k- 1) (0,0)).2<(l.getD k (0,0)).1):Form l (k+1):=by
 intro i hi;by_cases e:i=k
 .subst e;exact⟨h1,h2⟩
 .exact h i (by omega)
theorem al7(h:200<l.length):ql l=2:=by simp[ql,h]
theorem al8(h:l.length<=200)(hn:jY l l.length):ql l=0:=by unfold ql;rw[ς (by omega),χ hn]
theorem al9(h:l.length<=200)(hk:k<l.length)(hn:¬(cT (l.getD k (0,0)).1/\cT (l.getD k (0,0)).2)):ql l=5:=by unfold ql;rw[ς (by omega),ς (λhh=>hn (hh k hk))]
theorem ama l:(ql l=2/\200<l.length)\/(ql l=5/\l.length<=200/\¬jY l l.length)\/(ql l=0/\l.length<=200/\jY l l.length):=by
 unfold ql;by_cases h:200<l.length
 .exact .inl ⟨by rw[χ h],h⟩
 .rw[ς h];by_cases hn:jY l l.length
  .exact .inr (.inr ⟨by rw[χ hn],by omega,hn⟩)
  .exact .inr (.inl ⟨by rw[ς hn],by omega,hn⟩)
theorem amb(h:200<l.length):dY l=2:=by simp[dY,h]
theorem Y2(h:l.length<=200)(hn:jY l l.length)(hf:Form l l.length):dY l=0:=by unfold dY;rw[ς (by omega),χ ⟨hn,hf⟩]
theorem amc(h:l.length<=200)(hn:¬jY l l.length):dY l=5:=by unfold dY;rw[ς (by omega),ς (λhh=>hn hh.1)]
theorem Y3(h:l.length<=200)(hk:k<l.length)(hn:¬((l.getD k (0,0)).1<(l.getD k (0,0)).2/\(0<k->(l.getD (k- 1) (0,0)).2<(l.getD k (0,0)).1))):dY l=5:=by unfold dY;rw[ς (by omega),ς (λhh=>hn (hh.2 k hk))]
theorem Y4 l:dY l=2\/dY l=5\/(dY l=0/\l.length<=200/\jY l l.length/\Form l l.length):=by
 unfold dY;by_cases h:200<l.length
 .exact .inl (by rw[χ h])
 .rw[ς h];by_cases hn:jY l l.length/\Form l l.length
  .exact .inr (.inr ⟨by rw[χ hn],by omega,hn⟩)
  .exact .inr (.inl (by rw[ς hn]))
def flat(l:List (Int×Int)):List Int:=l.flatMap λp=>[p.1,p.2]
theorem DS p l:flat (p::l)=p.1::p.2::flat l:=by simp[flat]
theorem amd a b:flat (a++b)=flat a++flat b:=by simp[flat]
theorem K9 l:(flat l).length=2*l.length:=by
 induction l with
 |nil=>rfl
 |cons p l ih=>rw[DS];simp only[List.length_cons,ih];omega
theorem jZ{α:Type}(l:List α)k(hk:k<l.length):l.take (k+1)=l.take k++[l[k]]:=by rw[List.take_add_one,List.getElem?_eq_getElem hk];rfl
theorem ame(l:List (Int×Int))k(hk:k<l.length):flat (l.take (k+1))=flat (l.take k)++[l[k].1,l[k].2]:=by rw[jZ l k hk,amd];rfl
theorem La l j(h:j<l.length):(flat l)[j*2]?=θ (l.getD j (0,0)).1/\(flat l)[j*2+1]?=θ (l.getD j (0,0)).2:=by
 induction l generalizing j with
 |nil=>simp at h
 |cons p l ih=>
  rw[DS];cases j with
  |zero=>exact⟨rfl,rfl⟩
  |succ j=>
   have:=ih j (by simpa using h);rw[show (j+1)*2=j*2+1+1 by omega];simpa using this
def cnt(l:List Int)(t:Int):Nat:=l.countP λx=>decide (x<=t)
theorem amf x l t:cnt (x::l) t=cnt l t+if x<=t then 1 else 0:=by unfold cnt;rw[List.countP_cons];simp
theorem amg{l}(h:∀x∈l,t<x):cnt l t=0:=by unfold cnt;rw[List.countP_eq_zero];intro x hx;have:=h x hx;simp;omega
def amh(A:List Int)(i i':Nat)(τ:Int):Prop:=(i'=i+1/\A[i]?=θ τ)\/(i'=i/\∀y∈A.drop i,τ<y)
theorem azI{A}{τ}(ami:A.Pairwise (·<·))(h:i<A.length)(e:τ<A[i]):amh A i i τ:=by
 refine .inr ⟨rfl,λy hy=>?_⟩;have sd:=ami.sublist (List.drop_sublist i A);rw[List.drop_eq_getElem_cons h]at hy sd;rw[List.pairwise_cons]at sd;simp only[List.mem_cons]at hy;rcases hy with rfl|hy
 .exact e
 .have:=sd.1 y hy;omega
def has(l:List (Int×Int))(t:Int):Bool:=l.any λp=>decide (p.1<=t)&&decide (t<p.2)
theorem Y5 t:has [] t=false:=rfl
theorem Lb p l t:has (p::l) t=((decide (p.1<=t)&&decide (t<p.2))||has l t):=rfl
theorem amj a b t:has (a++b) t=(has a t||has b t):=by simp[has]
theorem Y6(hk:k<l.length)(h:has (l.take k) t=ο)(hn:¬(l[k].1<=t/\t<l[k].2)):has (l.take (k+1)) t=false:=by rw[jZ l k hk,amj,h,Lb,Y5];simp only[Bool.false_or,Bool.or_false,Bool.and_eq_false_iff,CP];omega
theorem amk(hk:k<l.length)(h1:l[k].1<=t)(h2:t<l[k].2):has l t=true:=by unfold has;rw[List.any_eq_true];exact⟨l[k],List.getElem_mem hk,by simp[h1,h2]⟩
def size(l:List (Int×Int)):Int:=(l.map λp=>p.2-p.1).sum
def Canon(l:List (Int×Int)):Prop:=(flat l).Pairwise (·<·)
def pairs:List Int->List (Int×Int)
 |x::y::l=>(x,y)::pairs l
 |_=>[]
theorem aml{p}(h:Form (p::l) (l.length+1)):Form l l.length:=by intro i hi;have:=h (i+1) (by omega);refine⟨by simpa using this.1,λh0=>?_⟩;have h2:=this.2 (by omega);rw[show i+1- 1=(i- 1)+1 by omega]at h2;simpa using h2
theorem amm(h:Form l l.length):Canon l:=by
 unfold Canon;induction l with
 |nil=>exact List.Pairwise.nil
 |cons p l ih=>
  have DT:=ih (aml h);have h0:=(h 0 (by simp)).1;simp at h0;have h1:∀x∈flat l,p.2<x:=by
   cases l with
   |nil=>simp[flat]
   |cons q l=>
    have hq:=(h 1 (by simp)).2 (by omega);simp at hq;rw[DS]at DT ⊢;intro x hx;rw[List.pairwise_cons]at DT;simp only[List.mem_cons]at hx;rcases hx with rfl|hx
    .exact hq
    .have:=DT.1 x (by simpa using hx);omega
  rw[DS,List.pairwise_cons,List.pairwise_cons];refine⟨λx hx=>?_,h1,DT⟩;simp only[List.mem_cons]at hx;rcases hx with rfl|hx
  .exact h0
  .have:=h1 x hx;omega
theorem amo(h:Canon l):Form l l.length:=by
 unfold Canon at h;rw[List.pairwise_iff_getElem]at h;intro i hi;have hl:=K9 l;obtain⟨f0,f1⟩:=La l i hi;obtain⟨g0,f0⟩:=List.getElem?_eq_some_iff.1 f0;obtain⟨g1,f1⟩:=List.getElem?_eq_some_iff.1 f1;refine⟨?_,λh0=>?_⟩
 .rw[<-f0,<- f1];exact h _ _ g0 g1 (by omega)
 .obtain⟨_,e1⟩:=La l (i- 1) (by omega);obtain⟨k1,e1⟩:=List.getElem?_eq_some_iff.1 e1;rw[<-f0,<- e1];exact h _ _ k1 g0 (by omega)
theorem amq(h:jY l l.length):∀x∈flat l,cT x:=by
 induction l with
 |nil=>simp[flat]
 |cons p l ih=>
  have DT:=ih (λi hi=>by simpa using h (i+1) (by simpa using hi));have h0:=h 0 (by simp);simp at h0;rw[DS];intro x hx;simp only[List.mem_cons]at hx;rcases hx with rfl|rfl|hx
  .exact h0.1
  .exact h0.2
  .exact DT x hx
theorem amr(h:∀x∈flat l,cT x):jY l l.length:=by intro i hi;obtain⟨f0,f1⟩:=La l i hi;exact⟨h _ (List.mem_of_getElem? f0),h _ (List.mem_of_getElem? f1)⟩
theorem ams(hc:Canon l)(hn:∀x∈flat l,cT x)(hl:l.length<=200):dY l=0:=
 Y2 hl (amr hn) (amo hc)
open Go.RowKit
def eg(w:υ)(ao:Option bP)(l:List (Int×Int)):Prop:=
 l=[]\/∃b off,ao=θ ⟨b,off,η⟩/\b<w.heap.size/\∀j,j<l.length->w.cell? ⟨b,off+j*2,η⟩=θ (.int .i64 (l.getD j (0,0)).1)/\w.cell? ⟨b,off+j*2+1,η⟩=θ (.int .i64 (l.getD j (0,0)).2)
def jC(w:υ)(ao:Option bP)(l:List Int):Prop:=
 l=[]\/∃b off,ao=θ ⟨b,off,η⟩/\b<w.heap.size/\∀j,j<l.length->w.cell? ⟨b,off+j,η⟩=θ (.int .i64 (l.getD j 0))
theorem eg.below(h:eg w ao l)(hb:Below w.heap.size w w'):eg w' ao l:=by
 rcases h with h|⟨b,off,rfl,hlt,hc⟩
 .exact .inl h
 .refine .inr ⟨b,off,rfl,Nat.lt_of_lt_of_le hlt hb.size,λj hj=>?_⟩;rw[hb.cell (p:=⟨b,off+j*2,η⟩) hlt,hb.cell (p:=⟨b,off+j*2+1,η⟩) hlt];exact hc j hj
theorem jC.below{l}(h:jC w ao l)(hb:Below w.heap.size w w'):jC w' ao l:=by
 rcases h with h|⟨b,off,rfl,hlt,hc⟩
 .exact .inl h
 .refine .inr ⟨b,off,rfl,Nat.lt_of_lt_of_le hlt hb.size,λj hj=>?_⟩;rw[hb.cell (p:=⟨b,off+j,η⟩) hlt];exact hc j hj
theorem Tryz.ua:(ah.info? 3).map (λi=>(i.zero,i.size,i.bytes))=θ (θ (.int .i64 0),1,8):=by kernel_rfl
theorem Tryz.Y7:(ah.info? 109).map (λi=>(i.zero,i.size,i.bytes))=θ (θ (.agg #[.int .i64 0,.int .i64 0]),2,16):=by kernel_rfl
theorem GO{base}{v}{l}(h:w.ownsRow base e 1 v n (l.map (bM .i64))):∃ao cap,v=.slice ao l.length cap/\jC w ao l:=by
 obtain⟨h1,h2⟩:=h;simp only[List.length_map,Nat.mul_one]at h1;subst h1;rcases h2 with⟨rfl,h0⟩|⟨g,cap,cur,rfl,hb,hh,h3,h4,h5,h6⟩
 .exact⟨η,0,by rw[h0],.inl (List.eq_nil_of_length_eq_zero h0)⟩
 .refine⟨_,cap,rfl,.inr ⟨g,0,rfl,(ξ.1 hh).1,λj hj=>?_⟩⟩;have:=qi (w:=w) (base:=base) (e:=e) (size:=1) (xs:=l.map (bM .i64)) ⟨by simp,.inr ⟨g,cap,cur,rfl,hb,hh,h3,h4,h5,h6⟩⟩ j (by omega);rw[Nat.zero_add,this,List.getElem?_map,List.getD_eq_getElem?_getD,List.getElem?_eq_getElem hj];rfl
def gp(l:List (Int×Int)):List Value:=(flat l).map (bM .i64)
theorem GP{base}{v}(h:w.ownsRow base e 2 v n (gp l)):∃ao cap,v=.slice ao l.length cap/\eg w ao l:=by
 obtain⟨h1,h2⟩:=h;simp only[gp,List.length_map,K9]at h1;have hn:n=l.length:=by omega
 subst hn;rcases h2 with⟨rfl,h0⟩|⟨g,cap,cur,rfl,hb,hh,h3,h4,h5,h6⟩
 .exact⟨η,0,by rw[h0],.inl (List.eq_nil_of_length_eq_zero h0)⟩
 .have hown:w.ownsRow base e 2 (.slice (θ ⟨g,0,η⟩) l.length cap) l.length (gp l):=⟨by simp[gp,K9];omega,.inr ⟨g,cap,cur,rfl,hb,hh,h3,h4,h5,h6⟩⟩;refine⟨_,cap,rfl,.inr ⟨g,0,rfl,(ξ.1 hh).1,λj hj=>?_⟩⟩;obtain⟨f0,f1⟩:=La l j hj;rw[Nat.zero_add,hown.cellAt (j*2) (by omega),hown.cellAt (j*2+1) (by omega)];simp only[gp,List.getElem?_map,f0,f1];exact⟨rfl,rfl⟩
theorem cE{base size}{v}(h:w.ownsRow base e size v n xs)(hb:Below w.heap.size w w'):w'.ownsRow base e size v n xs:=
 h.kept (row:=η) ⟨hb.os,hb.tape,hb.output,hb.size,λk hk _=>hb.block k hk⟩ (by cases v.ownBlock<;>simp)
theorem Lc(w:υ)B (t:Θ)x y(hB:B=w.heap.size):∀j u,[x,y][j]?=θ u->(w.alloc (.cells #[x,y] t)).cell? ((⟨B,0,η⟩:bP).add j)=θ u:=by
 subst hB;intro j u hj
 match j,hj with
 |0,hj=>simp at hj;subst hj;simp[jT]
 |1,hj=>simp at hj;subst hj;simp[jT]
theorem gJ{base base' size}{v}(h:w.ownsRow base e size v n xs)(hb:base'<=base):w.ownsRow base' e size v n xs:=
 ⟨h.1,h.2.imp id (λ⟨g,c,cur,h1,h2,h3⟩=>⟨g,c,cur,h1,Nat.le_trans hb h2,h3⟩)⟩
abbrev jD:=Int×Int×Int×Int
abbrev eF:=Int×Int×List jD
structure bg where
 hor:Int
 lives:List (Int×Int)
 af:List eF
def c9(n lo hi:Int):Bool:=decide (lo<=n)&&decide (n<=hi)
def rq(a b h:Int):Bool:=decide (0<=a)&&(decide (a<b)&&decide (b<=h))
def sN(l:jD)(h:Int):Bool:=rq l.1 l.2.1 h&&(c9 l.2.2.1 1 50&&c9 l.2.2.2 0 1000)
def fC(h p:Int):List jD->Int
 |[]=>0
 |l::ls=>if sN l h=ο then 1 else if l.1<p then 5 else fC h l.2.1 ls
def iL(h n:Int)(e:eF):Int:=if(c9 e.1 0 (n- 1)&&c9 e.2.1 0 (n- 1))=ο then 4 else if 6<e.2.2.length then 2 else fC h 0 e.2.2
def iM(h n:Int):List eF->Int
 |[]=>0
 |e::es=>if iL h n e=0 then iM h n es else iL h n e
def kJ(h:Int):List (Int×Int)->Int
 |[]=>0
 |p::ps=>if rq p.1 p.2 h=ν then kJ h ps else 1
def aK(g:bg):Int:=
 if c9 g.hor 1 100=ο then 1 else if 12<g.lives.length\/30<g.af.length then 2 else if kJ g.hor g.lives≠0 then 1 else iM g.hor g.lives.length g.af
theorem oI n lo hi:c9 n lo hi=ν↔lo<=n/\n<=hi:=by unfold c9;simp
theorem Y8{n lo hi}(h:¬(lo<=n/\n<=hi)):c9 n lo hi=false:=by rw[<-Bool.not_eq_true,oI];exact h
theorem Ld a b h:rq a b h=ν↔0<=a/\a<b/\b<=h:=by unfold rq;simp
theorem Q5{a b}(k:¬(0<=a/\a<b/\b<=h)):rq a b h=false:=by rw[<-Bool.not_eq_true,Ld];exact k
theorem xz l h:sN l h=ν↔(0<=l.1/\l.1<l.2.1/\l.2.1<=h)/\(1<=l.2.2.1/\l.2.2.1<=50)/\(0<=l.2.2.2/\l.2.2.2<=1000):=by unfold sN;rw[Bool.and_eq_true,Bool.and_eq_true,Ld,oI,oI]
theorem Y9 h:∀(l:List jD) (p:Int),fC h p l=0\/fC h p l=1\/fC h p l=5
 |[],p=>.inl rfl
 |l::ls,p=>by
  unfold fC;split
  .exact .inr (.inl rfl)
  .split
   .exact .inr (.inr rfl)
   .exact Y9 h ls _
theorem amt h n e:iL h n e=0\/iL h n e=1\/iL h n e=2\/iL h n e=4\/iL h n e=5:=by
 unfold iL;split
 .simp
 .split
  .simp
  .rcases Y9 h e.2.2 0 with k|k|k<;>simp[k]
theorem Za h n:∀l:List eF,iM h n l=0\/iM h n l=1\/iM h n l=2\/iM h n l=4\/iM h n l=5
 |[]=>.inl rfl
 |e::es=>by
  unfold iM;split
  .exact Za h n es
  .exact amt h n e
theorem Zb g:aK g=0\/aK g=1\/aK g=2\/aK g=4\/aK g=5:=by
 unfold aK;split
 .simp
 .split
  .simp
  .split
   .simp
   .exact Za _ _ _
theorem xA{α:Type}(l:List α)k(h:k<l.length):l.drop k=l[k]::l.drop (k+1):=(List.drop_eq_getElem_cons h)
def sO(l:List jD):Nat->Int
 |0=>0
 |k+1=>(l.getD k (0,0,0,0)).2.1
theorem amu{l}(hk:k<l.length)(hI:fC h 0 l=fC h (sO l k) (l.drop k))(hf:sN l[k] h=ο):fC h 0 l=1:=by rw[hI,xA l k hk,fC,χ hf]
theorem amv{l}(hk:k<l.length)(hI:fC h 0 l=fC h (sO l k) (l.drop k))(hf:sN l[k] h=ν)(hp:l[k].1<sO l k):fC h 0 l=5:=by rw[hI,xA l k hk,fC,ς (by simp[hf]),χ hp]
theorem Zc{l}(hk:k<l.length)(hI:fC h 0 l=fC h (sO l k) (l.drop k))(hf:sN l[k] h=ν)(hp:¬l[k].1<sO l k):fC h 0 l=fC h (sO l (k+1)) (l.drop (k+1)):=by rw[hI,xA l k hk,fC,ς (by simp[hf]),ς hp];simp[sO,List.getD_eq_getElem?_getD,List.getElem?_eq_getElem hk]
theorem amx{l}(hI:fC h 0 l=fC h (sO l l.length) (l.drop l.length)):fC h 0 l=0:=by rw[hI,List.drop_length];rfl
theorem amy{l}(hk:k<l.length):sO l (k+1)=l[k].2.1:=by simp[sO,List.getD_eq_getElem?_getD,List.getElem?_eq_getElem hk]
theorem amz{n}{l}(hk:k<l.length)(hI:iM h n l=iM h n (l.drop k))(he:iL h n l[k]≠0):iM h n l=iL h n l[k]:=by rw[hI,xA l k hk,iM,ς he]
theorem amA{n}{l}(hk:k<l.length)(hI:iM h n l=iM h n (l.drop k))(he:iL h n l[k]=0):iM h n l=iM h n (l.drop (k+1)):=by rw[hI,xA l k hk,iM,χ he]
theorem amB{n}{l}(hI:iM h n l=iM h n (l.drop l.length)):iM h n l=0:=by rw[hI,List.drop_length];rfl
theorem amC(hk:k<l.length)(hI:kJ h l=kJ h (l.drop k))(he:rq l[k].1 l[k].2 h=ο):kJ h l=1:=by rw[hI,xA l k hk,kJ,ς (by simp[he])]
theorem amD(hk:k<l.length)(hI:kJ h l=kJ h (l.drop k))(he:rq l[k].1 l[k].2 h=ν):kJ h l=kJ h (l.drop (k+1)):=by rw[hI,xA l k hk,kJ,χ he]
theorem amE(hI:kJ h l=kJ h (l.drop l.length)):kJ h l=0:=by rw[hI,List.drop_length];rfl
theorem amF{g}(h:c9 g.hor 1 100=ο):aK g=1:=by unfold aK;rw[χ h]
theorem Zd{g}(h:c9 g.hor 1 100=ν)(k:12<g.lives.length\/30<g.af.length):aK g=2:=by unfold aK;rw[ς (by simp[h]),χ k]
theorem amG{g}(h:c9 g.hor 1 100=ν)(k:¬(12<g.lives.length\/30<g.af.length))(l:kJ g.hor g.lives=1):aK g=1:=by unfold aK;rw[ς (by simp[h]),ς k,χ (by omega)]
theorem amH{g}(h:c9 g.hor 1 100=ν)(k:¬(12<g.lives.length\/30<g.af.length))(l:kJ g.hor g.lives=0):aK g=iM g.hor g.lives.length g.af:=by unfold aK;rw[ς (by simp[h]),ς k,ς (by omega)]
structure cQ(g:bg):Prop where
 hor:1<=g.hor/\g.hor<=100
 tF:g.lives.length<=12
 qm:g.af.length<=30
 life:∀p∈g.lives,0<=p.1/\p.1<p.2/\p.2<=g.hor
 ends:∀e∈g.af,(0<=e.1/\e.1<g.lives.length)/\(0<=e.2.1/\e.2.1<g.lives.length)/\e.2.2.length<=6
 aH:∀e∈g.af,∀l∈e.2.2,sN l g.hor=ν
theorem Ze{h}:∀{l:List (Int×Int)},kJ h l=0->∀p∈l,rq p.1 p.2 h=ν
 |[],_,p,hp=>by simp at hp
 |q::l,hl,p,hp=>by
  unfold kJ at hl;by_cases hq:rq q.1 q.2 h=ν
  .rw[χ hq]at hl;rcases List.mem_cons.1 hp with rfl|hp
   .exact hq
   .exact Ze hl p hp
  .rw[ς hq]at hl;omega
theorem Zf{h}:∀{l:List jD}{p:Int},fC h p l=0->∀x∈l,sN x h=ν
 |[],_,_,x,hx=>by simp at hx
 |q::l,p,hl,x,hx=>by
  unfold fC at hl;by_cases hq:sN q h=ο
  .rw[χ hq]at hl;omega
  .rw[ς hq]at hl;by_cases hp:q.1<p
   .rw[χ hp]at hl;omega
   .rw[ς hp]at hl;rcases List.mem_cons.1 hx with rfl|hx
    .simpa using hq
    .exact Zf hl x hx
theorem Q6{h n}:∀{l:List eF},iM h n l=0->∀e∈l,iL h n e=0
 |[],_,e,he=>by simp at he
 |q::l,hl,e,he=>by
  unfold iM at hl;by_cases hq:iL h n q=0
  .rw[χ hq]at hl;rcases List.mem_cons.1 he with rfl|he
   .exact hq
   .exact Q6 hl e he
  .rw[ς hq]at hl;exact absurd hl hq
theorem ei{g}(h:aK g=0):cQ g:=by
 unfold aK at h;by_cases h1:c9 g.hor 1 100=ο
 .rw[χ h1]at h;omega
 rw[ς h1]at h;by_cases h2:12<g.lives.length\/30<g.af.length
 .rw[χ h2]at h;omega
 rw[ς h2]at h;by_cases h3:kJ g.hor g.lives≠0
 .rw[χ h3]at h;omega
 rw[ς h3]at h;have e0:=Q6 h;have jE:∀e∈g.af,(0<=e.1/\e.1<g.lives.length)/\(0<=e.2.1/\e.2.1<g.lives.length)/\e.2.2.length<=6/\fC g.hor 0 e.2.2=0:=by
  intro e he;have:=e0 e he;unfold iL at this;by_cases k1:(c9 e.1 0 (g.lives.length- 1)&&c9 e.2.1 0 (g.lives.length- 1))=ο
  .rw[χ k1]at this;omega
  rw[ς k1]at this;by_cases k2:6<e.2.2.length
  .rw[χ k2]at this;omega
  rw[ς k2]at this;rw[Bool.not_eq_false,Bool.and_eq_true,oI,oI]at k1;exact⟨⟨k1.1.1,by omega⟩,⟨k1.2.1,by omega⟩,by omega,this⟩
 refine⟨(oI _ _ _).1 (by simpa using h1),by omega,by omega,λp hp=>(Ld _ _ _).1 (Ze (by omega) p hp),λe he=>?_,λe he l hl=>Zf (jE e he).2.2.2 l hl⟩;have:=jE e he;exact⟨this.1,this.2.1,this.2.2.1⟩
open Go.Proofs.Tryz
theorem gK{a b}(h:a=b):sH (.bool a)=.returned (.bool b):=by rw[h]
theorem dS{k}{a b}(h:a=b):sH (.int k a)=.returned (.int k b):=by rw[h]
def gq(x:Int):Bool:=decide (-1000000000<=x)&&decide (x<=1000000000)
theorem ud x:gq x=ν↔cT x:=by unfold gq cT;simp only[Bool.and_eq_true,kC]
theorem Zg{l:List Int}(hk:k<l.length)(h:¬cT l[k]):l.all gq=false:=by rw[<-Bool.not_eq_true,List.all_eq_true];intro hh;exact h ((ud _).1 (hh l[k] (List.getElem_mem hk)))
theorem amI{l:List Int}(hk:k<l.length)(h0:(l.take k).all gq=ν)(h:cT l[k]):(l.take (k+1)).all gq=true:=by rw[jZ l k hk,List.all_append,h0];simp[(ud _).2 h]
theorem Q7 ao cap l w(hl:jC w ao l)(hn:l.length<=9223372036854775807):Ξ ah 191 #[.slice ao l.length cap] w λe w'=>e=.returned (.bool (l.all gq))/\w'=w:=by
 go_enter alz,ntmps191;go_wp2
 go_loop [7] (λi=>∃k:Nat,k<=l.length/\i=.int .i64 k/\(l.take k).all gq=ν) (λi=>l.length-(intOf i).toNat)
 case atStart=>exact⟨0,Nat.zero_le _,rfl,rfl⟩
 case round=>
  obtain⟨k,hk,rfl,hh⟩:=hrel;have iB:Hid ((l.take k).all gq=ν):=hh;by_cases hlt:k<l.length
  .rcases hl with h0|⟨b,off,rfl,bQ,hc⟩
   .subst h0;simp at hlt
   have c0:=hc k hlt;(have hg:l.getD k 0=l[k]:=by simp[List.getD_eq_getElem?_getD,List.getElem?_eq_getElem hlt]);rw[hg]at c0;by_cases g1:l[k]< -1000000000
   .have ak:Hid (l.all gq=ο):=Zg hlt (by unfold cT;omega);go_wp2;go_ret;exact⟨gK ak.out.symm,rfl⟩
   .by_cases g2:l[k]>1000000000
    .have ak:Hid (l.all gq=ο):=Zg hlt (by unfold cT;omega);go_wp2;go_ret;exact⟨gK ak.out.symm,rfl⟩
    .have ak:Hid ((l.take (k+1)).all gq=ν):=amI hlt iB.out (by unfold cT;omega);go_wp2
     go_round
     case rel=>exact⟨k+1,by omega,by go_num,ak.out⟩
     case measure=>simp[intOf];omega
  ·(have bp:k=l.length:=by omega);subst bp;(have ak:Hid (l.all gq=ν):=by have:=iB.out;rwa[List.take_length]at this);go_wp2;go_ret;exact⟨gK ak.out.symm,rfl⟩
theorem amJ B x y w(hB:B<w.heap.size)(c0:w.cell? ⟨B,0,η⟩=θ (.int .i64 x))(c1:w.cell? ⟨B,1,η⟩=θ (.int .i64 y)):Ξ ah 191 #[.slice (θ ⟨B,0,η⟩) 2 2] w λe w'=>e=.returned (.bool (gq x&&gq y))/\w'=w:=by
 have h:=Q7 (θ ⟨B,0,η⟩) 2 [x,y] w (.inr ⟨B,0,rfl,hB,λj hj=>by
  match j,hj with
  |0,_=>exact c0
  |1,_=>exact c1⟩) (by simp)
 simpa using h
theorem amK ao cap l w(hl:eg w ao l):Ξ ah 206 #[.slice ao l.length cap] w λe w'=>e=.returned (.int .i64 (ql l))/\Below w.heap.size w w':=by
 by_cases h2:200<l.length
 .have ak:Hid (ql l=2):=al7 h2;go_enter YI,ntmps206;go_wp2;go_ret;exact⟨dS ak.out.symm,Below.refl _ _⟩
 .have h3:l.length<=200:=by omega
  go_enter YI,ntmps206;go_wp2;go_loopw [10] (λi wr=>∃k:Nat,k<=l.length/\i=.int .i64 k/\jY l k/\Below w.heap.size w wr) (λi _=>l.length-(intOf i).toNat)
  case atStart=>exact⟨0,Nat.zero_le _,rfl,λi hi=>absurd hi (Nat.not_lt_zero _),Below.refl _ _⟩
  case round=>
   obtain⟨k,hk,rfl,hn,hb⟩:=hrel;by_cases hlt:k<l.length
   .rcases hl.below hb with h0|⟨b,off,rfl,bQ,hc⟩
    .subst h0;simp at hlt
    obtain⟨c0,c1⟩:=hc k hlt;have aR:Hid (jY l k):=hn;have aU:∀o o',Below w.heap.size w ((wr.alloc o).alloc o'):=λo o'=>(hb.alloc hb.size o).alloc (by have:=hb.size;simp;omega) o';(have hg:l.getD k (0,0)=l[k]:=by simp[List.getD_eq_getElem?_getD,List.getElem?_eq_getElem hlt]);rw[hg]at c0 c1;have cH:Hid (l.getD k (0,0)=l[k]):=hg;go_wp2_with fail;refine(amJ (wr.heap.size+1) l[k].1 l[k].2 _ (by simp) (by simp) (by simp)).mono ?_;rintro e w1 ⟨rfl,rfl⟩;by_cases g1:cT l[k].1/\cT l[k].2
    .have ak:Hid (jY l (k+1)):=al6 aR.out (by rw[cH.out];exact g1.1) (by rw[cH.out];exact g1.2);have e1:=(ud _).2 g1.1;have e2:=(ud _).2 g1.2;rw[e1,e2];go_wp2;go_roundw
     case rel=>exact⟨k+1,by omega,by go_num,ak.out,aU _ _⟩
     case measure=>simp[intOf];omega
    ·(have ak:Hid (ql l=5):=al9 (k:=k) h3 hlt (by rw[cH.out];exact g1);have e1:(gq l[k].1&&gq l[k].2)=false:=by rw[<-Bool.not_eq_true,Bool.and_eq_true,ud,ud];exact g1);rw[e1];go_wp2;go_ret;exact⟨dS ak.out.symm,aU _ _⟩
   ·(have bp:k=l.length:=by omega);subst bp;have ak:Hid (ql l=0):=al8 h3 hn;go_wp2;go_ret;exact⟨dS ak.out.symm,hb⟩
theorem amL ao cap l w(hl:eg w ao l):Ξ ah 202 #[.slice ao l.length cap] w λe w'=>e=.returned (.int .i64 (dY l))/\Below w.heap.size w w':=by
 have hcb:=amK ao cap l w hl;rcases ama l with⟨e,h2⟩|⟨e,h3,hn⟩|⟨e,h3,hn⟩
 .rw[e]at hcb;have ak:Hid (dY l=2):=amb h2;go_enter Q0,ntmps202;go_wp2_with(go_at_call 206;refine hcb.mono ?_;rintro e w' ⟨rfl,hb⟩);go_ret;exact⟨dS ak.out.symm,by assumption⟩
 .rw[e]at hcb;have ak:Hid (dY l=5):=amc h3 hn;go_enter Q0,ntmps202;go_wp2_with(go_at_call 206;refine hcb.mono ?_;rintro e w' ⟨rfl,hb⟩);go_ret;exact⟨dS ak.out.symm,by assumption⟩
 .rw[e]at hcb;have aR:Hid (jY l l.length):=hn;go_enter Q0,ntmps202;go_wp2_with(go_at_call 206;refine hcb.mono ?_;rintro e w1 ⟨rfl,aj⟩);go_loopw [4,13] (λ_ i wr=>∃k:Nat,k<=l.length/\i=.int .i64 k/\Form l k/\Below w.heap.size w wr) (λ_ i _=>l.length-(intOf i).toNat)
  case atStart=>exact⟨0,Nat.zero_le _,rfl,λi hi=>absurd hi (Nat.not_lt_zero _),by assumption⟩
  case round=>
   obtain⟨k,hk,rfl,hf,hb⟩:=hrel;by_cases hlt:k<l.length
   .rcases hl.below hb with h0|⟨b,off,rfl,bQ,hc⟩
    .subst h0;simp at hlt
    obtain⟨c0,c1⟩:=hc k hlt;have aJ:Hid (Form l k):=hf;have aU:∀o,Below w.heap.size w (wr.alloc o):=λo=>hb.alloc hb.size o;(have hg:l.getD k (0,0)=l[k]:=by simp[List.getD_eq_getElem?_getD,List.getElem?_eq_getElem hlt]);by_cases g1:l[k].2<=l[k].1
    .have ak:Hid (dY l=5):=Y3 (k:=k) h3 hlt (by rw[hg];omega);go_wp2
     go_quiet (fail)
     go_wp2;go_ret;exact⟨dS ak.out.symm,below_drewN (aU _) _⟩
    ·(have d1:decide (l[k].2<=l[k].1)=false:=by simpa using g1);by_cases hk0:k=0
     .subst hk0;simp only[Nat.zero_mul,Nat.add_zero]at c0 c1;have cH:Hid (Form l (0+1)):=Y1 aJ.out (by rw[hg];omega) (λh=>absurd h (Nat.lt_irrefl _));go_wp2
      go_quiet (fail)
      go_wp2;go_roundw
      case rel=>exact⟨0+1,by omega,by go_num,cH.out,below_drewN (aU _) _⟩
      case measure=>simp[intOf];omega
     .obtain⟨m,rfl⟩:∃m,k=m+1:=⟨k- 1,by omega⟩;have ue:=(hc m (by omega)).2;(have hm:m<l.length:=by omega);(have Le:l.getD m (0,0)=l[m]:=by simp[List.getD_eq_getElem?_getD,List.getElem?_eq_getElem hm]);by_cases g2:l[m+1].1<=l[m].2
      .have ak:Hid (dY l=5):=Y3 (k:=m+1) h3 hlt (by rw[hg,Nat.add_sub_cancel,Le];omega);go_wp2
       go_quiet (fail)
       go_wp2;go_ret;exact⟨dS ak.out.symm,below_drewN (aU _) _⟩
      .have cH:Hid (Form l (m+1+1)):=Y1 aJ.out (by rw[hg];omega) (λh=>by rw[hg,Nat.add_sub_cancel,Le];omega);(have d2:decide (l[m+1].1<=l[m].2)=false:=by simpa using g2);go_wp2
       go_quiet (fail)
       go_wp2;go_roundw
       case rel=>exact⟨m+1+1,by omega,by go_num,cH.out,below_drewN (aU _) _⟩
       case measure=>simp[intOf];omega
   ·(have bp:k=l.length:=by omega);subst bp;have ak:Hid (dY l=0):=Y2 h3 aR.out hf;go_wp2;go_ret;exact⟨dS ak.out.symm,hb⟩
theorem Zh ao cap l t w(hl:eg w ao l)(hn:l.length<=9223372036854775807):Ξ ah 107 #[.slice ao l.length cap,.int .i64 t] w λe w'=>e=.returned (.bool (has l t))/\Below w.heap.size w w':=by
 go_enter ak9,ntmps107;go_wp2;go_loopw [9] (λi wr=>∃k:Nat,k<=l.length/\i=.int .i64 k/\has (l.take k) t=ο/\Below w.heap.size w wr) (λi _=>l.length-(intOf i).toNat)
 case atStart=>exact⟨0,Nat.zero_le _,rfl,rfl,Below.refl _ _⟩
 case round=>
  obtain⟨k,hk,rfl,hh,hb⟩:=hrel;have iB:Hid (has (l.take k) t=ο):=hh;by_cases hlt:k<l.length
  .rcases hl.below hb with h0|⟨b,off,rfl,bQ,hc⟩
   .subst h0;simp at hlt
   obtain⟨c0,c1⟩:=hc k hlt;have aU:∀o,Below w.heap.size w (wr.alloc o):=λo=>hb.alloc hb.size o;by_cases g1:l[k].1<=t
   .by_cases g2:t<l[k].2
    .have ak:Hid (has l t=ν):=amk hlt g1 g2;go_wp2;go_ret;exact⟨gK ak.out.symm,aU _⟩
    .have ak:Hid (has (l.take (k+1)) t=ο):=Y6 hlt iB.out (by omega);go_wp2;go_roundw
     case rel=>exact⟨k+1,by omega,by go_num,ak.out,aU _⟩
     case measure=>simp[intOf];omega
   .have ak:Hid (has (l.take (k+1)) t=ο):=Y6 hlt iB.out (by omega);go_wp2;go_roundw
    case rel=>exact⟨k+1,by omega,by go_num,ak.out,aU _⟩
    case measure=>simp[intOf];omega
  ·(have bp:k=l.length:=by omega);subst bp;(have ak:Hid (has l t=ο):=by have:=iB.out;rwa[List.take_length]at this);go_wp2;go_ret;exact⟨gK ak.out.symm,hb⟩
variable{g:bg}{L:List (eF×ay)}
theorem bK{a b c}(h1:Below a.heap.size a b)(h2:Below b.heap.size b c):Below a.heap.size a c:=h1.trans (h2.mono h1.size)
theorem ax w o:Below w.heap.size w (w.alloc o):=(Below.refl _ _).alloc (Nat.le_refl _) o
theorem aa{p:Prop}(h:p):Hid p:=h
def pn(w:υ)(ao:Option bP)(m:List jD):Prop:=
 m=[]\/∃b off,ao=θ ⟨b,off,η⟩/\b<w.heap.size/\∀j,j<m.length->w.cell? ⟨b,off+j*4,η⟩=θ (.int .i64 (m.getD j (0,0,0,0)).1)/\w.cell? ⟨b,off+j*4+1,η⟩=θ (.int .i64 (m.getD j (0,0,0,0)).2.1)/\w.cell? ⟨b,off+j*4+2,η⟩=θ (.int .i64 (m.getD j (0,0,0,0)).2.2.1)/\w.cell? ⟨b,off+j*4+3,η⟩=θ (.int .i64 (m.getD j (0,0,0,0)).2.2.2)
theorem pn.below{m}(h:pn w ao m)(hb:Below w.heap.size w w'):pn w' ao m:=by
 rcases h with h|⟨b,off,rfl,hlt,hc⟩
 .exact .inl h
 .refine .inr ⟨b,off,rfl,Nat.lt_of_lt_of_le hlt hb.size,λj hj=>?_⟩;rw[hb.cell (p:=⟨b,off+j*4,η⟩) hlt,hb.cell (p:=⟨b,off+j*4+1,η⟩) hlt,hb.cell (p:=⟨b,off+j*4+2,η⟩) hlt,hb.cell (p:=⟨b,off+j*4+3,η⟩) hlt];exact hc j hj
theorem pn.get{b off}{m:List jD}(hk:k<m.length)(hc:∀j,j<m.length->w.cell? ⟨b,off+j*4,η⟩=θ (.int .i64 (m.getD j (0,0,0,0)).1)/\w.cell? ⟨b,off+j*4+1,η⟩=θ (.int .i64 (m.getD j (0,0,0,0)).2.1)/\w.cell? ⟨b,off+j*4+2,η⟩=θ (.int .i64 (m.getD j (0,0,0,0)).2.2.1)/\w.cell? ⟨b,off+j*4+3,η⟩=θ (.int .i64 (m.getD j (0,0,0,0)).2.2.2)):w.cell? ⟨b,off+k*4,η⟩=θ (.int .i64 m[k].1)/\w.cell? ⟨b,off+k*4+1,η⟩=θ (.int .i64 m[k].2.1)/\w.cell? ⟨b,off+k*4+2,η⟩=θ (.int .i64 m[k].2.2.1)/\w.cell? ⟨b,off+k*4+3,η⟩=θ (.int .i64 m[k].2.2.2):=by have:=hc k hk;rwa[List.getD_eq_getElem?_getD,List.getElem?_eq_getElem hk]at this
theorem eg.get{b off}{m:List (Int×Int)}(hk:k<m.length)(hc:∀j,j<m.length->w.cell? ⟨b,off+j*2,η⟩=θ (.int .i64 (m.getD j (0,0)).1)/\w.cell? ⟨b,off+j*2+1,η⟩=θ (.int .i64 (m.getD j (0,0)).2)):w.cell? ⟨b,off+k*2,η⟩=θ (.int .i64 m[k].1)/\w.cell? ⟨b,off+k*2+1,η⟩=θ (.int .i64 m[k].2):=by have:=hc k hk;rwa[List.getD_eq_getElem?_getD,List.getElem?_eq_getElem hk]at this
def DU(w:υ)(b off:Nat)(e:eF):Prop:=
 w.cell? ⟨b,off,η⟩=θ (.int .i64 e.1)/\w.cell? ⟨b,off+1,η⟩=θ (.int .i64 e.2.1)/\∃la lc,w.cell? ⟨b,off+2,η⟩=θ (.slice la e.2.2.length lc)/\pn w la e.2.2/\e.2.2.length<=lc/\lc<=9223372036854775807
def Lf(w:υ)(ao:Option bP)(m:List eF):Prop:=
 m=[]\/∃b off,ao=θ ⟨b,off,η⟩/\b<w.heap.size/\∀j (h:j<m.length),DU w b (off+j*3) m[j]
theorem DU.below{b off}{e}(hlt:b<w.heap.size)(h:DU w b off e)(hb:Below w.heap.size w w'):DU w' b off e:=by obtain⟨h0,h1,la,lc,h2,hl,hn,hm⟩:=h;exact⟨by rw[hb.cell (p:=⟨b,off,η⟩) hlt,h0],by rw[hb.cell (p:=⟨b,off+1,η⟩) hlt,h1],la,lc,by rw[hb.cell (p:=⟨b,off+2,η⟩) hlt,h2],hl.below hb,hn,hm⟩
theorem Lf.below{m}(h:Lf w ao m)(hb:Below w.heap.size w w'):Lf w' ao m:=by
 rcases h with h|⟨b,off,rfl,hlt,hc⟩
 .exact .inl h
 .exact .inr ⟨b,off,rfl,Nat.lt_of_lt_of_le hlt hb.size,λj hj=>(hc j hj).below hlt hb⟩
structure cL(w:υ)(la ea:Option bP)(g:bg):Prop where
 lv:eg w la g.lives
 ed:Lf w ea g.af
 nl:g.lives.length<=9223372036854775807
 ne:g.af.length<=9223372036854775807
theorem cL.below{la ea}(h:cL w la ea g)(hb:Below w.heap.size w w'):cL w' la ea g:=⟨h.lv.below hb,h.ed.below hb,h.nl,h.ne⟩
theorem Tryz.amM:(ah.info? 167).map (λi=>(i.zero,i.size,i.bytes))=θ (θ (.agg #[.int .i64 0,.int .i64 0,.int .i64 0,.int .i64 0]),4,32):=by kernel_rfl
theorem Tryz.amN:(ah.info? 112).map (λi=>(i.zero,i.size,i.bytes))=θ (θ (.agg #[.int .i64 0,.int .i64 0,.slice η 0 0]),3,40):=by kernel_rfl
open Go.Lib
def sp(c:UInt8):List UInt8->List (List UInt8)
 |[]=>[[]]
 |x::l=>if x=c then[]::sp c l else((x::(sp c l).headD [])::(sp c l).tail)
def jn(c:UInt8):List (List UInt8)->List UInt8
 |[]=>[]
 |[l]=>l
 |l::m::r=>l++c::jn c (m::r)
theorem zg c l:sp c l≠[]:=by
 cases l with
 |nil=>simp[sp]
 |cons x l=>unfold sp;split<;>simp
theorem xB c l:∃h t,sp c l=h::t:=by
 cases h:sp c l with
 |nil=>exact absurd h (zg c l)
 |cons a b=>exact⟨a,b,rfl⟩
theorem vF c l:sp c (c::l)=[]::sp c l:=by rw[sp,χ rfl]
theorem sP{c x}(h:x≠c){l}{a}{t}(e:sp c l=a::t):sp c (x::l)=(x::a)::t:=by rw[sp,ς h,e];rfl
theorem Q8{c}:∀{l:List UInt8},c∉l->sp c l=[l]
 |[],_=>rfl
 |x::l,h=>by have hx:x≠c:=λe=>h (by simp[e]);rw[sP hx (Q8 (λk=>h (List.mem_cons_of_mem _ k)))]
theorem Q9{c}:∀{a:List UInt8} (l:List UInt8),c∉a->sp c (a++c::l)=a::sp c l
 |[],l,_=>vF c l
 |x::a,l,h=>by have hx:x≠c:=λe=>h (by simp[e]);rw[List.cons_append,sP hx (Q9 l (λk=>h (List.mem_cons_of_mem _ k)))]
theorem Zi c a{t}(h:t≠[]):jn c (a::t)=a++c::jn c t:=by
 cases t with
 |nil=>exact absurd rfl h
 |cons b t=>rfl
theorem amO c x a t:jn c ((x::a)::t)=x::jn c (a::t):=by
 cases t with
 |nil=>rfl
 |cons b t=>rfl
theorem DV c:∀l:List UInt8,jn c (sp c l)=l
 |[]=>rfl
 |x::l=>by
  by_cases h:x=c
  .subst h;rw[vF,Zi _ _ (zg _ _),DV x l];rfl
  .obtain⟨a,t,e⟩:=xB c l;rw[sP h e,amO,<- e,DV c l]
theorem Ra c:∀l:List UInt8,sp c (l++[c])=sp c l++[[]]
 |[]=>by rw[List.nil_append,vF];rfl
 |x::l=>by
  by_cases h:x=c
  .subst h;rw[List.cons_append,vF,vF,Ra x l];rfl
  .obtain⟨a,t,e⟩:=xB c l;have:=Ra c l;rw[e]at this;rw[List.cons_append,sP h this,sP h e];rfl
theorem Lg{c x}(hx:x≠c):∀(l:List UInt8) (i:List (List UInt8)) (a:List UInt8),sp c l=i++[a]->sp c (l++[x])=i++[a++[x]]
 |[],i,a,h=>by
  have:sp c []=[[]]:=rfl;rw[this]at h;cases i with
  |nil=>simp at h;subst h;rw[List.nil_append,sP hx (show sp c []=[]::[]from rfl)];rfl
  |cons b i=>cases i<;>simp at h
 |y::l,i,a,h=>by
  by_cases hy:y=c
  .subst hy;rw[vF]at h;rw[List.cons_append,vF];cases i with
   |nil=>simp at h;exact absurd h.2 (zg _ _)
   |cons b i=>
    simp at h;rw[Lg hx l i a h.2,h.1];rfl
  .obtain⟨b,t,e⟩:=xB c l;rw[sP hy e]at h;cases i with
   |nil=>
    simp at h;obtain⟨rfl,rfl⟩:=h;rw[List.cons_append,sP hy (Lg hx l [] b (by rw[e];rfl))];rfl
   |cons d i=>
    simp at h;obtain⟨rfl,rfl⟩:=h;rw[List.cons_append,sP hy (Lg hx l (b::i) a (by rw[e];rfl))];rfl
theorem zh c:∀l:List UInt8,(sp c l).length<=l.length+1
 |[]=>by simp[sp]
 |x::l=>by
  have:=zh c l;obtain⟨a,t,e⟩:=xB c l;rw[e]at this;by_cases h:x=c
  .subst h;rw[vF,e];simpa using this
  .rw[sP h e];simp at this ⊢;omega
theorem Zj c:∀(l:List UInt8),∀a∈sp c l,a.length<=l.length
 |[],a,h=>by simp[sp]at h;simp[h]
 |x::l,a,h=>by
  have ih:=Zj c l;obtain⟨b,t,e⟩:=xB c l;by_cases hx:x=c
  .subst hx;rw[vF]at h;rcases List.mem_cons.1 h with rfl|h
   .simp
   .have:=ih a h;simp;omega
  .rw[sP hx e]at h;rw[e]at ih;rcases List.mem_cons.1 h with rfl|h
   .have:=ih b (by simp);simp;omega
   .have:=ih a (List.mem_cons_of_mem _ h);simp;omega
def nP(b:UInt8):Bool:=decide (48<=b.toNat)&&decide (b.toNat<=57)
def nv(n:Nat)(l:List UInt8):Nat:=l.foldl (λn b=>10*n+(b.toNat- 48)) n
def Rb(l:List UInt8):Bool:=decide (1<=l.length)&&(decide (l.length<=4)&&(!(decide (l.head?=θ 48)&&decide (1<l.length))&&l.all nP))
def nm(l:List UInt8):Option Int:=if Rb l=ν then θ (nv 0 l:Nat)else η
theorem Zk l:Rb l=ν↔1<=l.length/\l.length<=4/\¬(l.head?=θ 48/\1<l.length)/\∀b∈l,nP b=true:=by unfold Rb;rw[Bool.and_eq_true,Bool.and_eq_true,Bool.and_eq_true,List.all_eq_true,kC,kC,Bool.not_eq_true',<- Bool.not_eq_true,Bool.and_eq_true,kC,kC]
theorem Rc b:nP b=ν↔48<=b.toNat/\b.toNat<=57:=by unfold nP;simp
theorem Zl n l b:nv n (l++[b])=10*nv n l+(b.toNat- 48):=by unfold nv;rw[List.foldl_append];rfl
theorem Zm{α:Type}{p:List α->Prop}(h0:p [])(h1:∀l x,p l->p (l++[x])):∀(n:Nat) (l:List α),l.length=n->p l
 |0,l,h=>by rw[List.eq_nil_of_length_eq_zero h];exact h0
 |n+1,l,h=>by
  rcases List.eq_nil_or_concat l with rfl|⟨a,x,rfl⟩
  .exact h0
  .rw[List.concat_eq_append]at h ⊢;exact h1 a x (Zm h0 h1 n a (by simpa using h))
theorem amP l(h:∀b∈l,nP b=ν):nv 0 l<10 ^ l.length:=by revert h;refine Zm (p:=λl=>(∀b∈l,nP b=ν)->nv 0 l<10 ^ l.length) (λ_=>by simp[nv]) (λl b ih h=>?_) l.length l rfl;have h1:=ih λx hx=>h x (by simp[hx]);have h2:=(Rc b).1 (h b (by simp));rw[Zl,List.length_append,List.length_singleton,Nat.pow_succ];omega
theorem amQ l(h:∀b∈l,nP b=ν)(h4:l.length<=4):nv 0 l<=9999:=by have:=amP l h;have:10 ^ l.length<=10 ^ 4:=Nat.pow_le_pow_right (by decide) h4;omega
theorem amR{n}(h:0<=n):itoa n=decDigits n.toNat:=by unfold itoa;rw[ς (by omega)]
def fD:List (List UInt8)->Option (List Int)
 |[]=>θ []
 |w::ws=>match nm w with
  |none=>η
  |some n=>match fD ws with
   |none=>η
   |some l=>θ (n::l)
def mB:List UInt8:=[116,105,109,101]
def ru:List UInt8:=[118,101,114,116,101,120]
def oJ:List UInt8:=[101,100,103,101]
def ry:List UInt8:=[108,101,103]
def Lh(es:List eF)(l:jD):List eF:=match es.getLast? with
 |none=>es
 |some e=>es.dropLast++[(e.1,e.2.1,e.2.2++[l])]
def put(g:bg)(k:List UInt8)(ns:List Int):Option bg:=
 match ns with
 |[a]=>if k=mB then θ {g with hor:=a }else η
 |[a,b]=>if k=ru/\g.af=[]then θ {g with lives:=g.lives++[(a,b)] }else if k=oJ then θ {g with af:=g.af++[(a,b,[])] }else η
 |[a,b,c,d]=>if k=ry/\g.af≠[]then θ {g with af:=Lh g.af (a,b,c,d) }else η
 |_=>η
def sQ(k:List UInt8):Bool:=decide (k=mB)
def xC(g:bg)(first:Bool)(k:List UInt8)(t:List (List UInt8)):Option bg:=
 match fD t with
 |none=>η
 |some ns=>if first=sQ k then put g k ns else η
def lu(g:bg)(l:List UInt8)(first:Bool):Option bg:=xC g first ((sp 32 l).headD []) (sp 32 l).tail
theorem Zn{l}{first}{k}{t}(e:sp 32 l=k::t):lu g l first=xC g first k t:=by unfold lu;rw[e];rfl
theorem Zo{first}{k}{t}(h:fD t=η):xC g first k t=none:=by unfold xC;rw[h]
theorem Re{first}{k}{t}(h:first≠sQ k):xC g first k t=none:=by
 unfold xC;cases fD t with
 |none=>rfl
 |some ns=>simp only[ς h]
theorem Li{first}{k}{t}(h:fD t=θ ns)(h1:first=sQ k):xC g first k t=put g k ns:=by unfold xC;rw[h];simp only[χ h1]
theorem amS{g'}{first}{k}{t}(h:xC g first k t=θ g'):∃ns,fD t=θ ns/\first=sQ k/\put g k ns=θ g':=by
 cases h1:fD t with
 |none=>rw[Zo h1]at h;simp at h
 |some ns=>
  by_cases h2:first=sQ k
  .exact⟨ns,rfl,h2,by rw[<-h,Li h1 h2]⟩
  .rw[Re h2]at h;simp at h
def gT(g:bg)(at':Nat)(first:Bool):List (List UInt8)->bg ⊕ Nat
 |[]=>.inr at'
 |[l]=>if first=ο/\l=[]then .inl g else .inr at'
 |l::m::r=>match lu g l first with
  |none=>.inr at'
  |some g'=>gT g' (at'+1) ο (m::r)
def g0:bg:=⟨0,[],[]⟩
def parse(s:List UInt8):bg×Int×Int:=
 if 8192<s.length then(g0,0,2)else match gT g0 1 ν (sp 10 s)with
  | .inr n=>(g0,n,3)
  | .inl g=>if aK g=0 then(g,0,0)else(g0,0,aK g)
def line(w:List UInt8)(ns:List Int):List UInt8:=w++ns.flatMap (λn=>32::itoa n)++[10]
def uf(p:Int×Int):List UInt8:=line ru [p.1,p.2]
def vG(l:jD):List UInt8:=line ry [l.1,l.2.1,l.2.2.1,l.2.2.2]
def rz(e:eF):List UInt8:=line oJ [e.1,e.2.1]++e.2.2.flatMap vG
def rA(g:bg):List UInt8:=line mB [g.hor]++g.lives.flatMap uf++g.af.flatMap rz
theorem Zp es e l:Lh (es++[e]) l=es++[(e.1,e.2.1,e.2.2++[l])]:=by unfold Lh;simp
theorem Zq{n:Int}(h:0<=n)k(h9:n<(10 ^ (k+1):Nat)):(itoa n).length<=k+1:=by
 rw[amR h,decDigits_length];have:∀(k u:Nat),u<10 ^ (k+1)->nDigits u<=k+1:=by
  intro k;induction k with
  |zero=>intro u hu;rw[nDigits_small (by simpa using hu)];omega
  |succ k ih=>
   intro u hu;by_cases h:u<10
   .rw[nDigits_small h];omega
   .rw[nDigits_big h];have:=ih (u/10) (by rw[Nat.pow_succ]at hu;omega);omega
 exact this k _ (by omega)
theorem Lj{α:Type}(f:α->List UInt8)k:∀(l:List α),(∀x∈l,(f x).length<=k)->(l.flatMap f).length<=k*l.length
 |[],_=>by simp
 |x::l,h=>by have h1:=h x (by simp);have h2:=Lj f k l λy hy=>h y (by simp[hy]);rw[List.flatMap_cons,List.length_append,List.length_cons,Nat.mul_succ];omega
def mC(m:List jD):List Value:=m.flatMap λl=>[.int .i64 l.1,.int .i64 l.2.1,.int .i64 l.2.2.1,.int .i64 l.2.2.2]
def nQ(L:List (eF×ay)):List Value:=L.flatMap λp=>[.int .i64 p.1.1,.int .i64 p.1.2.1,p.2]
theorem amT a b:mC (a++b)=mC a++mC b:=by unfold mC;rw[List.flatMap_append]
theorem Rf a b:nQ (a++b)=nQ a++nQ b:=by unfold nQ;rw[List.flatMap_append]
theorem Rg l m:mC (l::m)=.int .i64 l.1::.int .i64 l.2.1::.int .i64 l.2.2.1::.int .i64 l.2.2.2::mC m:=by unfold mC;rw[List.flatMap_cons];rfl
theorem Rh p m:nQ (p::m)=.int .i64 p.1.1::.int .i64 p.1.2.1::p.2::nQ m:=by unfold nQ;rw[List.flatMap_cons];rfl
theorem Ri:∀m:List jD,(mC m).length=m.length*4
 |[]=>rfl
 |l::m=>by rw[Rg];have:=Ri m;simp[this];omega
theorem Rj:∀m:List (eF×ay),(nQ m).length=m.length*3
 |[]=>rfl
 |l::m=>by rw[Rh];have:=Rj m;simp[this];omega
theorem Zr:∀(m:List jD) (j:Nat) (h:j<m.length),(mC m)[j*4]?=θ (.int .i64 m[j].1)/\(mC m)[j*4+1]?=θ (.int .i64 m[j].2.1)/\(mC m)[j*4+2]?=θ (.int .i64 m[j].2.2.1)/\(mC m)[j*4+3]?=θ (.int .i64 m[j].2.2.2)
 |[],j,h=>by simp at h
 |l::m,0,_=>by rw[Rg];exact⟨rfl,rfl,rfl,rfl⟩
 |l::m,j+1,h=>by have:=Zr m j (by simp at h;omega);rw[Rg,show (j+1)*4=j*4+4 by omega];simpa using this
theorem GQ:∀(m:List (eF×ay)) (j:Nat) (h:j<m.length),(nQ m)[j*3]?=θ (.int .i64 m[j].1.1)/\(nQ m)[j*3+1]?=θ (.int .i64 m[j].1.2.1)/\(nQ m)[j*3+2]?=θ m[j].2
 |[],j,h=>by simp at h
 |l::m,0,_=>by rw[Rh];exact⟨rfl,rfl,rfl⟩
 |l::m,j+1,h=>by have:=GQ m j (by simp at h;omega);rw[Rh,show (j+1)*3=j*3+3 by omega];simpa using this
theorem amU M A B l l' v v':(nQ (M++[((A,B,l),v)])).set (M.length*3+2) v'=nQ (M++[((A,B,l'),v')]):=by rw[Rf,Rf,List.set_append_right _ _ (by rw[Rj];omega),Rj,show M.length*3+2-M.length*3=2 by omega];rfl
theorem amV a b:gp (a++b)=gp a++gp b:=by unfold gp flat;rw[List.flatMap_append,List.map_append]
theorem kK{base size}{v}{b}{T:Θ}{fr}(h:w.ownsRow base e size v n xs)(hb:w.heap[b]?=θ (.cells cs T fr))(hT:T≠e):v.ownBlock≠θ b:=by
 rcases h.2 with⟨rfl,_⟩|⟨g,cap,cur,rfl,_,hg,_⟩
 .simp[oG]
 .intro h;simp only[oG,Γ]at h;subst h;rw[hg]at hb;simp only[Γ,Obj.cells.injEq]at hb;exact hT hb.2.1.symm
theorem j0{base size}{v}{b}{u}(h:w.ownsRow base e size v n xs)(hne:v.ownBlock≠θ b):(w.setCell ⟨b,j,η⟩ u).ownsRow base e size v n xs:=
 h.kept (row:=θ b) ⟨rfl,rfl,rfl,by simp[eV],λk _ hk=>Below.heap_setCell _ _ _ _ (λe=>hk (by simp[e]))⟩ (Or.inr hne)
theorem GR{base size}{v}{b}(h:w.ownsRow base e size v n xs)(hb:v.ownBlock=θ b):∃cur,w.heap[b]?=θ (.cells cur e (0,0)):=by
 rcases h.2 with⟨rfl,_⟩|⟨g,cap,cur,rfl,_,hg,_⟩
 .simp[oG]at hb
 .simp only[oG,Γ]at hb;subst hb;exact⟨cur,hg⟩
theorem DW{base e' size size'}{v v'}{n'}{xs'}(h:w.ownsRow base e size v n xs)(h':w.ownsRow base e' size' v' n' xs')(hg:w.grownBy w' v'.ownBlock)(hne:e≠e'):w'.ownsRow base e size v n xs:=by
 refine h.kept hg ?_;cases hv:v.ownBlock with
 |none=>simp
 |some b=>
  obtain⟨cur,hb⟩:=GR h hv;exact .inr λk=>kK h' hb hne k.symm
theorem xD{b}{o}(h:w.heap[b]?=θ o):b<w.heap.size:=by
 rcases Nat.lt_or_ge b w.heap.size with k|k
 .exact k
 .rw[gx k]at h;simp at h
structure nu(B b:Nat)(w:υ)(hor:Int)(cG cO:ay)(lives:List (Int×Int))(L:List (eF×ay)):Prop where
 box:w.heap[b]?=θ (.cells #[.int .i64 hor,cG,cO] 59 (0,0))
 low:B<=b
 lv:w.ownsRow B 109 2 cG lives.length (gp lives)
 ed:w.ownsRow B 112 3 cO L.length (nQ L)
 lg:∀p∈L,w.ownsRow B 167 4 p.2 p.1.2.2.length (mC p.1.2.2)
 ap:∀M p,L=M++[p]->∀q∈M,q.2.ownBlock=η\/q.2.ownBlock≠p.2.ownBlock
theorem nu.below{b}{hor}{lives}(h:nu B b w hor cG cO lives L)(hb:Below w.heap.size w w'):nu B b w' hor cG cO lives L:=
 ⟨by rw[hb.block _ (xD h.box)];exact h.box,h.low,cE h.lv hb,cE h.ed hb,λp hp=>cE (h.lg p hp) hb,h.ap⟩
theorem nu.first B b w(hb:w.heap[b]?=θ (.cells #[.int .i64 0,.slice η 0 0,.slice η 0 0] 59 (0,0)))(hB:B<=b):nu B b w 0 (.slice η 0 0) (.slice η 0 0) [] []:=
 ⟨hb,hB,dJ _ _ _ _,dJ _ _ _ _,λp hp=>by simp at hp,λM p h=>by simp at h⟩
theorem GS{b}{T:Θ}{fr}(h:w.heap[b]?=θ (.cells cs T fr))j u:(w.setCell ⟨b,j,η⟩ u).heap[b]?=θ (.cells (cs.setIfInBounds j u) T fr):=by simp[eV,q6,h]
theorem nu.amW{b}{hor}{lives}(h:nu B b w hor cG cO lives L)x:nu B b (w.setCell ⟨b,0,η⟩ (.int .i64 x)) x cG cO lives L:=
 ⟨by rw[GS h.box];rfl,h.low,j0 h.lv (kK h.lv h.box (by decide)),j0 h.ed (kK h.ed h.box (by decide)),λp hp=>j0 (h.lg p hp) (kK (h.lg p hp) h.box (by decide)),h.ap⟩
theorem nu.life{b}{wa w1}{hor}{v'}{lives}{x y}(h:nu B b w hor cG cO lives L)(hb:Below w.heap.size w wa)(hg:wa.grownBy w1 cG.ownBlock)(ho:w1.ownsRow B 109 2 v' (lives.length+1) (gp lives++[.int .i64 x,.int .i64 y])):w1.heap[b]?=θ (.cells #[.int .i64 hor,cG,cO] 59 (0,0))/\nu B b (w1.setCell ⟨b,1,η⟩ v') hor v' cO (lives++[(x,y)]) L:=by
 have ha:=h.below hb;have jF:w1.heap[b]?=θ (.cells #[.int .i64 hor,cG,cO] 59 (0,0)):=by rw[hg.block b (xD ha.box) (λk=>kK ha.lv ha.box (by decide) k.symm)];exact ha.box
 have jE:=DW ha.ed ha.lv hg (by decide);have zi:=λp hp=>DW (ha.lg p hp) ha.lv hg (by decide);refine⟨jF,by rw[GS jF];rfl,h.low,?_,j0 jE (kK jE jF (by decide)),λp hp=>j0 (zi p hp) (kK (zi p hp) jF (by decide)),h.ap⟩;have:=j0 (b:=b) (j:=1) (u:=v') ho (kK ho jF (by decide));rw[List.length_append,amV];exact this
theorem nu.Kb{b}{wa w1}{hor}{v'}{lives}{x y}(h:nu B b w hor cG cO lives L)(hb:Below w.heap.size w wa)(hg:wa.grownBy w1 cO.ownBlock)(ho:w1.ownsRow B 112 3 v' (L.length+1) (nQ L++[.int .i64 x,.int .i64 y,.slice η 0 0])):w1.heap[b]?=θ (.cells #[.int .i64 hor,cG,cO] 59 (0,0))/\nu B b (w1.setCell ⟨b,2,η⟩ v') hor cG v' lives (L++[((x,y,[]),.slice η 0 0)]):=by
 have ha:=h.below hb;have jF:w1.heap[b]?=θ (.cells #[.int .i64 hor,cG,cO] 59 (0,0)):=by rw[hg.block b (xD ha.box) (λk=>kK ha.ed ha.box (by decide) k.symm)];exact ha.box
 have hlv:=DW ha.lv ha.ed hg (by decide);have zi:=λp hp=>DW (ha.lg p hp) ha.ed hg (by decide);refine⟨jF,by rw[GS jF];rfl,h.low,j0 hlv (kK hlv jF (by decide)),?_,λp hp=>?_,λM p e q hq=>?_⟩
 .have:=j0 (b:=b) (j:=2) (u:=v') ho (kK ho jF (by decide));rw[List.length_append,Rf];exact this
 .rcases List.mem_append.1 hp with k|k
  .exact j0 (zi p k) (kK (zi p k) jF (by decide))
  .rw[List.mem_singleton.1 k];exact dJ _ _ _ _
 .have e2:=List.append_inj_right' e rfl;simp only[List.cons.injEq,CS]at e2;subst e2;cases q.2.ownBlock<;>simp[oG]
theorem nu.amX{b}{wa w1}{hor}{v}{ge}{lives}{M}{A C}{aH}{l}{g' n' c' H}(h:nu B b w hor cG (.slice (θ ⟨ge,0,η⟩) (M.length+1) cap) lives (M++[((A,C,aH),v)]))(hb:Below w.heap.size w wa)(hg:wa.grownBy w1 v.ownBlock)(ho:w1.ownsRow B 167 4 (.slice (θ ⟨g',0,η⟩) n' c') (aH.length+1) (mC aH++[.int .i64 l.1,.int .i64 l.2.1,.int .i64 l.2.2.1,.int .i64 l.2.2.2]))(hat:v.ownBlock=θ g'\/g'=H)(hH:w.heap.size<=H):w1.heap[b]?=θ (.cells #[.int .i64 hor,cG,.slice (θ ⟨ge,0,η⟩) (M.length+1) cap] 59 (0,0))/\w1.cell? ⟨ge,M.length*3+2,η⟩=θ v/\w1.frozen? ⟨ge,M.length*3+2,η⟩=ο /\
  nu B b (w1.setCell ⟨ge,M.length*3+2,η⟩ (.slice (θ ⟨g',0,η⟩) n' c')) hor cG (.slice (θ ⟨ge,0,η⟩) (M.length+1) cap) lives (M++[((A,C,aH++[l]),.slice (θ ⟨g',0,η⟩) n' c')]):=by
 have ha:=h.below hb;have DX:=ha.lg ((A,C,aH),v) (by simp);have jF:w1.heap[b]?=θ (.cells #[.int .i64 hor,cG,.slice (θ ⟨ge,0,η⟩) (M.length+1) cap] 59 (0,0)):=by rw[hg.block b (xD ha.box) (λk=>kK DX ha.box (by decide) k.symm)];exact ha.box
 have hlv:=DW ha.lv DX hg (by decide);have jE:=DW ha.ed DX hg (by decide);have hlen:(M++[((A,C,aH),v)]).length=M.length+1:=by simp
 rw[hlen]at jE;obtain⟨cur,hge⟩:=GR jE (b:=ge) rfl;have zi:∀q∈M,w1.ownsRow B 167 4 q.2 q.1.2.2.length (mC q.1.2.2):=λq hq=>(ha.lg q (by simp[hq])).kept hg (h.ap M _ rfl q hq);have hst:=(jE.stored (M.length*3+2) (.slice (θ ⟨g',0,η⟩) n' c')).1;have BB:ge≠b:=λe=>by subst e;rw[jF]at hge;simp at hge
 refine⟨jF,?_,jE.frozenAt _,?_,h.low,j0 hlv (kK hlv hge (by decide)),?_,λp hp=>?_,λM' p e q hq=>?_⟩
 .rw[jE.cellAt _ (by omega)];have:=(GQ (M++[((A,C,aH),v)]) M.length (by simp)).2.2;simpa using this
 .rw[Below.heap_setCell _ _ _ _ (jx BB)];exact jF
 .rw[amU M A C aH (aH++[l])]at hst;simpa using hst
 .rcases List.mem_append.1 hp with k|k
  .exact j0 (zi p k) (kK (zi p k) hge (by decide))
  .rw[List.mem_singleton.1 k];have:=j0 (b:=ge) (j:=M.length*3+2) (u:=.slice (θ ⟨g',0,η⟩) n' c') ho (kK ho hge (by decide));rw[List.length_append,amT];exact this
 .have e2:=List.append_inj_right' e rfl;have e1:=List.append_inj_left' e rfl;simp only[List.cons.injEq,CS]at e2;subst e2 e1;cases vg:q.2.ownBlock with
  |none=>simp
  |some k=>
   right;intro hk;simp only[oG]at hk;rcases hat with hat|hat
   .have:=h.ap M _ rfl q hq;rw[vg]at this;rcases this with k'|k'
    .simp at k'
    .exact k' (by rw[hk,hat])
   .have:=((h.lg q (by simp[hq])).lt k vg).2;simp at hk;omega
def sR(B b:Nat)(w:υ)(g:bg):Prop:=∃cG cO L,nu B b w g.hor cG cO g.lives L/\g.af=L.map (·.1)
theorem sR.below{b}(h:sR B b w g)(hb:Below w.heap.size w w'):sR B b w' g:=by obtain⟨cG,cO,L,h,e⟩:=h;exact⟨cG,cO,L,h.below hb,e⟩
theorem Zs{base}{v}{m}(h:w.ownsRow base e 4 v n (mC m)):∃ao cap,v=.slice ao m.length cap/\pn w ao m/\m.length<=cap/\cap<=9223372036854775807:=by
 obtain⟨h1,h2⟩:=h;simp only[Ri]at h1;have hn:n=m.length:=by omega
 subst hn;rcases h2 with⟨rfl,h0⟩|⟨g,cap,cur,rfl,hb,hh,h3,h4,h5,h6⟩
 .exact⟨η,0,by rw[h0],.inl (List.eq_nil_of_length_eq_zero h0),by omega,by omega⟩
 .have hown:w.ownsRow base e 4 (.slice (θ ⟨g,0,η⟩) m.length cap) m.length (mC m):=⟨by simp[Ri],.inr ⟨g,cap,cur,rfl,hb,hh,h3,h4,h5,h6⟩⟩;refine⟨_,cap,rfl,.inr ⟨g,0,rfl,(ξ.1 hh).1,λj hj=>?_⟩,h3,by unfold maxLen at h4;omega⟩;obtain⟨f0,f1,f2,f3⟩:=Zr m j hj;rw[Nat.zero_add,hown.cellAt (j*4) (by omega),hown.cellAt (j*4+1) (by omega),hown.cellAt (j*4+2) (by omega),hown.cellAt (j*4+3) (by omega),List.getD_eq_getElem?_getD,List.getElem?_eq_getElem hj];exact⟨f0,f1,f2,f3⟩
theorem mD{base size}{v}(h:w.ownsRow base e size v n xs):∃ao cap,v=.slice ao n cap/\n<=cap/\cap<=9223372036854775807:=by
 rcases h.2 with⟨rfl,h0⟩|⟨g,cap,cur,rfl,hb,hh,h3,h4,_⟩
 .exact⟨η,0,by rw[h0],by omega,by omega⟩
 .exact⟨_,cap,rfl,h3,by unfold maxLen at h4;omega⟩
theorem nu.sS{b}{hor}{lives}(h:nu B b w hor cG cO lives L):∃la lc ea ec,cG=.slice la lives.length lc/\cO=.slice ea L.length ec/\cL w la ea ⟨hor,lives,L.map (·.1)⟩/\lives.length<=lc/\lc<=9223372036854775807:=by
 obtain⟨la,lc,rfl,hlv⟩:=GP h.lv;obtain⟨_,_,e1,n1,n2⟩:=mD h.lv;simp only[jU]at e1;obtain⟨rfl,_,rfl⟩:=e1;obtain⟨ea,ec,rfl,n3,Gu⟩:=mD h.ed;refine⟨la,lc,ea,ec,rfl,rfl,⟨hlv,?_,by simp only;omega,by simp only[List.length_map];omega⟩,n1,n2⟩;rcases h.ed.2 with⟨_,h0⟩|⟨g,cap,cur,e2,hb,hh,_⟩
 .exact .inl (by simp only;rw[List.eq_nil_of_length_eq_zero h0];rfl)
 .simp only[jU]at e2;obtain⟨rfl,_,rfl⟩:=e2;refine .inr ⟨g,0,rfl,(ξ.1 hh).1,λj hj=>?_⟩;have hj':j<L.length:=by simpa using hj
  obtain⟨f0,f1,f2⟩:=GQ L j hj';obtain⟨a,c,hv,hl,m1,m2⟩:=Zs (h.lg L[j] (List.getElem_mem hj'));have ej:(L.map (·.1))[j]=L[j].1:=by simp
  unfold DU;simp only[ej];rw[Nat.zero_add,h.ed.cellAt (j*3) (by omega),h.ed.cellAt (j*3+1) (by omega),h.ed.cellAt (j*3+2) (by omega)];exact⟨f0,f1,a,c,by rw[f2,hv],hl,m1,m2⟩
theorem Zt{c}:∀{l:List UInt8},c∉l->index l [c]= -1
 |[],_=>by simp[index]
 |b::l,h=>by
  have hb:b≠c:=λe=>h (by simp[e]);have hp:([c]:List UInt8).isPrefixOf (b::l)=false:=by simp[List.isPrefixOf,jx hb]
  rw[index,hp,Zt λk=>h (List.mem_cons_of_mem _ k)];simp
theorem Rk{c}:∀{a:List UInt8} (l:List UInt8),c∉a->index (a++c::l) [c]=(a.length:Int)
 |[],l,_=>by rw[List.nil_append,index];simp[List.isPrefixOf]
 |b::a,l,h=>by
  have hb:b≠c:=λe=>h (by simp[e]);have hp:([c]:List UInt8).isPrefixOf (b::(a++c::l))=false:=by simp[List.isPrefixOf,jx hb]
  have ih:=Rk l λk=>h (List.mem_cons_of_mem _ k);rw[List.cons_append,index,hp,ih];simp
theorem Rl{c}:∀{l:List UInt8},c∈l->∃a r,l=a++c::r/\c∉a
 |[],h=>by simp at h
 |b::l,h=>by
  by_cases hb:b=c
  .subst hb;exact⟨[],l,rfl,by simp⟩
  .rcases List.mem_cons.1 h with k|k
   .exact absurd k.symm hb
   .obtain⟨a,r,e,hn⟩:=Rl k;exact⟨b::a,r,by rw[e];rfl,λq=>by rcases List.mem_cons.1 q with q|q;exact hb q.symm;exact hn q⟩
theorem amY c:∀(n:Nat) (l:List UInt8),l.length<=n->splitK [c] 0 (l.count c) l=sp c l:=by
 intro n;induction n with
 |zero=>
  intro l h;have e:l=[]:=List.eq_nil_of_length_eq_zero (by omega);subst e;rfl
 |succ n ih=>
  intro l h;by_cases hc:c∈l
  .obtain⟨a,r,rfl,ha⟩:=Rl hc;(have e:(a++c::r).count c=r.count c+1:=by rw[List.count_append,List.count_eq_zero_of_not_mem ha,List.count_cons_self];omega);have i:=Rk r ha;rw[e,splitK,ς (by rw[i];simp),i,Q9 r ha];(have d:(a++c::r).drop (((a.length:Int)).toNat+([c]:List UInt8).length)=r:=by simp[List.drop_append]);(have t:(a++c::r).take (((a.length:Int)).toNat+0)=a:=by simp);rw[d,t,ih r (by simp at h;omega)]
  .rw[List.count_eq_zero_of_not_mem hc,Q8 hc];rfl
theorem Rm c s:(splitB ⟨#[c]⟩ 0 (countB s ⟨#[c]⟩) s).map (·.data.toList)=sp c s.data.toList:=by rw[splitB_data];show splitK [c] 0 (count s.data.toList [c]) _=_;rw[count_one,amY c _ _ (Nat.le_refl _)]
theorem Zu c s:countB s ⟨#[c]⟩+1=(sp c s.data.toList).length:=by rw[<-Rm,List.length_map,splitB_all _ (by simp[ByteArray.size]) 0 _ s rfl]
theorem amZ{c}{l}(h:c∉l):cut l [c]=(l,[],ο):=by unfold cut;rw[Zt h,ς (by decide)]
theorem am0{c}{a}r(h:c∉a):cut (a++c::r) [c]=(a,r,ν):=by unfold cut;rw[Rk r h,χ (by omega)];simp[List.drop_append]
theorem am1 c l:(∃a m r,sp c l=a::m::r/\cut l [c]=(a,jn c (m::r),ν)/\sp c (jn c (m::r))=m::r)\/(sp c l=[l]/\cut l [c]=(l,[],ο)):=by
 by_cases hc:c∈l
 .obtain⟨a,r,rfl,ha⟩:=Rl hc;obtain⟨m,t,e⟩:=xB c r;refine .inl ⟨a,m,t,by rw[Q9 r ha,e],?_,?_⟩
  .rw[<-e,DV,am0 r ha]
  .rw[<-e,DV]
 .exact .inr ⟨Q8 hc,amZ hc⟩
end Go.Proofs.YtfphigmeppdocaaGreatDoor.Q
