/-
  Several texts in one.
-/
import Derived.Shelf.Abstract
import Derived.Laws.AppendOwnNone
import Derived.Maps.AppendAt
import Derived.Sort.OwnSortedInts
import Derived.Deep.SlicePairs
import Derived.Lib.SlicesCompact
import Derived.Test.YtfphigmeppdocaaGreatDoorPk3
open Array renaming getElem?_eq_some_iff->ξ,replicate->Δ,getElem?_eq_none->gx,append_empty->nF,getElem?_modify->q6
open Bool renaming true->ν,false->ο
open Classical renaming choose_spec->l5,choose->mP
open Decidable renaming not_not->tq
open Go renaming World->υ,TypeId->Θ,Calls->Ξ,Value->ay,bodyPost_ret->cR,info_parts->er,wpAnyH_done->gU,madeCells->fo,callFunc->gX,wpList_append_lies->zX,wpQuiet_nil->pq,wpList_append_own->x7,mem_ready->lz,wpList_make_full->uh,step_append_lies->DY,wrap_small->uj,toList_madeCells_one->abh,getD_set_true->zj,wpAny->j3,results_none->BD,bodyPost_end->DZ,holds_of_blockI->abj,ownsRow_sortedI->abk,grownBy_sortedI->abl
open Go.Act renaming put->dz
open Go.Addr.mk renaming injEq->GV
open Go.Exit renaming inBlock->lB
open Go.Instr renaming makeFunc->DD
open Go.Lib renaming cell_of_heap->eu,compact->pW,compactUpTo->Et
open Go.NoPanic renaming normal->rB
open Go.Region renaming wanted->cF,ready->dZ,binds->k9,lexB->zn,Mode->D3
open Go.Value renaming int->bM,ownBlock->oG,slice->j4,oneCell'->zo,bool->sw
open Go.Value.slice renaming injEq->jU
open Go.World renaming ownsRow_nil->dJ,setCell->eV,news_of_block->nR,size_alloc->lC,cell?_setCell_far->x8,cell?_setCell_other->Eu,block_lt_of_cell?->Ev,cell?_alloc_at->B1,ownsRow->x9,cell?_alloc_past->L8,cell?_setCell_same->SH
open Go.World.ownsRow renaming alloc->fW,frozenAt->mX,lt->kL,cellAt->qi
open Ne renaming symm->jx
open Option renaming none->η,some->θ,getD_some->Ω,isSome_some->gu,isSome_none->ic,getD_none->jG,map_some->nK,bind_some->C5
open Option.some renaming injEq->Γ,inj->jP
set_option linter.unusedSimpArgs false
set_option maxHeartbeats 8000000
set_option maxRecDepth 100000
namespace Go.Proofs.YtfphigmeppdocaaGreatDoor.Q
open Lo (ah)
open Go.Proofs.Tryz
open Go.RowKit
variable{ops:Array Oper}{cs:Array ay}{d h how t t0 v v0:Int}{F:Int->Int->Option Int}{q:Int×Int×Int}{l:List (Int×Int)}{m:List (Int×Int×Int)}{al:List Bool}{S T ns x:List Int}{xs:List ay}{B cap e aT i j k n r:Nat}{val:Nat->ay}{o st:Oper}{ao:Option Addr}{P:Program}{cO cG:ay}{W W' w w' w0:υ}
variable{M:kq}
variable{pr:b7->Int}
variable{g:bg}{L:List (eF×ay)}
variable{p:b9->Int}{ai:List b9}
theorem dn.cell{b}(h:dn w b n M)(hg:w.grownBy w' (θ b)){a}{x}(hx:w.cell? a=θ x):w'.cell? a=θ x:=by
 refine hg.cell hx (λe=>?_);obtain⟨D,⟨es,clock,hb,_⟩,_⟩:=h;have e:a.block=b:=by simpa using e
 unfold World.cell? at hx;rw[e,hb]at hx;cases hx
theorem ap3{la ea}(h:cL w la ea g)(hs:w.heap.size<=w'.heap.size)(hc:∀a x,w.cell? a=θ x->w'.cell? a=θ x):cL w' la ea g:=by
 refine⟨?_,?_,h.nl,h.ne⟩
 .rcases h.lv with h|⟨b,off,rfl,hlt,hk⟩
  .exact .inl h
  .exact .inr ⟨b,off,rfl,Nat.lt_of_lt_of_le hlt hs,λj hj=>⟨hc _ _ (hk j hj).1,hc _ _ (hk j hj).2⟩⟩
 .rcases h.ed with h|⟨b,off,rfl,hlt,hk⟩
  .exact .inl h
  .refine .inr ⟨b,off,rfl,Nat.lt_of_lt_of_le hlt hs,λj hj=>?_⟩;obtain⟨c0,c1,lo,lc,c2,hl,n1,n2⟩:=hk j hj;refine⟨hc _ _ c0,hc _ _ c1,lo,lc,hc _ _ c2,?_,n1,n2⟩;rcases hl with hl|⟨b',off',rfl,hlt',hk'⟩
   .exact .inl hl
   .exact .inr ⟨b',off',rfl,Nat.lt_of_lt_of_le hlt' hs,λi hi=>⟨hc _ _ (hk' i hi).1,hc _ _ (hk' i hi).2.1,hc _ _ (hk' i hi).2.2.1,hc _ _ (hk' i hi).2.2.2⟩⟩
theorem dn.sS{b}(h:dn w b n M)(hg:w.grownBy w' (θ b)){la ea}(hG:cL w la ea g):cL w' la ea g:=ap3 hG hg.size (λ_ _ hx=>h.cell hg hx)
theorem nt{n}(h0: -1000000<=n)(h1:n<=1000000):mM n:=by unfold mM;omega
theorem ap4{now}(h:M v (now- 1)=η):we g now M v=M:=by unfold we;rw[h]
theorem ap5{now}(h:bl now g.lives v=ο):we g now M v=M:=by
 unfold we;cases M v (now- 1)with
 |none=>rfl
 |some x=>simp[h]
theorem ap6{now}{x}(h:M v (now- 1)=θ x)(ha:bl now g.lives v=ν):we g now M v=if BW (M v now) x.1=ν then lQ M v now x else M:=by unfold we;rw[h];simp only;rw[χ ha]
theorem ap7 g la ea lc ec b n M now w(hG:cL w la ea g)(hR:cQ g)(hM:dn w b n M)(hn:n<50000)(h0:0<=now/\now<1000):Ξ ah 117 #[.map (θ b),.agg #[.int .i64 g.hor,.slice la g.lives.length lc,.slice ea g.af.length ec],.int .i64 now] w λres w'=>(∃v,res=.returned v)/\dn w' b (n+g.lives.length) (pR g now M g.lives.length)/\w.grownBy w' (θ b):=by
 obtain⟨w1,hw1⟩:∃x,x=w.alloc (.cells #[.int .i64 g.hor,.slice la g.lives.length lc,.slice ea g.af.length ec] 59):=⟨_,rfl⟩;have aA:kR w w1 w.heap.size g la ea lc ec:=by rw[hw1];exact qA w g la ea lc ec 59
 have dA:=hM.below aA.aQ;have abm:=hG.below aA.aQ;have hlv:=hR.tF;have g1:=aA.c1;have cY:=hw1.symm;have bS:=aa aA.aQ;have abn:=aa dA;have rC:=aa abm;have ap8:IntKind.i64.wrap (now- 1)=now- 1:=n6 _ (by omega) (by omega);clear hM hG hR hw1 aA dA abm;go_enter ale,ntmps117;go_wp2_with fail;clear cY;go_loopw [15] (λi wr=>∃k:Nat,k<=g.lives.length/\i=.int .i64 k/\dn wr b (n+k) (pR g now M k)/\w1.grownBy wr (θ b)) (λi _=>g.lives.length-(intOf i).toNat)
 case atStart=>exact⟨0,Nat.zero_le _,rfl,abn.out,Hh _ _⟩
 case round=>
  clear g1;obtain⟨k,hk,rfl,pX,hg⟩:=hrel;by_cases bp:k<g.lives.length
  ·(have hki:(k:Int)<(g.lives.length:Int):=by omega);have LY:IntKind.i64.wrap ((k:Int)+1)=(k:Int)+1:=n6 _ (by omega) (by omega);obtain⟨lb,cC,rfl,hlb,l0,l1⟩:∃b off,la=θ ⟨b,off,η⟩/\b<wr.heap.size/\(wr.cell? ⟨b,off+k*2,η⟩=θ (.int .i64 g.lives[k].1)/\wr.cell? ⟨b,off+k*2+1,η⟩=θ (.int .i64 g.lives[k].2)):=by
    rcases(abn.out.sS hg rC.out).lv with h0|⟨b,off,rfl,cp,hc⟩
    .rw[h0]at bp;simp at bp
    exact⟨b,off,rfl,cp,eg.get bp hc⟩
   have hal:=λW=>zG g.lives[k].1 g.lives[k].2 now W;rw[<-pJ now g.lives k bp]at hal;obtain⟨wa,bY⟩:∃x,x=wr.alloc (.cells #[.int .i64 g.lives[k].1,.int .i64 g.lives[k].2] 109):=⟨_,rfl⟩;(have ba:Below wr.heap.size wr wa:=by rw[bY];exact ax wr _);(have y0:wa.cell? ⟨wr.heap.size,0,η⟩=θ (.int .i64 g.lives[k].1):=by rw[bY];exact cx rfl rfl);(have y1:wa.cell? ⟨wr.heap.size,1,η⟩=θ (.int .i64 g.lives[k].2):=by rw[bY];exact cx rfl rfl);(have sa:wr.heap.size<wa.heap.size:=by rw[bY];simp);have SI:=pX.below ba;have k1:=SI.look (v:=(k:Int)) (t:=now- 1) (nt (by omega) (by omega)) (nt (by omega) (by omega));have oa:Hid (pR g now M (k+1)=we g now (pR g now M k) (k:Int)):=rfl;generalize pR g now M k=ya at*;have SJ:Hid (∀W,Below wa.heap.size wa W->w1.grownBy W (θ b)):=λW h=>n4 hg (s5 (bK ba h) _);have SK:Hid (∀W,Below wa.heap.size wa W->dn W b (n+k) ya):=λW h=>SI.below h;have zR:=bY.symm;clear bY pX hg ba SI;(have NO:Hid (pR g now M (k+1)=ya->∀W,Below wa.heap.size wa W->dn W b (n+(k+1)) (pR g now M (k+1))/\w1.grownBy W (θ b)):=λh W hW=>by rw[h];exact⟨(SK.out W hW).mono (by omega),SJ.out W hW⟩);cases h1:ya (k:Int) (now- 1)with
   |none=>
    have bx:=aa (NO.out (oa.out.trans (ap4 h1)));rw[h1]at k1;simp only[kW,jG,qH,ic]at k1;clear h1 hal oa NO;generalize g.lives[k]=iQ at*;go_wp2;go_roundw
    case rel=>exact⟨k+1,by omega,by go_num,(bx.out _ (ax wa _)).1,(bx.out _ (ax wa _)).2⟩
    case measure=>simp[intOf];omega
   |some x=>
    obtain⟨q,pS,d2,a2,e2,pU,c2⟩:=x;rw[h1]at k1;simp only[kW,Ω,qH,gu]at k1;obtain⟨wb,nk⟩:∃x,x=wa.alloc (.cells #[.int .i64 q,.int .i64 pS,.int .i64 d2,.int .i64 a2,.int .i64 e2,.int .i64 pU,.int .i64 c2] 142):=⟨_,rfl⟩;(have bb:Below wa.heap.size wa wb:=by rw[nk];exact ax wa _);(have z0:∀j x,#[bM .i64 q,.int .i64 pS,.int .i64 d2,.int .i64 a2,.int .i64 e2,.int .i64 pU,.int .i64 c2][j]?=θ x->wb.cell? ⟨wa.heap.size,j,η⟩=θ x:=λj x hx=>by rw[nk];exact cx rfl hx);have ap9:=(bb.cell (p:=⟨wr.heap.size,0,η⟩) sa).trans y0;have aqa:=(bb.cell (p:=⟨wr.heap.size,1,η⟩) sa).trans y1;(have sb:wa.heap.size<wb.heap.size:=by rw[nk];simp);have LW:=nk.symm;clear nk;cases ha:bl now g.lives (k:Int)with
    |false=>
     rw[ha]at hal;have bx:=aa (λW h=>NO.out (oa.out.trans (ap5 ha)) W (bK bb h));clear h1 oa NO ha z0;generalize g.lives[k]=iQ at*;go_wp2_with fail;refine(hal _).mono ?_;rintro r aO ⟨rfl,bT⟩;have L9:=aa (bx.out _ bT);clear hal bT bx;go_wp2;go_roundw
     case rel=>exact⟨k+1,by omega,by go_num,L9.out.1,L9.out.2⟩
     case measure=>simp[intOf];omega
    |true=>
     (rw[ha]at hal;have e6:Hid (pR g now M (k+1)=if BW (ya (k:Int) now) q=ν then lQ ya (k:Int) now (q,pS,d2,a2,e2,pU,c2)else ya):=oa.out.trans (ap6 h1 ha);have mE:=aa z0;clear h1 oa ha z0;generalize g.lives[k]=iQ at*;go_wp2_with fail;refine(hal _).mono ?_;rintro r aO ⟨rfl,bT⟩;have kr:=SK.out aO (bK bb bT);have k2:=kr.look (v:=(k:Int)) (t:=now) (nt (by omega) (by omega)) (nt (by omega) (by omega));have YES:Hid (pR g now M (k+1)=lQ ya (k:Int) now (q,pS,d2,a2,e2,pU,c2)->∀W,Below aO.heap.size aO W->∃w',(Instr.mapUpdate 138 (.map (θ b)) (.agg #[.int .i64 (k:Int),.int .i64 now]) (.agg #[.int .i64 q,.int .i64 pS,.int .i64 d2,.int .i64 a2,.int .i64 e2,.int .i64 pU,.int .i64 c2])).run ah W=.ok () w'/\Hid (dn w' b (n+(k+1)) (pR g now M (k+1))/\w1.grownBy w' (θ b))):=λh W hW=>by obtain⟨w',r1,r2,r3⟩:=(kr.below hW).store (by unfold maxLen;omega) (v:=(k:Int)) (t:=now) (nt (by omega) (by omega)) (nt (by omega) (by omega)) (q,pS,d2,a2,e2,pU,c2);exact⟨w',r1,by rw[h];exact r2,n4 (SJ.out W (bK bb (bK bT hW))) r3⟩);have ak:Hid (∀W,Below aO.heap.size aO W->∀j x,#[bM .i64 q,.int .i64 pS,.int .i64 d2,.int .i64 a2,.int .i64 e2,.int .i64 pU,.int .i64 c2][j]?=θ x->W.cell? ⟨wa.heap.size,j,η⟩=θ x):=λW hW j x hx=>((bK bT hW).cell (p:=⟨wa.heap.size,j,η⟩) sb).trans (mE.out j x hx);have SL:Hid (pR g now M (k+1)=ya->∀W,Below aO.heap.size aO W->dn W b (n+(k+1)) (pR g now M (k+1))/\w1.grownBy W (θ b)):=λh W hW=>NO.out h W (bK bb (bK bT hW));clear hal kr NO SK SJ zR LW k1 y0 y1 ap9 aqa bb bT mE l0 l1;cases h2:ya (k:Int) now with
     |none=>
      rw[h2]at k2;simp only[kW,jG,qH,ic]at k2;have aX:=aa (YES.out (by rw[e6.out,h2];rfl));clear h2 e6 YES;obtain⟨o,ho⟩:∃o:Obj,o=.cells #[.int .i64 0,.int .i64 0,.int .i64 0,.int .i64 0,.int .i64 0,.int .i64 0,.int .i64 0] 142:=⟨_,rfl⟩;obtain⟨w',B0,aJ⟩:=aX.out _ (ax aO o);have c0:=ak.out _ (ax aO o) 0 _ rfl;have c1:=ak.out _ (ax aO o) 1 _ rfl;have rH:=ak.out _ (ax aO o) 2 _ rfl;have c3:=ak.out _ (ax aO o) 3 _ rfl;have c4:=ak.out _ (ax aO o) 4 _ rfl;have c5:=ak.out _ (ax aO o) 5 _ rfl;have nS:=ak.out _ (ax aO o) 6 _ rfl;subst ho;clear aX ak;go_wp2;go_roundw
      case rel=>exact⟨k+1,by omega,by go_num,aJ.out.1,aJ.out.2⟩
      case measure=>simp[intOf];omega
     |some y=>
      obtain⟨q2,rO,d3,a3,e3,rP,c3⟩:=y;rw[h2]at k2;simp only[kW,Ω,qH,gu]at k2;obtain⟨bW,dU⟩:∃x,x=aO.alloc (.cells #[.int .i64 q2,.int .i64 rO,.int .i64 d3,.int .i64 a3,.int .i64 e3,.int .i64 rP,.int .i64 c3] 142):=⟨_,rfl⟩;(have b6:Below aO.heap.size aO bW:=by rw[dU];exact ax aO _);(have v0:bW.cell? ⟨aO.heap.size,0,η⟩=θ (.int .i64 q2):=by rw[dU];exact cx rfl rfl);have c0:=ak.out bW b6 0 _ rfl;have c1:=ak.out bW b6 1 _ rfl;have rH:=ak.out bW b6 2 _ rfl;have ap2:=ak.out bW b6 3 _ rfl;have c4:=ak.out bW b6 4 _ rfl;have c5:=ak.out bW b6 5 _ rfl;have nS:=ak.out bW b6 6 _ rfl;have BT:=dU.symm;clear dU ak;by_cases hl:q<=q2
      .have aX:=aa (YES.out (by rw[e6.out,h2,χ (by simp[BW,hl])]));obtain⟨w',B0,aJ⟩:=aX.out bW b6;clear h2 e6 YES aX SL;go_wp2;go_roundw
       case rel=>exact⟨k+1,by omega,by go_num,aJ.out.1,aJ.out.2⟩
       case measure=>simp[intOf];omega
      .have aX:=aa (SL.out (by rw[e6.out,h2,ς (by simp[BW];omega)]) bW b6);clear h2 e6 YES SL;go_wp2;go_roundw
       case rel=>exact⟨k+1,by omega,by go_num,aX.out.1,aX.out.2⟩
       case measure=>simp[intOf];omega
  ·(have c6:k=g.lives.length:=by omega);subst c6;have aJ:=aa pX;have cH:=aa (n4 (s5 bS.out (θ b)) hg);clear pX hg;go_wp2_with fail;refine DZ (BD rfl _ _ _) rfl ⟨⟨_,rfl⟩,aJ.out,cH.out⟩
theorem xU.HL{b}(hM:dn w b n M)(hg:w.grownBy w' (θ b)){rb o}{r}(h:xU w rb o r):xU w' rb o r:=
 ⟨hM.cell hg h.c0,hM.cell hg h.c1,hM.cell hg h.c2,hM.cell hg h.c3,hM.cell hg h.c4,hM.cell hg h.c5⟩
theorem kR.HL{b}{la ea}{lc ec}(hM:dn W b n M)(hg:W.grownBy W' (θ b))(h:kR w W B g la ea lc ec):W'.cell? ⟨B,0,η⟩=θ (.int .i64 g.hor)/\W'.cell? ⟨B,1,η⟩=θ (.slice la g.lives.length lc)/\W'.cell? ⟨B,2,η⟩=θ (.slice ea g.af.length ec):=⟨hM.cell hg h.c0,hM.cell hg h.c1,hM.cell hg h.c2⟩
def SM(rb cap:Nat)(l:List b7)(u:ay)(i m:Nat):Prop:=i+m=l.length/\∃c ao,u=.slice ao m c/\i+c=cap/\(0<m->ao=θ ⟨rb,i*6,η⟩)
theorem aqb{base}{v}{l}(h:w.ownsRow base 140 6 v l.length (eN l)):∃rb cap,SM rb cap l v 0 l.length/\l.length<=cap/\cap<=maxLen/\(l≠[]->rb<w.heap.size)/\∀j,j<l.length->xU w rb (j*6) (l.getD j qD):=by
 have h':=h;rcases h.2 with⟨rfl,h0⟩|⟨g,cap,cur,rfl,hb,hh,h3,h4,h5,h6⟩
 .have:l=[]:=List.eq_nil_of_length_eq_zero h0;subst this;exact⟨0,0,⟨rfl,0,η,rfl,rfl,λh=>by simp at h⟩,Nat.le_refl _,Nat.zero_le _,λh=>absurd rfl h,λj hj=>by simp at hj⟩
 .refine⟨g,cap,⟨by omega,cap,_,rfl,by omega,λ_=>by simp⟩,h3,h4,λ_=>(ξ.1 hh).1,λj hj=>?_⟩;obtain⟨f0,f1,f2,f3,f4,f5⟩:=Sr l j hj;refine⟨?_,?_,?_,?_,?_,?_⟩
  .rw[h'.cellAt (j*6) (by omega)];exact f0
  .rw[h'.cellAt (j*6+1) (by omega)];exact f1
  .rw[h'.cellAt (j*6+2) (by omega)];exact f2
  .rw[h'.cellAt (j*6+3) (by omega)];exact f3
  .rw[h'.cellAt (j*6+4) (by omega)];exact f4
  .rw[h'.cellAt (j*6+5) (by omega)];exact f5
theorem abo g la ea lc ec F pr s0 fv(oc:∀args w,(gX fv args).run ah w=.ok (.enter fv args) w)b n tv w(hG:cL w la ea g)(hR:cQ g)(hF:gz g F s0)(hM:dn w b n tv)(hn:n<=200)(hs0:0<=s0/\s0<g.hor)(Ew:∀v t,(tv v t).map (·.1)=F v t)(lR:uI g pr)(Ma:∀v t p,iF g F pr v t p-> -1000000<=p/\p<=1000000)(Ex:∀r W,Ξ ah fv #[tj r] W λres w'=>res=.returned (.int .i64 (pr r))/\Below W.heap.size W w'):Ξ ah 90 #[.map (θ b),.agg #[.int .i64 g.hor,.slice la g.lives.length lc,.slice ea g.af.length ec],.int .i64 s0,.func (.func fv) #[] #[]] w λres w'=>(∃v,res=.returned v)/\(∃n' M,dn w' b n' M/\BX g F pr M)/\w.grownBy w' (θ b):=by
 obtain⟨w1,hw1⟩:∃x,x=w.alloc (.cells #[.int .i64 g.hor,.slice la g.lives.length lc,.slice ea g.af.length ec] 59):=⟨_,rfl⟩;have aA:kR w w1 w.heap.size g la ea lc ec:=by rw[hw1];exact qA w g la ea lc ec 59
 have Ho:=hR.hor;have hlv:=hR.tF;have g0:=aA.c0;have g1:=aA.c1;have g2:=aA.c2;have cY:=hw1.symm;have zP:=Ss g la ea lc ec w1 (hG.below aA.aQ) hR;have uo:(cq g).length<=3000:=Nat.le_trans (LN g _) (Nat.le_trans (Nat.mul_le_mul (show g.hor.toNat<=100 by omega) hR.qm) (by omega));have eO:=aa hR;have aJ:=aa hF;have Mb:=aa lR;have Mc:=aa Ma;have aqc:=aa Ex;have Md:=aa hG;have abp:=aa hM;have Me:Hid (iw g F pr s0 s0 (s0- 1) 0 0 tv):=iw.start hF Ew;have bS:=aa aA;clear hR hF lR Ma Ex hG hM Ew hw1 aA;go_enter ak3,ntmps90;go_wp2_with fail;refine zP.mono ?_;rintro r w2 ⟨u,rfl,abq,aq⟩;have aN:=aa (bS.out.below aq);obtain⟨rb,cap,hRS,hcap,az1,hrb,gf⟩:=aqb abq;have abr:=aa gf;have HM:=aa (Md.out.below aN.out.aQ);have El:=aa (abp.out.below aN.out.aQ);have e7:Hid (∀r∈cq g,uC g r):=λr hr=>qC eO.out hr;have uJ:=aa (λnow (k i:Nat) M (h:iw g F pr s0 now now k i M) (hi:i<(cq g).length) hd=>h.take eO.out aJ.out hi hd);have SN:=aa (λnow (i:Nat) M (h:iw g F pr s0 now now g.lives.length i M) hd=>h.next eO.out aJ.out hd);have SP:Hid (∀(i:Nat) (hi:i<(cq g).length),(cq g)[i]∈cq g):=λi hi=>List.getElem_mem hi;generalize hrl:cq g=bn at hRS hcap gf abr e7 uJ SN SP uo hrb;clear zP aq abq gf g0 g1 g2 bS abp Md cY;have aqd:=aa hrl;clear hrl;go_wp2_with fail;go_loopw [8,9] (λu x wr=>∃(i m nn:Nat) (now:Int) (M:kq),SM rb cap bn u i m/\x=.int .i64 now/\s0<=now/\now<=g.hor/\nn<=n+12*(now-s0).toNat+i/\dn wr b nn M/\iw g F pr s0 now (now- 1) 0 i M/\w2.grownBy wr (θ b)) (λ_ x _=>(g.hor-intOf x).toNat)
 case atStart=>exact⟨0,bn.length,n,s0,tv,hRS,rfl,by omega,by omega,by omega,El.out,Me.out,Hh _ _⟩
 case round=>
  clear hRS;obtain⟨i,m,nn,now,M,hRS,rfl,az2,ap8,hnn,pX,hI,hg⟩:=hrel;obtain⟨him,c,ao,rfl,hic,hao⟩:=hRS;obtain⟨g0,g1,g2⟩:=kR.HL El.out hg aN.out;by_cases hlt:now<g.hor
  .have Ey:IntKind.i64.wrap (now+1)=now+1:=n6 _ (by omega) (by omega);have xR:=ap7 g la ea lc ec b nn M now wr (El.out.sS hg HM.out) eO.out pX (by omega) (by omega);have bu:=aa (hI.waits g.lives.length).turn;have HN:=aa hg;clear hI pX hg;generalize pR g now M g.lives.length=dA at bu xR;clear M;go_wp2_with fail;refine xR.mono ?_;rintro r w3 ⟨⟨abt,rfl⟩,zQ,abu⟩;have abv:=aa (n4 HN.out abu);have Ez:=aa (zQ.mono (show nn+g.lives.length<=n+12*(now+1-s0).toNat+i by omega));clear xR zQ abu g0 g1 g2 HN;go_wp2_with fail;go_loopw [8] (λu cj=>∃(i m:Nat) (M:kq),SM rb cap bn u i m/\dn cj b (n+12*(now+1-s0).toNat+i) M/\iw g F pr s0 now now g.lives.length i M/\w2.grownBy cj (θ b)) (λu _=>match u with | .slice _ m _=>m|_=>0)
   case atStart=>exact⟨i,m,dA,⟨him,c,ao,rfl,hic,hao⟩,Ez.out,bu.out,abv.out⟩
   case round=>
    clear hao hic him Ez bu abv hnn;obtain⟨i,m,M,⟨him,c,ao,rfl,hic,hao⟩,EA,hI,hg⟩:=hrel;by_cases hm:0<m
    ·(have hi:i<bn.length:=by omega);have e:=hao hm;subst e;(have hgd:bn.getD i qD=bn[i]:=by rw[List.getD_eq_getElem?_getD,List.getElem?_eq_getElem hi];rfl);have gf:=xU.HL El.out hg (abr.out i hi);rw[hgd]at gf;have hok:=e7.out _ (SP.out i hi);have SQ:=Mb.out _ (by rw[aqd.out];exact SP.out i hi);have Mf:=uJ.out now g.lives.length i M hI hi;have SR:=aa (λ(h:now<bn[i].2.1)=>SN.out now i M hI (λ_=>h));(have az3:((m:Int)>0):=by omega);clear hgd hao;generalize bn[i]=rr at*;obtain⟨E,d,a,e,ar,fI⟩:=rr;have ha0:=hok.a0;have hb0:=hok.b0;have Bn:=hok.d0;have xQ:=hok.lt;have nM:=hok.hor;simp only at ha0 hb0 Bn xQ nM Mf gf;have c0:=gf.c0;have c1:=gf.c1;have c2:=gf.c2;have c3:=gf.c3;have c4:=gf.c4;have c5:=gf.c5;simp only at c0 c1 c2 c3 c4 c5;clear hok gf;by_cases hdn:d<=now
     ·(have aqe:decide (d<=now)=true:=by simpa using hdn);have hT:=Mf hdn;have hcl:=λW=>aqc.out (E,d,a,e,ar,fI) W;simp only[tj]at hcl;have abw:∀x,M a d=θ x-> -1000000<=x.1/\x.1<=1000000:=λx hx=>Mc.out _ _ _ (hI.snd _ _ _ hx);have aqf:∀W,Below wr.heap.size wr W->True:=λ_ _=>trivial;generalize pr (E,d,a,e,ar,fI)=pp at*;have abx:=aa (λW (h:Below wr.heap.size wr W)=>apZ b _ M (E,d,a,e,ar,fI) pp W (EA.below h) (by omega) ⟨nt (by simp only;omega) (by simp only;omega),nt (by simp only;omega) (by simp only;omega),nt (by simp only;omega) (by simp only;omega),nt (by simp only;omega) (by simp only;omega)⟩ SQ abw);have HN:Hid (∀W W',Below wr.heap.size wr W->W.grownBy W' (θ b)->w2.grownBy W' (θ b)):=λW W' h h'=>n4 (n4 hg (s5 h _)) h';have aX:=aa hT;have hne:Nonempty (bf wr):=⟨⟨_,Below.refl _ _⟩⟩;have EB:=Nat.lt_of_lt_of_le (hrb (λh=>by rw[h]at hi;simp at hi)) hg.size;have f0:=λs:bf wr=>(s.h.cell (p:=⟨rb,i*6,η⟩) EB).trans c0;have f1:=λs:bf wr=>(s.h.cell (p:=⟨rb,i*6+1,η⟩) EB).trans c1;have f2:=λs:bf wr=>(s.h.cell (p:=⟨rb,i*6+2,η⟩) EB).trans c2;have f3:=λs:bf wr=>(s.h.cell (p:=⟨rb,i*6+3,η⟩) EB).trans c3;have f4:=λs:bf wr=>(s.h.cell (p:=⟨rb,i*6+4,η⟩) EB).trans c4;have f5:=λs:bf wr=>(s.h.cell (p:=⟨rb,i*6+5,η⟩) EB).trans c5;clear Mf hT hI EA hg abw SR SQ;go_wp2_with fail;refine aal _ (Below.refl _ _) (by kernel_rfl) (by simp) (by kernel_rfl) (by kernel_rfl) (by kernel_rfl) ?_;simp only[List.pop_toArray,List.dropLast,List.back!_toArray,List.getLast!];(repeat (go_big_quiet_step ((go_at_fn fv;exact mI (hcl _)))));refine pq ?_;rintro _ ⟨s,rfl⟩;refine pE (λK hK=>?_);go_simp;refine(abx.out s.w s.h).mono ?_;rintro r aO ⟨⟨v5,rfl⟩,uL,od⟩;refine hK.out _ _ ?_;have qI:=aa uL;have wh:=aa (HN.out _ _ s.h od);clear uL od hK K f0 f1 f2 f3 f4 f5 hne c0 c1 c2 c3 c4 c5 abx HN hcl aqf;clear s;by_cases hc1:c=1
      ·(have o7:m=1:=by omega);subst hc1;subst o7;go_wp2;go_roundw
       case rel=>exact⟨i+1,0,_,⟨by omega,0,_,rfl,by omega,λh=>absurd h (Nat.lt_irrefl _)⟩,qI.out.mono (by omega),aX.out,wh.out⟩
       case measure=>simp
      ·(have hcm:m<=c:=by omega);(have az4 :¬(c:Int)=1:=by omega);go_wp2;go_roundw
       case rel=>exact⟨i+1,m- 1,_,⟨by omega,c- 1,_,rfl,by omega,λ_=>by simp⟩,qI.out.mono (by omega),aX.out,wh.out⟩
       case measure=>simp;omega
     ·(have aqe:decide (d<=now)=false:=by simpa using hdn);have aR:=aa (SR.out (by simp only;omega));have qI:=aa EA;have wh:=aa hg;clear Mf hI EA hg SR SQ uJ;go_wp2;go_roundw
      case rel=>exact⟨i,m,_,now+1,M,⟨him,c,_,rfl,hic,λ_=>rfl⟩,rfl,by omega,by omega,Nat.le_refl _,qI.out,aR.out,wh.out⟩
      case measure=>simp[intOf];omega
    ·(have hm0:m=0:=by omega);subst hm0;have aR:=aa (SN.out now i M hI (λhi=>by omega));have qI:=aa EA;have wh:=aa hg;clear hI EA hg uJ hao;go_wp2;go_roundw
     case rel=>exact⟨i,0,_,now+1,M,⟨him,c,_,rfl,hic,λh=>absurd h (Nat.lt_irrefl _)⟩,rfl,by omega,by omega,Nat.le_refl _,qI.out,aR.out,wh.out⟩
     case measure=>simp[intOf];omega
  ·(have e:now=g.hor:=by omega);subst e;have bx:=aa (hI.fin eO.out aJ.out);have qI:=aa pX;have wh:=aa (n4 (s5 aN.out.aQ (θ b)) hg);clear hI pX hg;go_wp2_with fail;refine DZ (BD rfl _ _ _) rfl ⟨⟨_,rfl⟩,⟨nn,M,qI.out,bx.out⟩,wh.out⟩
def yb(g:bg)(pr:b7->Int)(v t:Int)(M:kq):Prop:=(bl t g.lives v=ν/\BX g (ri v t) pr M)\/(bl t g.lives v=ο/\M=λ_ _=>η)
theorem yb.snd(h:yb g pr v t M){x y}{z}(hz:M x y=θ z):th g pr v t x y z.1:=by
 rcases h with⟨ha,h⟩|⟨_,rfl⟩
 .exact⟨ha,h.snd _ _ _ hz⟩
 .cases hz
theorem yb.all(h:yb g pr v t M){x y p}(hp:th g pr v t x y p):∃z,M x y=θ z/\z.1<=p:=by
 rcases h with⟨_,h⟩|⟨ha,_⟩
 .exact h.all _ _ _ hp.2
 .rw[hp.1]at ha;cases ha
theorem th.waits(R:cQ g){t' p}(h0:0<=v0)(h:th g pr v0 t0 v t p)(ht:t<=t')(ha:bl t' g.lives v=ν):th g pr v0 t0 v t' p:=⟨h.1,h.2.waits R (L2 h0 h.1) ht ha⟩
theorem th.place(R:cQ g){p}(h0:0<=v0)(h:th g pr v0 t0 v t p):0<=v/\v<g.lives.length/\bl t g.lives v=ν/\0<=t/\t<g.hor/\t0<=t:=h.2.place R (L2 h0 h.1)
def zY(M:kq)(v t:Int):Int:=match M v t with|none=>1099511627776|some z=>z.1
def lastT(g:bg)(v:Nat):Int:=(g.lives.getD v (0,0)).2- 1
theorem aby{v}(hv:v<g.lives.length):lastT g v=g.lives[v].2- 1:=by unfold lastT;rw[List.getD_eq_getElem?_getD,List.getElem?_eq_getElem hv];rfl
theorem SS(R:cQ g){v}(hv:v<g.lives.length):bl (lastT g v) g.lives (v:Int)=ν/\(∀t,bl t g.lives (v:Int)=ν->t<=lastT g v)/\0<=lastT g v/\lastT g v<100:=by
 have h:=R.life _ (List.getElem_mem hv);have hh:=R.hor;rw[aby hv];refine⟨?_,λt ht=>?_,by omega,by omega⟩
 .rw[pJ _ _ _ hv];exact(nW _ _ _).2 (by omega)
 .rw[pJ _ _ _ hv]at ht;have:=(nW _ _ _).1 ht;omega
def og(f:Nat->Int)(n k:Nat):List Int:=(List.range n).map λx=>if x<k then f x else 0
theorem HO f n k:(og f n k).length=n:=by simp[og]
theorem HP f n k x(hx:x<n):(og f n k).getD x 0=if x<k then f x else 0:=by simp[og,List.getD_eq_getElem?_getD,hx]
theorem aqg f n:og f n 0=List.replicate n 0:=by refine SF (by simp[og]) λx hx=>?_;rw[HO]at hx;rw[HP _ _ _ _ hx];simp[List.getD_eq_getElem?_getD,hx]
theorem aqh f n k(hk:k<n):(og f n k).set k (f k)=og f n (k+1):=by
 refine SF (by simp[og]) λx hx=>?_;rw[List.length_set,HO]at hx;rw[pO _ _ _ _ (by rw[HO];exact hk),HP _ _ _ _ hx,HP _ _ _ _ hx];by_cases e:x=k
 .subst e;simp
 .rw[ς e];by_cases h:x<k
  .rw[χ h,χ (by omega)]
  .rw[ς h,ς (by omega)]
theorem aqi(R:cQ g)(h0:0<=v)(h:yb g pr v t M):L3 g pr v t (og (λx=>zY M (x:Int) (lastT g x)) g.lives.length g.lives.length):=by
 refine⟨HO _ _ _,λx hx=>?_,λx hx t' p hp=>?_⟩
 .rw[HP _ _ _ _ hx,χ hx];unfold zY;cases hz:M (x:Int) (lastT g x)with
  |none=>exact .inl rfl
  |some z=>exact .inr ⟨_,h.snd hz⟩
 .rw[HP _ _ _ _ hx,χ hx];obtain⟨k1,k2,_⟩:=SS R hx;obtain⟨z,hz,aqj⟩:=h.all (hp.waits R h0 (k2 _ (hp.place R h0).2.2.1) k1);unfold zY;rw[hz];exact aqj
theorem aqk g la ea lc ec v w(hG:cL w la ea g)(hR:cQ g)(hv:v<g.lives.length):Ξ ah 116 #[.agg #[.int .i64 g.hor,.slice la g.lives.length lc,.slice ea g.af.length ec],.int .i64 v] w λr w'=>r=.returned (.agg #[.int .i64 (v:Int),.int .i64 (lastT g v)])/\Below w.heap.size w w':=by
 obtain⟨_,_,h3,h4⟩:=SS hR hv;rw[aby hv]at h3 h4 ⊢;obtain⟨lb,cC,rfl,hlb,l0,l1⟩:∃b off,la=θ ⟨b,off,η⟩/\b<w.heap.size/\(w.cell? ⟨b,off+v*2,η⟩=θ (.int .i64 g.lives[v].1)/\w.cell? ⟨b,off+v*2+1,η⟩=θ (.int .i64 g.lives[v].2)):=by
  rcases hG.lv with h0|⟨b,off,rfl,cp,hc⟩
  .rw[h0]at hv;simp at hv
  exact⟨b,off,rfl,cp,eg.get hv hc⟩
 have az5:(v:Int)<(g.lives.length:Int):=by omega
 have Ey:IntKind.i64.wrap (g.lives[v].2- 1)=g.lives[v].2- 1:=n6 _ (by omega) (by omega);have m1:=λW (h:Below w.heap.size w W)=>(h.cell (p:=⟨lb,cC+v*2+1,η⟩) hlb).trans l1;have m2:=m1 _ (bK (ax w (.cells #[.int .i64 g.hor,.slice (θ ⟨lb,cC,η⟩) g.lives.length lc,.slice ea g.af.length ec] 59)) (ax _ (.cells #[.int .i64 0,.int .i64 0] 144)));generalize g.lives[v]=iQ at*;go_enter ald,ntmps116;go_wp2;refine cR (v:=.agg #[.int .i64 (v:Int),.int .i64 (iQ.2- 1)]) (by simp[results,results116,go_sem]) rfl ⟨rfl,?_⟩;exact bK (ax w _) (ax _ _)
theorem aql g la ea lc ec pr v t fv(oc:∀args w,(gX fv args).run ah w=.ok (.enter fv args) w)w(hG:cL w la ea g)(hpl:dB g v t=0)(lR:uI g pr)(Ex:∀r W,Ξ ah fv #[tj r] W λres w'=>res=.returned (.int .i64 (pr r))/\Below W.heap.size W w'):Ξ ah 115 #[.agg #[.int .i64 g.hor,.slice la g.lives.length lc,.slice ea g.af.length ec],.int .i64 v,.int .i64 t,.func (.func fv) #[] #[]] w λr w'=>∃b n M,r=.returned (.map (θ b))/\dn w' b n M/\yb g pr v t M/\Below w.heap.size w w':=by
 obtain⟨hg0,⟨hv0,jR⟩,ht0,ht1⟩:=uB hpl;have hR:=ei hg0;have Ho:=hR.hor;have hlv:=hR.tF;obtain⟨V,rfl⟩:∃V:Nat,v=(V:Int):=⟨v.toNat,by omega⟩;have jo:V<g.lives.length:=by omega
 obtain⟨w1,hw1⟩:∃x,x=w.alloc (.cells #[.int .i64 g.hor,.slice la g.lives.length lc,.slice ea g.af.length ec] 59):=⟨_,rfl⟩;have aA:kR w w1 w.heap.size g la ea lc ec:=by rw[hw1];exact qA w g la ea lc ec 59
 obtain⟨w2,cc⟩:∃x,x=w1.alloc (.map #[] 0):=⟨_,rfl⟩;have hM2:dn w2 w1.heap.size 0 (λ_ _=>η):=by rw[cc];exact abe w1
 have b2:Below w1.heap.size w1 w2:=by rw[cc];exact ax w1 _
 have bt:=aA.below b2;have SU:=hG.below bt.aQ;have s1:w.heap.size<w1.heap.size:=by rw[hw1];simp
 obtain⟨lb,cC,rfl,hlb,l0,l1⟩:∃b off,la=θ ⟨b,off,η⟩/\b<w2.heap.size/\(w2.cell? ⟨b,off+V*2,η⟩=θ (.int .i64 g.lives[V].1)/\w2.cell? ⟨b,off+V*2+1,η⟩=θ (.int .i64 g.lives[V].2)):=by
  rcases SU.lv with h0|⟨b,off,rfl,cp,hc⟩
  .rw[h0]at jo;simp at jo
  exact⟨b,off,rfl,cp,eg.get jo hc⟩
 have LM:(V:Int)<(g.lives.length:Int):=by omega
 have hal:=λW=>zG g.lives[V].1 g.lives[V].2 t W;rw[<-pJ t g.lives V jo]at hal;have g0:=bt.c0;have g1:=bt.c1;have g2:=bt.c2;have hmm:=@run_makeMap ah;have cY:=hw1.symm;have BS:=cc.symm;have aD:=aa (λW (h:Below w2.heap.size w2 W)=>(bt.below h).aQ);have fG:=aa (λW (h:Below w2.heap.size w2 W)=>hM2.below h);have aN:=aa bt;have HM:=aa SU;clear hG hw1 cc aA bt SU hM2 hg0;cases ha:bl t g.lives (V:Int)with
 |false=>
  rw[ha]at hal;have e6:Hid (yb g pr (V:Int) t (λ_ _=>η)):=.inr ⟨ha,rfl⟩;generalize g.lives[V]=iQ at*;go_enter YD,ntmps115;go_wp2_with fail;refine(hal _).mono ?_;rintro r w3 ⟨rfl,aB⟩;have Ez:=aa (fG.out w3 aB);have bw:=aa (aD.out w3 aB);go_wp2;go_ret;exact⟨_,_,_,rfl,Ez.out,e6.out,bw.out⟩
 |true=>
  rw[ha]at hal;have hF:=L2 (g:=g) (v0:=(V:Int)) (t0:=t) hv0 ha;have Ma:∀x y p,iF g (ri (V:Int) t) pr x y p-> -1000000<=p/\p<=1000000:=λx y p h=>by have h1:=h.range hR lR hv0 ha;have h2:=h.place hR hF;omega
  have aU:=aa (λb n tv W (SV:cL W (θ ⟨lb,cC,η⟩) ea g) (SW:dn W b n tv) (hn:n<=200) (Ew:∀x y,(tv x y).map (·.1)=ri (V:Int) t x y)=>abo g (θ ⟨lb,cC,η⟩) ea lc ec (ri (V:Int) t) pr t fv oc b n tv W SV hR hF SW hn ⟨ht0,ht1⟩ Ew lR Ma Ex);have e6:Hid (∀M,BX g (ri (V:Int) t) pr M->yb g pr (V:Int) t M):=λM h=>.inl ⟨ha,h⟩;generalize g.lives[V]=iQ at*;go_enter YD,ntmps115;go_wp2_with fail;refine(hal _).mono ?_;rintro r w3 ⟨rfl,aB⟩;have gO:=fG.out w3 aB;have aqm:=HM.out.below aB;have gN:=aN.out.below aB;obtain⟨w4,B0,Mg,oQ⟩:=gO.store (by unfold maxLen;omega) (v:=(V:Int)) (t:=t) (nt (by omega) (by omega)) (nt (by omega) (by omega)) (0,0,0,0,0,0,0);simp only[kW,qH]at B0;have HQ:=gO.sS oQ aqm;obtain⟨k0,k1,k2⟩:=kR.HL gO oQ gN;have zZ:=aU.out w1.heap.size (0+1) _ w4 HQ Mg (by omega) (λx y=>by
   unfold lQ ri;split<;>rfl)
  have cr:Hid (∀W,w4.grownBy W (θ w1.heap.size)->Below w.heap.size w W):=λW h=>(gN.aQ.grown oQ gN.aQ.size (λk hk=>by cases hk;omega)).grown h (Nat.le_trans gN.aQ.size oQ.size) (λk hk=>by cases hk;omega);go_wp2_with fail;refine zZ.mono ?_;rintro r aO ⟨⟨abt,rfl⟩,⟨aqn,kr,uL,rQ⟩,od⟩;have qI:=aa uL;have L9:=aa (e6.out _ rQ);have gb:=aa (cr.out aO od);go_wp2;go_ret;exact⟨_,_,_,rfl,qI.out,L9.out,gb.out⟩
def wj(g:bg)(pr:b7->Int)(v t:Int)(L:List Int):Prop:=(dB g v t≠0/\L=[])\/(dB g v t=0/\L3 g pr v t L)
def Mh:b7->Int:=λr=>r.2.2.2.2.2
def HR:b7->Int:=λ_=>1
def SX:b7->Int:=λ_=>0
theorem SY(R:cQ g):uI g Mh:=λ_ hr=>(qC R hr).c0
theorem SZ g:uI g HR:=λ_ _=>by unfold HR;omega
theorem aqo g:uI g SX:=λ_ _=>by unfold SX;omega
theorem abz g la ea lc ec pr v t fv(oc:∀args w,(gX fv args).run ah w=.ok (.enter fv args) w)w(hG:cL w la ea g)(lR:cQ g->uI g pr)(Ex:∀r W,Ξ ah fv #[tj r] W λres w'=>res=.returned (.int .i64 (pr r))/\Below W.heap.size W w'):Ξ ah 86 #[.agg #[.int .i64 g.hor,.slice la g.lives.length lc,.slice ea g.af.length ec],.int .i64 v,.int .i64 t,.func (.func fv) #[] #[]] w λr w'=>∃u L,r=.returned (.tuple #[u,.int .i64 (dB g v t)])/\wj g pr v t L/\w'.ownsRow w.heap.size 3 1 u L.length (L.map (bM .i64))/\Below w.heap.size w w':=by
 obtain⟨i0,hi,cg,hz1,bX⟩:=er Tryz.ua;have aA:=qA w g la ea lc ec 59;have h1:=LH g la ea lc ec v t _ (hG.below aA.aQ);by_cases e1:dB g v t=0
 case neg=>
  have bU:Hid (wj g pr v t []):=.inl ⟨e1,rfl⟩;have d1:(dB g v t !=0)=true:=by simpa using e1
  generalize dB g v t=n at*;go_enter Yz,ntmps86;go_wp2_with fail;refine h1.mono ?_;rintro r w1 ⟨rfl,aj⟩;have cz:=(aA.below aj).aQ;go_wp2;(try simp only[lB,Exit.then]);refine cR (vX rfl _ _ _) rfl ?_;exact⟨_,_,rfl,bU.out,dJ _ _ _ _,cz⟩
 obtain⟨hg0,⟨hv0,jR⟩,ht0,ht1⟩:=uB e1;have hR:=ei hg0;have hlv:=hR.tF;have e6:=aa (λW (hW:Below w.heap.size w W)=>aql g la ea lc ec pr v t fv oc W (hG.below hW) e1 (lR hR) Ex);have cA:=aa (λW (hW:Below w.heap.size w W) (x:Nat) (hx:x<g.lives.length)=>aqk g la ea lc ec x W (hG.below hW) hR hx);have bx:Hid (∀M,yb g pr v t M->wj g pr v t (og (λx=>zY M (x:Int) (lastT g x)) g.lives.length g.lives.length)):=λM h=>.inr ⟨e1,aqi hR hv0 h⟩;have aar:Hid (∀x,x<g.lives.length->0<=lastT g x/\lastT g x<100):=λx hx=>(SS hR hx).2.2;rw[e1]at h1 ⊢;go_enter Yz,ntmps86;go_wp2_with fail;refine h1.mono ?_;rintro r w1 ⟨rfl,aj⟩;have bD:=aA.below aj;have h2:=e6.out w1 bD.aQ;have g0:=bD.c0;have g1:=bD.c1;have g2:=bD.c2;go_wp2_with fail;refine h2.mono ?_;rintro r w2 ⟨b,n,M,rfl,hM2,XQ,aq⟩;have bt:=bD.below aq;have kg:=aa (bx.out M XQ);have g1:=bt.c1;go_wp2_with(at_make;refine uh _ rfl _ _ 50 rfl w.heap.size 3 i0 (.int .i64 0) 1 ((cD 50).trans underlying50) hi cg hz1 .i64 .i64 _ _ g.lives.length rfl rfl rfl rfl (by rw[bX];omega) (by unfold maxLen;omega) bt.aQ.size ?_;intro w3 qJ abA);have e3:(fo (bM .i64 0).cells (g.lives.length*1)).toList=(og (λx=>zY M (x:Int) (lastT g x)) g.lives.length 0).map (bM .i64):=by rw[Nat.mul_one,aqg];show (fo #[bM .i64 0] g.lives.length).toList=_;rw[abh,List.map_replicate]
 rw[e3]at qJ;have aB:Below w2.heap.size w2 w3:=(Below.refl _ _).grown abA (Nat.le_refl _) (λk hk=>by cases hk);have gN:=bt.below aB;have gO:=hM2.below aB;have hs3:=(kL qJ _ rfl).2;have hlt2:=bt.lt;have aqp:=hM2.lt;have bw:=aa gN;have Ez:=aa gO;have az6:Hid (w.heap.size<=w2.heap.size):=bt.aQ.size;have abB:b≠w2.heap.size:=by omega
 have Mi:w.heap.size≠w2.heap.size:=by omega
 obtain⟨m,hm⟩:∃m,m=w2.heap.size:=⟨_,rfl⟩;rw[<-hm]at qJ hs3 abB Mi ⊢;clear abA e3 aB bt hM2 g1 hm hlt2 aqp gN gO;generalize hf:(λx:Nat=>zY M (x:Int) (lastT g x))=f at qJ kg;have aJ:Hid (∀x:Nat,f x=zY M (x:Int) (lastT g x)):=λx=>by rw[<-hf]
 clear hf;go_wp2_with fail;go_loopw [34] (λi wr=>∃k:Nat,k<=g.lives.length/\i=.int .i64 k/\dx wr w.heap.size m g.lives.length g.lives.length (og f g.lives.length k)/\w3.grownBy wr (θ m)) (λi _=>g.lives.length-(intOf i).toNat)
 case atStart=>exact⟨0,Nat.zero_le _,rfl,qJ,Hh _ _⟩
 case round=>
  clear qJ;obtain⟨k,hk,rfl,hZ,hg⟩:=hrel;by_cases bp:k<g.lives.length
  ·(have hki:(k:Int)<(g.lives.length:Int):=by omega);have LY:IntKind.i64.wrap ((k:Int)+1)=(k:Int)+1:=n6 _ (by omega) (by omega);have fz:=mX hZ k;have xX:=dx.cell hZ bp;obtain⟨w4,fZ⟩:∃x,x=wr.setCell ⟨m,k,η⟩ (.int .i64 1099511627776):=⟨_,rfl⟩;(have vZ:dx w4 w.heap.size m g.lives.length g.lives.length ((og f g.lives.length k).set k 1099511627776):=by rw[fZ];exact dx.set hZ k _);(have oQ:w3.grownBy w4 (θ m):=by rw[fZ];exact n4 hg (aak _ _ _ _));have k0:w4.cell? ⟨w.heap.size,0,η⟩=θ (.int .i64 g.hor):=oQ.cell bw.out.c0 (by simp only;intro h;cases h;exact Mi rfl);have k1:w4.cell? ⟨w.heap.size,1,η⟩=θ (.slice la g.lives.length lc):=oQ.cell bw.out.c1 (by simp only;intro h;cases h;exact Mi rfl);have k2:w4.cell? ⟨w.heap.size,2,η⟩=θ (.slice ea g.af.length ec):=oQ.cell bw.out.c2 (by simp only;intro h;cases h;exact Mi rfl);have hb4:Below w.heap.size w w4:=bw.out.aQ.grown oQ bw.out.aQ.size (λj hj=>by cases hj;have:=(kL hZ _ rfl).1;omega);have abC:=cA.out w4 hb4 k bp;have abD:dn w4 b n M:=Ez.out.kept oQ (λh=>abB (by cases h;rfl));have hlt:=aar.out k bp;have yc:=aa (aJ.out k);have Mj:=aa (aqh f g.lives.length k bp);have zM:=fZ.symm;clear fZ hZ hg hb4;generalize lastT g k=T at*;go_wp2_with fail;refine abC.mono ?_;rintro r aO ⟨rfl,bT⟩;have kr:=abD.below bT;have ki:=cE vZ bT;have od:=n4 oQ (s5 bT (θ m));have q1:=kr.look (v:=(k:Int)) (t:=T) (nt (by omega) (by omega)) (nt (by omega) (by omega));clear abC bT abD kr vZ oQ k0 k1 k2 zM fz xX;unfold zY at yc;cases hz:M (k:Int) T with
   |none=>
    (rw[hz]at q1 yc;simp only[kW,jG,qH,ic]at q1;simp only at yc;have abE:Hid (∀o,dx (aO.alloc o) w.heap.size m g.lives.length g.lives.length (og f g.lives.length (k+1))/\w3.grownBy (aO.alloc o) (θ m)):=λo=>by rw[<-Mj.out,yc.out];exact⟨cE ki (ax aO o),n4 od (s5 (ax aO o) _)⟩);clear ki od hz yc Mj;go_wp2;go_roundw
    case rel=>exact⟨k+1,by omega,by go_num,(abE.out _).1,(abE.out _).2⟩
    case measure=>simp[intOf];omega
   |some z=>
    (obtain⟨q,pS,d2,a2,e2,pU,c2⟩:=z;rw[hz]at q1 yc;simp only[kW,Ω,qH,gu]at q1;simp only at yc;obtain⟨bW,dU⟩:∃x,x=aO.alloc (.cells #[.int .i64 q,.int .i64 pS,.int .i64 d2,.int .i64 a2,.int .i64 e2,.int .i64 pU,.int .i64 c2] 142):=⟨_,rfl⟩;(have b6:Below aO.heap.size aO bW:=by rw[dU];exact ax aO _);(have v0:bW.cell? ⟨aO.heap.size,0,η⟩=θ (.int .i64 q):=by rw[dU];exact cx rfl rfl);have s8:=cE ki b6;have fz:=mX s8 k;have xX:=dx.cell s8 bp;have abF:Hid (dx (bW.setCell ⟨m,k,η⟩ (.int .i64 q)) w.heap.size m g.lives.length g.lives.length (og f g.lives.length (k+1))/\w3.grownBy (bW.setCell ⟨m,k,η⟩ (.int .i64 q)) (θ m)):=by refine⟨?_,n4 (n4 od (s5 b6 _)) (aak _ _ _ _)⟩;have h7:=dx.set s8 k q;have kG:=Mj.out;rw[yc.out]at kG;rw[List.set_set,kG]at h7;exact h7);have BT:=dU.symm;clear ki od hz yc Mj dU s8 b6;go_wp2;go_roundw
    case rel=>exact⟨k+1,by omega,by go_num,abF.out.1,abF.out.2⟩
    case measure=>simp[intOf];omega
  ·(have c6:k=g.lives.length:=by omega);subst c6;have mE:=aa hZ;have hm0:=(kL hZ _ rfl).1;have Mk:Hid (Below w.heap.size w wr):=bw.out.aQ.grown hg bw.out.aQ.size (λj hj=>by cases hj;omega);have pF:=aa (HO f g.lives.length g.lives.length);clear hZ hg;go_wp2;(try simp only[lB,Exit.then]);refine cR (vX rfl _ _ _) rfl ?_;refine⟨_,rfl,og f g.lives.length g.lives.length,kg.out,?_,Mk.out⟩;rw[pF.out];exact mE.out
theorem aqq g la ea lc ec v t w(hG:cL w la ea g):Ξ ah 52 #[.agg #[.int .i64 g.hor,.slice la g.lives.length lc,.slice ea g.af.length ec],.int .i64 v,.int .i64 t] w λr w'=>∃u L,r=.returned (.tuple #[u,.int .i64 (dB g v t)])/\wj g Mh v t L/\w'.ownsRow w.heap.size 3 1 u L.length (L.map (bM .i64))/\Below w.heap.size w w':=by have aA:=qA w g la ea lc ec 59;have h1:=abz g la ea lc ec Mh v t 87 (λargs w=>Tryz.call87 args w) _ (hG.below aA.aQ) (λR=>SY R) apW;have aD:=aa aA;go_enter akO,ntmps52;go_wp2_with fail;refine h1.mono ?_;rintro r w1 ⟨u,L,rfl,hL,ho,hb⟩;have cA:=aa hL;have ck:=aa (gJ ho aD.out.aQ.size);have aS:=aa (aD.out.below hb).aQ;go_wp2;(try simp only[lB,Exit.then]);refine cR (vX rfl _ _ _) rfl ?_;exact⟨_,_,rfl,cA.out,ck.out,aS.out⟩
theorem aqr g la ea lc ec v t w(hG:cL w la ea g):Ξ ah 53 #[.agg #[.int .i64 g.hor,.slice la g.lives.length lc,.slice ea g.af.length ec],.int .i64 v,.int .i64 t] w λr w'=>∃u L,r=.returned (.tuple #[u,.int .i64 (dB g v t)])/\wj g HR v t L/\w'.ownsRow w.heap.size 3 1 u L.length (L.map (bM .i64))/\Below w.heap.size w w':=by have aA:=qA w g la ea lc ec 59;have h1:=abz g la ea lc ec HR v t 88 (λargs w=>Tryz.call88 args w) _ (hG.below aA.aQ) (λ_=>SZ g) apX;have aD:=aa aA;go_enter akP,ntmps53;go_wp2_with fail;refine h1.mono ?_;rintro r w1 ⟨u,L,rfl,hL,ho,hb⟩;have cA:=aa hL;have ck:=aa (gJ ho aD.out.aQ.size);have aS:=aa (aD.out.below hb).aQ;go_wp2;(try simp only[lB,Exit.then]);refine cR (vX rfl _ _ _) rfl ?_;exact⟨_,_,rfl,cA.out,ck.out,aS.out⟩
def qK(g:bg)(v:Int):Int->Int->Option Int:=λx t=>if x=v/\bl t g.lives v=ν then θ (-t)else η
theorem abG(R:cQ g)(h0:0<=v):gz g (qK g v) 0:=λx t p h=>by
 unfold qK at h;split at h
 .rename_i e;obtain⟨rfl,e⟩:=e;exact⟨h0,e,(pL R e).2.1⟩
 .cases h
theorem abH(R:cQ g){x p}(h:iF g (qK g v) (λ_=>0) x t p):ey g v (-p) x t:=by
 induction h with
 |@base x t p h=>
  unfold qK at h;split at h
  .rename_i e;obtain⟨rfl,e⟩:=e;cases h;rw[Int.neg_neg];exact .base e
  .cases h
 |wait _ ha ih=>exact .wait ih ha
 |kT hr _ ih=>rw[Int.add_zero];exact(qC R hr).go ih
theorem aqs(R:cQ g){s x}(h0:0<=v)(h:ey g v s x t):iF g (qK g v) (λ_=>0) x t (-s):=by
 induction h with
 |base ha=>exact .base (by unfold qK;rw[χ ⟨rfl,ha⟩])
 |wait _ ha ih=>exact .wait ih ha
 |@kT t q i hi h hq ih=>
  have:=iF.kT (pr:=λ_=>0) (Sm R hi (h.place R h0).2.2.1 hq) ih;rw[Int.add_zero]at this;exact this
theorem S0(R:cQ g){x p}(h:iF g (qK g v) (λ_=>0) x t p): -100<=p/\p<=0/\0<=t+p:=by have h1:=abH R h;have h2:=pL R h1.src;have h3:=R.hor;have h4:=h1.le R;omega
def B2(g:bg)(v q d a e:Int):Prop:=(e=4/\d=0/\a=0/\∀s t,¬ey g v s q t)\/(e=0/\ey g v a q (a+d)/\(∀s t,ey g v s q t->d<=t-s)/\∀s,ey g v s q (s+d)->a<=s)
theorem aqt{q a e d' a' e'}(h:B2 g v q d a e)(h':B2 g v q d' a' e'):d=d'/\a=a'/\e=e':=by
 rcases h with⟨h1,h2,h3,h4⟩|⟨h1,h2,h3,h4⟩<;>rcases h' with⟨k1,k2,bz,eB⟩|⟨k1,k2,bz,eB⟩
 .omega
 .exact absurd k2 (h4 _ _)
 .exact absurd h2 (eB _ _)
 .have e1:=h3 _ _ k2;have e2:=bz _ _ h2;have e3:d=d':=by omega
  subst e3;have iJ:=h4 _ k2;have iK:=eB _ h2;omega
def lS(M:kq)(q:Int):Nat->Int×Int
 |0=>(1099511627776,0)
 |k+1=>match M q (k:Int)with
  |none=>lS M q k
  |some z=>if(k:Int)+z.1<(lS M q k).1 then((k:Int)+z.1, -z.1)else lS M q k
theorem abJ{M}{q}(hz:∀t z,M q t=θ z->t+z.1<1099511627776):∀k:Nat,((lS M q k).1=1099511627776/\∀t:Nat,t<k->M q (t:Int)=η)\/∃(t:Nat) (z:uH),t<k/\M q (t:Int)=θ z/\lS M q k=((t:Int)+z.1, -z.1)/\∀(t':Nat) (z':uH),t'<k->M q (t':Int)=θ z'->(t:Int)+z.1<=(t':Int)+z'.1/\((t:Int)+z.1=(t':Int)+z'.1->t<=t')
 |0=>.inl ⟨rfl,λt h=>by omega⟩
 |k+1=>by
  have ih:=abJ hz k;rw[lS];cases hk:M q (k:Int)with
  |none=>
   simp only;rcases ih with⟨h1,h2⟩|⟨t,z,h1,h2,h3,h4⟩
   .refine .inl ⟨h1,λt ht=>?_⟩;by_cases e:t=k
    .subst e;exact hk
    .exact h2 t (by omega)
   .refine .inr ⟨t,z,by omega,h2,h3,λt' z' ht' iZ=>?_⟩;by_cases e:t'=k
    .subst e;rw[hk]at iZ;cases iZ
    .exact h4 t' z' (by omega) iZ
  |some y=>
   simp only;have hy:=hz _ _ hk;rcases ih with⟨h1,h2⟩|⟨t,z,h1,h2,h3,h4⟩
   .rw[χ (by omega)];refine .inr ⟨k,y,by omega,hk,rfl,λt' z' ht' iZ=>?_⟩;by_cases e:t'=k
    .subst e;rw[hk]at iZ;cases iZ;exact⟨Int.le_refl _,λ_=>Nat.le_refl _⟩
    .rw[h2 t' (by omega)]at iZ;cases iZ
   .rw[h3];simp only;split
    .rename_i hlt;refine .inr ⟨k,y,by omega,hk,rfl,λt' z' ht' iZ=>?_⟩;by_cases e:t'=k
     .subst e;rw[hk]at iZ;cases iZ;exact⟨Int.le_refl _,λ_=>Nat.le_refl _⟩
     .have:=(h4 t' z' (by omega) iZ).1;exact⟨by omega,λ_=>by omega⟩
    .rename_i hlt;refine .inr ⟨t,z,by omega,h2,rfl,λt' z' ht' iZ=>?_⟩;by_cases e:t'=k
     .subst e;rw[hk]at iZ;cases iZ;exact⟨by omega,λ_=>by omega⟩
     .exact h4 t' z' (by omega) iZ
theorem aqu(R:cQ g){q}(h0:0<=v)(S:BX g (qK g v) (λ_=>0) M):((lS M q g.hor.toNat).1=1099511627776->B2 g v q 0 0 4)/\((lS M q g.hor.toNat).1≠1099511627776->B2 g v q (lS M q g.hor.toNat).1 (lS M q g.hor.toNat).2 0):=by
 have hh:=R.hor;have hz:∀t z,M q t=θ z->t+z.1<1099511627776:=λt z h=>by have h1:=S.snd _ _ _ h;have h2:=S0 R h1;have h3:=h1.place R (abG R h0);omega
 have hin:∀s t,ey g v s q t->∃z,M q ((t.toNat:Nat):Int)=θ z/\z.1<= -s/\t.toNat<g.hor.toNat/\((t.toNat:Nat):Int)=t:=λs t h=>by
  obtain⟨z,hz,hzs⟩:=S.all _ _ _ (aqs R h0 h);have hp:=h.place R h0;have e:((t.toNat:Nat):Int)=t:=by omega
  exact⟨z,by rw[e];exact hz,hzs,by omega,e⟩
 rcases abJ hz g.hor.toNat with⟨h1,h2⟩|⟨t,z,h1,h2,h3,h4⟩
 .refine⟨λ_=>.inl ⟨rfl,rfl,rfl,λs t h=>?_⟩,λh=>absurd h1 h⟩;obtain⟨z,k1,_,bz,_⟩:=hin s t h;rw[h2 _ bz]at k1;cases k1
 .have az7:=hz _ _ h2;rw[h3];refine⟨λh=>by simp only at h;omega,λ_=>.inr ⟨rfl,?_,λs t' h=>?_,λs h=>?_⟩⟩
  .have:=abH R (S.snd _ _ _ h2);simp only;rw[show -z.1+((t:Int)+z.1)=(t:Int)by omega];exact this
  .obtain⟨z',k1,k2,bz,eB⟩:=hin s t' h;have:=(h4 _ z' bz k1).1;simp only;omega
  .simp only at h ⊢;obtain⟨z',k1,k2,bz,eB⟩:=hin s _ h;have:=h4 _ z' bz k1;omega
theorem Tryz.aqv:(ah.info? 103).map (λi=>(i.zero,i.size,i.bytes))=θ (θ (.agg #[.int .i64 0,.int .i64 0]),2,16):=by kernel_rfl
theorem aqw a b:gp (a++b)=gp a++gp b:=by simp[gp,flat]
def Ml(ops:Array Oper)(o:Oper):Bool:=(List.range ops.size).all λj=>
 o.after.any (λe=>k9 .any e&&e.on==j)||(List.range ops.size).any λk=>decide (j<k)&&match ops[k]? with
  |some o=>o.after.any λe=>k9 .any e&&e.on==j
  |none=>ο
theorem aqx{listed}(hl:Ml ops o=ν)(hc:Closed ops listed)(hsz:listed.size=ops.size)(hs:∀e∈o.after,k9 .any e=ν->e.on<ops.size->listed.getD e.on ο=ν):∀d j,j+d=ops.size->j<ops.size->listed.getD j ο=true:=by
 intro d;induction d using Nat.strongRecOn with
 |_ d ih=>
  intro j hd hj;have h1:=List.all_eq_true.1 hl j (List.mem_range.2 hj);rw[Bool.or_eq_true]at h1;rcases h1 with h1|h1
  .obtain⟨e,he,h2⟩:=D5 h1;rw[Bool.and_eq_true,wK]at h2;rw[<-h2.2];exact hs e he h2.1 (by rw[h2.2];exact hj)
  .obtain⟨k,hk,h2⟩:=List.any_eq_true.1 h1;rw[List.mem_range]at hk;rw[Bool.and_eq_true,kC]at h2;have ho:=Array.getElem?_eq_getElem hk;simp only[ho]at h2;obtain⟨e,he,h3⟩:=D5 h2.2;rw[Bool.and_eq_true,wK]at h3;have bp:=ih (d-(k-j)) (by omega) k (by omega) hk;rw[<-h3.2];refine hc k _ ho ?_ e he h3.1;(have hk':k<listed.size:=by omega);simpa[hk']using bp
theorem S1{l r:Array Bool}d(h:j<l.size):(l++r).getD j d=l.getD j d:=by simp[Nat.lt_of_lt_of_le h]
theorem abK{jq}(h:j<ops.size):(ops++jq)[j]?=ops[j]?:=Array.getElem?_append_left h
theorem abL{jq}{listed r}(hf:pz ops=ν)(hw:∀o∈jq,Ml ops o=ν)(hc:Closed ops listed)(hsz:listed.size=ops.size)(hne:dZ .any ops listed≠[])i:i∈dZ .any (ops++jq) (listed++r)↔i∈dZ .any ops listed:=by
 rw[lz,lz];rcases Nat.lt_or_ge i ops.size with hi|hi
 .rw[S1 ν (by omega),abK hi];refine CQ λ_=>exists_congr λo=>CQ λho=>wJ λe=>wJ λhe=>wJ λhb=>?_;have:=(vI hf ho).2 e he hb;rw[S1 ο (by omega)]
 .constructor
  .rintro⟨_,o,ho,hall⟩;exfalso;rw[Array.getElem?_append_right hi]at ho;have hm:=Array.mem_of_getElem? ho;apply hne;have GZ:=aqx (hw o hm) hc hsz (λe he hb hlt=>by have:=hall e he hb;rwa[S1 ο (by omega)]at this);apply List.eq_nil_iff_forall_not_mem.2;intro j hj;rw[lz]at hj;obtain⟨h0,o,jH,_⟩:=hj;have kM:=(ξ.1 jH).1;have h1:=GZ (ops.size-j) j (by omega) kM;(have hj':j<listed.size:=by omega);simp[hj']at h0 h1;rw[h0]at h1;cases h1
  .rintro⟨_,o,ho,_⟩;rw[gx hi]at ho;cases ho
def Mm(R:Act->υ->Prop)(Q:Exit->Act->υ->Prop):Exit->Act->υ->Prop
 | .normal,a,w=>R a w
 |e,a,w=>Q e a w
theorem aqy{R}{Q}{K K'}{a}(hK:∀a w,K a w->K' a w)(h:o.wp P a w K (Mm R Q)):o.wp P a w K' Q:=by
 unfold Oper.wp at*;generalize (execOp a.eval o).run P w=r at*;cases r with
 |ok n w' =>
  cases n<;>simp only[Oper.upon]at h ⊢<;>
   first
    |exact hK _ _ h
    |exact Calls.mono h (λe w'' he=>by cases e<;>first|exact hK _ _ he|exact he)
    |exact Rows.mono h (λ_ _ he=>hK _ _ he)
 |halt x w'=>cases x<;>simp only[Oper.upon]at h ⊢<;>exact h
theorem abM{P}{md:D3}{ops}{Q}:∀(fuel:Nat) (listed:Array Bool) (a:Act) (w:υ),j3 P md ops Q fuel listed a w->j3 P md ops Q (fuel+1) listed a w
 |0,_,_,_,h=>⟨λ_=>h.2,by rw[h.1];simp⟩
 |fuel+1,_,_,_,h=>⟨h.1,λi hi=>wpOp_mono (λa' w' h'=>abM fuel _ a' w' h') (h.2 i hi)⟩
theorem abN{P}{md:D3}{ops}{Q}{n}{listed}{a}{w}(h:j3 P md ops Q n listed a w):∀k,j3 P md ops Q (k+n) listed a w
 |0=>by rwa[Nat.zero_add]
 |k+1=>by rw[show k+1+n=(k+n)+1 by omega];exact abM _ _ _ _ (abN h k)
theorem aqz{jq}{Q}(hf:pz ops=ν)(hw:∀o∈jq,Ml ops o=ν):∀(fuel:Nat) (listed:Array Bool) (a:Act) (w:υ),listed.size=ops.size->Closed ops listed ->
  j3 P .any ops (Mm (λa w=>j3 P .any (ops++jq) Q jq.size (Δ ops.size ν++Δ jq.size ο) a w) Q) fuel listed a w->j3 P .any (ops++jq) Q (fuel+jq.size) (listed++Δ jq.size ο) a w:=by
 have fin:∀(fuel:Nat) (listed:Array Bool) (a:Act) (w:υ),listed.size=ops.size->dZ .any ops listed=[]->j3 P .any (ops++jq) Q jq.size (Δ ops.size ν++Δ jq.size ο) a w->j3 P .any (ops++jq) Q (fuel+jq.size) (listed++Δ jq.size ο) a w:=by
  intro fuel listed a w hsz hr hq;have hall:=Rz hf hsz hr;have e:listed=Δ ops.size true:=by
   apply Array.ext
   .simpa using hsz
   .intro j h1 h2;have:=hall j (by omega);simpa[h1]using this
  rw[e];exact abN hq fuel
 intro fuel;induction fuel with
 |zero=>
  intro listed a w hsz hc h;exact fin 0 listed a w hsz h.1 h.2
 |succ fuel ih=>
  intro listed a w hsz hc h;by_cases hr:dZ .any ops listed=[]
  .exact fin (fuel+1) listed a w hsz hr (h.1 hr)
  .rw[show fuel+1+jq.size=(fuel+jq.size)+1 by omega];refine⟨λh0=>?_,λi hi=>?_⟩
   .exfalso;apply hr;apply List.eq_nil_iff_forall_not_mem.2;intro j hj;have:=(abL (r:=Δ jq.size ο) hf hw hc hsz hr j).2 hj;rw[h0]at this;cases this
   ·(have hi':=(abL hf hw hc hsz hr i).1 hi;have h1:=h.2 i hi';obtain⟨hun,o,ho,BI⟩:=lz.1 hi';have hilt:=(ξ.1 ho).1;(have ho':(ops++jq)[i]?=θ o:=by rw[abK hilt];exact ho);have hg:=(vI hf ho).1;have RA:(listed++Δ jq.size ο).setIfInBounds i ν=(listed.setIfInBounds i ν)++Δ jq.size false:=by rw[Array.setIfInBounds_append_left (by omega)]);have dV:Closed ops (listed.setIfInBounds i ν):=by
     intro j oj jH hlj e he hb;by_cases hij:i=j
     .subst hij;rw[ho]at jH;(cases jH);exact zj (BI e he hb)
     .rw[getD_set_ne ν hij]at hlj;exact zj (hc j oj jH hlj e he hb)
    unfold wpOp at h1 ⊢;simp only[ho,ho',cF,hg,dF]at h1 ⊢;rw[RA];refine h1.imp (λhh=>aqy (λa' w' hk=>ih _ a' w' (by simpa using hsz) dV hk) hh) (λhh=>⟨hh.1,hh.2⟩)
theorem aqA w0 m{id}{l:List Oper}{Q}{a}(h0:Below w0.heap.size w0 w)(hm:P.follows .mixedOrders=ν)(hB:zn .any (l.take m).toArray=ν)(hf:pz (l.take m).toArray=ν)(hw:(l.drop m).all (Ml (l.take m).toArray)=ν)(h:wpQuiet P (l.take m).toArray (λw'=>∃s:bf w0,w'=s.w) (λa'=>∀w',(∃s:bf w0,w'=s.w)->wpAnyH P .any l.toArray Q (λ_=>True) (l.drop m).length (Δ (l.take m).length ν++Δ (l.drop m).length ο) a' w') (l.take m) a):(Code.region id l.toArray ν).wp P Q a w:=by
 have e:l.toArray=(l.take m).toArray++(l.drop m).toArray:=by simp
 generalize hp:l.take m=p at*;generalize hs:l.drop m=s at*;refine wp_region_any hm ?_;simp only[zn,Bool.and_eq_true]at hB;rw[e]at h ⊢;have h1:j3 P .any p.toArray (Mm (λa w=>j3 P .any (p.toArray++s.toArray) Q s.toArray.size (Δ p.toArray.size ν++Δ s.toArray.size ο) a w) Q) p.toArray.size (Δ p.toArray.size ο) a w.drew:=by refine wpAny_of_quiet (C:=λw'=>∃s:bf w0,w'=s.w) (Q:=λa'=>∀w',(∃s:bf w0,w'=s.w)->wpAnyH P .any (p.toArray++s.toArray) Q (λ_=>True) s.length (Δ p.length ν++Δ s.length ο) a' w') (λ_ w' hw' h=>by have:=wpAny_of_held _ _ _ _ (h w' hw');simpa[Mm]using this) _ _ _ _ ⟨⟨_,h0.drew⟩,rfl⟩ ?_;have:=wpAnyQ_lex (C:=λw'=>∃s:bf w0,w'=s.w) (md:=.any) hB.1 p 0 (Δ p.toArray.size ο) a (by simp) (by simpa using hB.2) h;simpa using this
 have h2:=aqz hf (λo ho=>List.all_eq_true.1 hw o (by simpa using ho)) p.toArray.size _ a w.drew (by simp) (by
  intro j o hj hlj;have:=(ξ.1 hj).1;simp at this;simp[this]at hlj) h1
 have e1:(Δ p.toArray.size ο)++(Δ s.toArray.size ο)=Δ (p.toArray++s.toArray).size false:=by simp
 have e2:p.toArray.size+s.toArray.size=(p.toArray++s.toArray).size:=by simp
 rw[e1,e2]at h2;exact h2
theorem Mn{fn}{t u v x}(h:fn.results=#[.tmp t,.tmp u,.tmp v,.tmp x])tmps P w:(results fn tmps).run P w=.ok (.tuple #[tmps.getD t undef,tmps.getD u undef,tmps.getD v undef,tmps.getD x undef]) w:=by simp[results,h]
def aqB(a:Int×Int×Int×Int):Value:=.tuple #[.int .i64 a.1,.int .i64 a.2.1,.int .i64 a.2.2.1,.int .i64 a.2.2.2]
structure yd(W:υ)(B:Nat)(q:Int×Int×Int):Prop where
 c0:W.cell? ⟨B,0,η⟩=θ (.int .i64 q.1)
 c1:W.cell? ⟨B,1,η⟩=θ (.int .i64 q.2.1)
 c2:W.cell? ⟨B,2,η⟩=θ (.int .i64 q.2.2)
 fz:∀j,W.frozen? ⟨B,j,η⟩=ο
 lt:B<W.heap.size
theorem yd.below(h:yd W B q)(hb:Below W.heap.size W W'):yd W' B q:=
 ⟨(hb.cell (p:=⟨B,0,η⟩) h.lt).trans h.c0,(hb.cell (p:=⟨B,1,η⟩) h.lt).trans h.c1,(hb.cell (p:=⟨B,2,η⟩) h.lt).trans h.c2,λj=>(hb.frozen (p:=⟨B,j,η⟩) h.lt).trans (h.fz j),Nat.lt_of_lt_of_le h.lt hb.size⟩
theorem yd.set(h:yd W B q)p:yd (((W.setCell ⟨B,0,η⟩ (.int .i64 p.1)).setCell ⟨B,1,η⟩ (.int .i64 p.2.1)).setCell ⟨B,2,η⟩ (.int .i64 p.2.2)) B p:=by
 have h0:=h.c0;have h1:=h.c1;have h2:=h.c2;have hf:=h.fz;refine⟨?_,?_,?_,λj=>?_,by simpa using h.lt⟩
 .rw[Eu _ _ _ _ (by simp),Eu _ _ _ _ (by simp)];exact SH _ _ _ h0
 .rw[Eu _ _ _ _ (by simp)];exact SH _ _ _ (by rw[Eu _ _ _ _ (by simp)];exact h1)
 .exact SH _ _ _ (by rw[Eu _ _ _ _ (by simp),Eu _ _ _ _ (by simp)];exact h2)
 .simp[hf]
theorem aqC{T:Θ}:yd (W.alloc (.cells #[.int .i64 q.1,.int .i64 q.2.1,.int .i64 q.2.2] T)) W.heap.size q:=
 ⟨cx rfl rfl,cx rfl rfl,cx rfl rfl,λ_=>aau rfl,by simp⟩
theorem kR.set{D}{la ea}{lc ec}(h:kR w W B g la ea lc ec)(hne:B≠D)(hD:w.heap.size<=D)x y z:kR w (((W.setCell ⟨D,0,η⟩ x).setCell ⟨D,1,η⟩ y).setCell ⟨D,2,η⟩ z) B g la ea lc ec:=by
 have h0:=h.c0;have h1:=h.c1;have h2:=h.c2;have hne' :¬D=B:=λe=>hne e.symm;refine⟨?_,?_,?_,Hj h.aQ hD _ _ _,by simpa using h.lt⟩
 .rw[x8 _ _ _ _ hne',x8 _ _ _ _ hne',x8 _ _ _ _ hne'];exact h0
 .rw[x8 _ _ _ _ hne',x8 _ _ _ _ hne',x8 _ _ _ _ hne'];exact h1
 .rw[x8 _ _ _ _ hne',x8 _ _ _ _ hne',x8 _ _ _ _ hne'];exact h2
theorem aqD g la ea lc ec v t ho hc l w(hG:cL w la ea g)(hH:eg w ho l)(hlen:l.length<=9223372036854775807):Ξ ah 55 #[.agg #[.int .i64 g.hor,.slice la g.lives.length lc,.slice ea g.af.length ec],.int .i64 v,.int .i64 t,.slice ho l.length hc] w λr w'=>r=.returned (aqB (n5 g v t l))/\Below w.heap.size w w':=by
 have aA:=qA w g la ea lc ec 59;have h1:=LH g la ea lc ec v t _ (hG.below aA.aQ);by_cases e1:dB g v t=0
 case neg=>
  have bU:Hid (n5 g v t l=(0,0,0,dB g v t)):=by show _=_;unfold n5;rw[ς e1]
  have d1:(dB g v t !=0)=true:=by simpa using e1
  generalize dB g v t=n at*;go_enter QH,ntmps55;go_wp2_with fail;refine h1.mono ?_;rintro r w1 ⟨rfl,aj⟩;have cz:=(aA.below aj).aQ;go_wp2;(try simp only[lB,Exit.then]);refine cR (Mn rfl _ _ _) rfl ?_;exact⟨by rw[bU.out];rfl,cz⟩
 rw[e1]at h1;obtain⟨hg0,⟨hv0,jR⟩,ht0,ht1⟩:=uB e1;have hR:=ei hg0;by_cases Mo:500<l.length
 .have bU:Hid (n5 g v t l=(0,0,0,2)):=by show _=_;unfold n5;rw[χ e1,χ Mo]
  go_enter QH,ntmps55;go_wp2_with fail;refine h1.mono ?_;rintro r w1 ⟨rfl,aj⟩;have cz:=(aA.below aj).aQ;go_wp2;(try simp only[lB,Exit.then]);refine cR (Mn rfl _ _ _) rfl ?_;exact⟨by rw[bU.out];rfl,cz⟩
 have az8 :l.length<=500:=by omega
 obtain⟨s0,hs0⟩:∃s0,s0=(if bl t g.lives v=ν then θ (v,t,(0:Int))else η):=⟨_,rfl⟩;have aqE:Hid (lK g s0 l=η->n5 g v t l=(0,0,0,5)):=by intro h;unfold n5;rw[χ e1,ς Mo,<- hs0,h]
 have aqF:Hid (∀s,lK g s0 l=θ s->n5 g v t l=(s.1,s.2.1,s.2.2,0)):=by intro s h;unfold n5;rw[χ e1,ς Mo,<- hs0,h]
 obtain⟨V,rfl⟩:∃V:Nat,v=(V:Int):=⟨v.toNat,by omega⟩;have hV:V<g.lives.length:=by omega
 have hlv:=hR.tF;have zJ:=pJ t g.lives V hV;have LM:(V:Int)<(g.lives.length:Int):=by omega
 have aoJ:(0:Int)<=(V:Int):=by omega
 have cH:=aa hG;have iB:=aa hH;have eO:=aa hR;have abO:Hid (bl t g.lives (V:Int)=ν->zF g ((V:Int),t,0)):=λh=>⟨by simp only;omega,by simp only;omega,h⟩;obtain⟨ok,hok⟩:∃ok,ok=bl t g.lives (V:Int):=⟨_,rfl⟩;have zL:=λW=>zG g.lives[V].1 g.lives[V].2 t W;rw[<-zJ,<- hok]at zL;have Hr:Hid (∀w,cL w la ea g->∃b off,la=θ ⟨b,off,η⟩/\b<w.heap.size/\w.cell? ⟨b,off+V*2,η⟩=θ (.int .i64 g.lives[V].1)/\w.cell? ⟨b,off+V*2+1,η⟩=θ (.int .i64 g.lives[V].2)):=by
  intro w hG;rcases hG.lv with h0|⟨b,off,rfl,cp,hc⟩
  .rw[h0]at hV;simp at hV
  exact⟨b,off,rfl,cp,eg.get hV hc⟩
 have td:Hid ((∃s,lK g s0 (l.take 0)=θ s/\((V:Int),t,(0:Int))=s/\zF g s/\0<=s.2.2/\s.2.2<=1000*((0:Nat):Int)/\ok=ν)\/(lK g s0 (l.take 0)=η/\ok=ο)):=by
  rw[List.take_zero];cases ok with
  |true=>left;exact⟨((V:Int),t,0),by rw[hs0,<- hok];rfl,rfl,abO.out hok.symm,by simp,by simp,rfl⟩
  |false=>right;exact⟨by rw[hs0,<- hok];rfl,rfl⟩
 clear e1 hG hH Mo hR hg0 jR hs0 hok abO zJ;go_enter QH,ntmps55;go_wp2_with fail;refine h1.mono ?_;rintro r w1 ⟨rfl,aj⟩;have bD:=aA.below aj;have hD:w.heap.size<w1.heap.size:=bD.lt;have bt:=bD.below (ax w1 (.cells #[.int .i64 (V:Int),.int .i64 t,.int .i64 0] 148));have abP:yd (w1.alloc (.cells #[.int .i64 (V:Int),.int .i64 t,.int .i64 0] 148)) w1.heap.size ((V:Int),t,0):=aqC (q:=((V:Int),t,0));obtain⟨lb,cC,rfl,hlb,Ht,Hu⟩:=Hr.out _ (cH.out.below bt.aQ);have g1:=bD.c1;have Em:=bt.c1;go_wp2_with fail;refine(zL _).mono ?_;rintro r w3 ⟨rfl,aB⟩;have gN:=aa (bt.below aB);have abQ:=aa (abP.below aB);clear zL aB bD bt abP Ht Hu hlb Hr g1 Em;go_wp2_with fail;go_loopw [14,15] (λo i wr=>∃(k:Nat) (q:Int×Int×Int) (ok:Bool),k<=l.length/\i=.int .i64 k/\o=.bool ok/\((∃s,lK g s0 (l.take k)=θ s/\q=s/\zF g s/\0<=s.2.2/\s.2.2<=1000*(k:Int)/\ok=ν)\/(lK g s0 (l.take k)=η/\ok=ο))/\yd wr w1.heap.size q/\kR w wr w.heap.size g (θ ⟨lb,cC,η⟩) ea lc ec) (λ_ i _=>l.length-(intOf i).toNat)
 case atStart=>exact⟨0,_,ok,Nat.zero_le _,rfl,rfl,td.out,abQ.out,gN.out⟩
 case round=>
  clear td abQ gN;obtain⟨k,q,ok,hk,rfl,rfl,aqG,hS,hB⟩:=hrel;have g0:=hB.c0;have g1:=hB.c1;have g2:=hB.c2;have Si:=hS.c0;have Sj:=hS.c1;have Sk:=hS.c2;rcases aqG with⟨s,hs,rfl,HS,aqH,az9,rfl⟩|⟨hs,rfl⟩
  .have EC:=aa hs;clear hs;by_cases hlt:k<l.length
   .rcases iB.out.below hB.aQ with h0|⟨b,off,rfl,cp,uM⟩
    .subst h0;simp at hlt
    (obtain⟨c0,c1⟩:=eg.get hlt uM;have aX:=aa (aox (g:=g) (s:=s0) hlt);rw[EC.out,C5,<- aaq HS.al]at aX;obtain⟨p,hp,xV⟩:=aav g (θ ⟨lb,cC,η⟩) ea lc ec q l[k] eO.out HS.v0 HS.v1 aqH (by omega);have ED:Hid (∀s',ni g q l[k]=θ s'->zF g s'/\0<=s'.2.2/\s'.2.2<=1000*((k+1:Nat):Int)):=by intro s' e;rw[aaq HS.al]at e;obtain⟨k1,_,_,_,k2,bz⟩:=aap eO.out e;exact⟨k1,by omega,by omega⟩);have aqI:Hid ((∃s,lK g s0 (l.take (k+1))=θ s/\p=s/\zF g s/\0<=s.2.2/\s.2.2<=1000*((k+1:Nat):Int)/\(ni g q l[k]).isSome=ν)\/(lK g s0 (l.take (k+1))=η/\(ni g q l[k]).isSome=ο)):=by
     show _\/_;rw[aX.out];cases e:ni g q l[k]with
     |none=>right;exact⟨rfl,rfl⟩
     |some s'=>left;exact⟨s',rfl,hp s' e,(ED.out s' e).1,(ED.out s' e).2.1,(ED.out s' e).2.2,rfl⟩
    clear aX ED hp;generalize (ni g q l[k]).isSome=HT at*;unfold rG at xV;(have hki:(k:Int)<(l.length:Int):=by omega);have hne:Nonempty (bf wr):=⟨⟨wr,Below.refl _ _⟩⟩;have f0:∀s:bf wr,s.w.cell? ⟨w.heap.size,0,η⟩=θ (.int .i64 g.hor):=λs=>(hB.below s.h).c0;have f1:∀s:bf wr,s.w.cell? ⟨w.heap.size,1,η⟩=θ (.slice (θ ⟨lb,cC,η⟩) g.lives.length lc):=λs=>(hB.below s.h).c1;have f2:∀s:bf wr,s.w.cell? ⟨w.heap.size,2,η⟩=θ (.slice ea g.af.length ec):=λs=>(hB.below s.h).c2;have f3:∀s:bf wr,s.w.cell? ⟨w1.heap.size,0,η⟩=θ (.int .i64 q.1):=λs=>(hS.below s.h).c0;have f4:∀s:bf wr,s.w.cell? ⟨w1.heap.size,1,η⟩=θ (.int .i64 q.2.1):=λs=>(hS.below s.h).c1;have f5:∀s:bf wr,s.w.cell? ⟨w1.heap.size,2,η⟩=θ (.int .i64 q.2.2):=λs=>(hS.below s.h).c2;have f6:∀s:bf wr,s.w.cell? ⟨b,off+k*2,η⟩=θ (.int .i64 l[k].1):=λs=>(s.h.cell (p:=⟨b,off+k*2,η⟩) cp).trans c0;have f7:∀s:bf wr,s.w.cell? ⟨b,off+k*2+1,η⟩=θ (.int .i64 l[k].2):=λs=>(s.h.cell (p:=⟨b,off+k*2+1,η⟩) cp).trans c1;have n8:∀s:bf wr,Ξ ah 93 #[.agg #[.int .i64 g.hor,.slice (θ ⟨lb,cC,η⟩) g.lives.length lc,.slice ea g.af.length ec],.agg #[.int .i64 q.1,.int .i64 q.2.1,.int .i64 q.2.2],.agg #[.int .i64 l[k].1,.int .i64 l[k].2]] s.w λr w'=>r=.returned (.tuple #[.agg #[.int .i64 p.1,.int .i64 p.2.1,.int .i64 p.2.2],.bool HT])/\Below s.w.heap.size s.w w':=λs=>xV s.w (cH.out.below (bK hB.aQ s.h));have B3:=aa hB;have abR:=aa hS;clear hB hS g0 g1 g2 Si Sj Sk c0 c1 uM xV HS;go_wp2_with fail;refine aqA wr 8 (Below.refl _ _) (by kernel_rfl) (by kernel_rfl) (by kernel_rfl) (by kernel_rfl) ?_;simp only[List.take_succ_cons,List.take_zero];(repeat (go_big_quiet_step ((go_at_call 93;exact mI (n8 _)))));refine pq ?_;rintro _ ⟨s,rfl⟩;have hSw:True:=trivial;refine tk 8 ?_;refine tk 9 ?_;refine eL (i:=10) rfl (by kernel_rfl) (λK hK=>?_);have abS:=B3.out.below s.h;have B4:=abR.out.below s.h;clear f0 f1 f2 f3 f4 f5 f6 f7 hne n8 B3 abR;generalize s.w=bW at*;have r0:=B4.c0;have r1:=B4.c1;have r2:=B4.c2;have fz:=B4.fz;have lt:=B4.lt;have rR:=aa (abS.set (D:=w1.heap.size) (by omega) (by omega) (.int .i64 p.1) (.int .i64 p.2.1) (.int .i64 p.2.2));have S2:=aa (B4.set p);clear abS B4;go_simp;refine hK.out _ _ trivial (λ_=>?_);clear hK K;(try simp only[dz,List.setIfInBounds_toArray,List.set_cons_zero,List.set_cons_succ]);refine eL (i:=11) rfl (by kernel_rfl) (λK hK=>?_);go_simp;refine hK.out _ _ trivial (λ_=>?_);clear hK K;refine gU (by kernel_rfl) ?_ _;(try simp only[dz,List.setIfInBounds_toArray,List.set_cons_zero,List.set_cons_succ]);go_wp2;go_roundw
    case rel=>exact⟨k+1,p,HT,by omega,by go_num,rfl,aqI.out,S2.out,rR.out⟩
    case measure=>simp[intOf];omega
   ·(have bp:k=l.length:=by omega);have bx:Hid (n5 g (V:Int) t l=(q.1,q.2.1,q.2.2,0)):=aqF.out q (by have:=EC.out;rwa[bp,List.take_length]at this);have cz:=hB.aQ;have lt:=hS.lt;subst bp;clear hB hS;go_wp2
    go_quiet (fail)
    go_wp2;(try simp only[lB,Exit.then]);refine cR (Mn rfl _ _ _) rfl ?_;exact⟨by rw[bx.out];rfl,below_drewN cz _⟩
  .have bx:=aa (aqE.out (aoy hs));have cz:=hB.aQ;clear hs hB hS;go_wp2;(all_goals (try simp only[lB,Exit.then]));(all_goals refine cR (Mn rfl _ _ _) rfl ?_);all_goals exact⟨by rw[bx.out];rfl,cz⟩
theorem HU{fn}{t u v}(h:fn.results=#[.tmp t,.tmp u,.tmp v])tmps P w:(results fn tmps).run P w=.ok (.tuple #[tmps.getD t undef,tmps.getD u undef,tmps.getD v undef]) w:=by simp[results,h]
def wm(g:bg)(v:Int):Bool:=decide (0<=v)&&decide (v<(g.lives.length:Int))
theorem B5 g v:wm g v=ν↔0<=v/\v<(g.lives.length:Int):=by unfold wm;simp
theorem aqJ g v:wm g v=c9 v 0 ((g.lives.length:Int)- 1):=by rw[Bool.eq_iff_iff,B5,oI];omega
theorem abT g la ea lc ec v w(hl:g.lives.length<=12):Ξ ah 89 #[.agg #[.int .i64 g.hor,.slice la g.lives.length lc,.slice ea g.af.length ec],.int .i64 v] w λr w'=>r=.returned (.bool (wm g v))/\Below w.heap.size w w':=by rw[aqJ];exact G4 g.hor la ea g.lives.length lc g.af.length ec v w hl
def B6(g:bg)(v q d a e:Int):Prop:=
 (aK g≠0/\e=aK g/\d=0/\a=0)\/(aK g=0/\¬((0<=v/\v<(g.lives.length:Int))/\0<=q/\q<(g.lives.length:Int))/\e=4/\d=0/\a=0) \/
 (aK g=0/\((0<=v/\v<(g.lives.length:Int))/\0<=q/\q<(g.lives.length:Int))/\B2 g v q d a e)
def z6(g:bg)(v t:Int):kq:=λx y=>if x=v/\bl y g.lives v=ν/\y<t then θ (-y,0,0,0,0,0,0)else η
theorem aqK{V}(hV:V<g.lives.length):z6 g (V:Int) g.lives[V].1=λ_ _=>none:=by funext x y;unfold z6;rw[ς];rintro⟨_,h1,h2⟩;rw[pJ _ _ _ hV]at h1;have:=(nW _ _ _).1 h1;omega
theorem aqL{V}(hV:V<g.lives.length)(h1:g.lives[V].1<=t)(h2:t<g.lives[V].2):lQ (z6 g (V:Int) t) (V:Int) t (-t,0,0,0,0,0,0)=z6 g (V:Int) (t+1):=by
 have ha:bl t g.lives (V:Int)=true:=by rw[pJ _ _ _ hV];exact(nW _ _ _).2 ⟨h1,h2⟩
 funext x y;unfold lQ z6;by_cases e:x=(V:Int)/\y=t
 .obtain⟨rfl,rfl⟩:=e;rw[χ ⟨rfl,rfl⟩,χ ⟨rfl,ha,by omega⟩]
 .rw[ς e];by_cases e2:x=(V:Int)/\bl y g.lives (V:Int)=ν/\y<t
  .rw[χ e2,χ ⟨e2.1,e2.2.1,by omega⟩]
  .rw[ς e2,ς (λk=>e2 ⟨k.1,k.2.1,by have:=λh=>e ⟨k.1,h⟩;omega⟩)]
theorem aqM{V}(hV:V<g.lives.length)x y:(z6 g (V:Int) g.lives[V].2 x y).map (·.1)=qK g (V:Int) x y:=by
 unfold z6 qK;by_cases e:x=(V:Int)/\bl y g.lives (V:Int)=ν
 .have h1:=e.2;rw[pJ _ _ _ hV]at h1;have:=(nW _ _ _).1 h1;rw[χ ⟨e.1,e.2,by omega⟩,χ e];rfl
 .rw[ς (λk=>e ⟨k.1,k.2.1⟩),ς e];rfl
theorem aqN g la ea lc ec v q w(hG:cL w la ea g):Ξ ah 54 #[.agg #[.int .i64 g.hor,.slice la g.lives.length lc,.slice ea g.af.length ec],.int .i64 v,.int .i64 q] w λr w'=>∃d a e,r=.returned (.tuple #[.int .i64 d,.int .i64 a,.int .i64 e])/\B6 g v q d a e/\Below w.heap.size w w':=by
 have aA:=qA w g la ea lc ec 59;have h1:=Eb g la ea lc ec _ (hG.below aA.aQ);by_cases e1:aK g=0
 case neg=>
  have bU:Hid (B6 g v q 0 0 (aK g)):=.inl ⟨e1,rfl,rfl,rfl⟩;have d1:(aK g !=0)=true:=by simpa using e1
  generalize aK g=n at*;go_enter KX,ntmps54;go_wp2_with fail;refine h1.mono ?_;rintro r w1 ⟨rfl,aj⟩;have cz:=(aA.below aj).aQ;go_wp2;(try simp only[lB,Exit.then]);refine cR (HU rfl _ _ _) rfl ?_;exact⟨_,_,_,rfl,bU.out,cz⟩
 have hR:=ei e1;have hv:=λW=>abT g la ea lc ec v W hR.tF;have hq:=λW=>abT g la ea lc ec q W hR.tF;have kS:Hid (¬(wm g v=ν/\wm g q=ν)->B6 g v q 0 0 4):=λh=>.inr (.inl ⟨e1,by rw[B5,B5]at h;exact h,rfl,rfl,rfl⟩);have n9:Hid (wm g v=ν/\wm g q=ν->∀d a e,B2 g v q d a e->B6 g v q d a e):=λh d a e h'=>.inr (.inr ⟨e1,by rw[B5,B5]at h;exact h,h'⟩);rw[e1]at h1;have aqO:=aa (B5 g v);have aqP:=aa (B5 g q);have eO:=aa hR;have Md:=aa hG;cases bv:wm g v with
 |false=>
  rw[bv]at hv kS;have aJ:=aa (kS.out (by simp));go_enter KX,ntmps54;go_wp2_with fail;refine h1.mono ?_;rintro r w1 ⟨rfl,aj⟩;have bD:=aA.below aj;have g0:=bD.c0;have g1:=bD.c1;have g2:=bD.c2;go_wp2_with fail;refine(hv _).mono ?_;rintro r w2 ⟨rfl,aq⟩;have cz:=(bD.below aq).aQ;go_wp2;(try simp only[lB,Exit.then]);refine cR (HU rfl _ _ _) rfl ?_;exact⟨_,_,_,rfl,aJ.out,cz⟩
 |true=>
  cases Mp:wm g q with
  |false=>
   rw[bv]at hv;rw[Mp]at hq kS;have aJ:=aa (kS.out (by simp));go_enter KX,ntmps54;go_wp2_with fail;refine h1.mono ?_;rintro r w1 ⟨rfl,aj⟩;have bD:=aA.below aj;have g0:=bD.c0;have g1:=bD.c1;have g2:=bD.c2;go_wp2_with fail;refine(hv _).mono ?_;rintro r w2 ⟨rfl,aq⟩;have bt:=bD.below aq;have g0:=bt.c0;have g1:=bt.c1;have g2:=bt.c2;go_wp2_with fail;refine(hq _).mono ?_;rintro r w3 ⟨rfl,aB⟩;have cz:=(bt.below aB).aQ;go_wp2;(try simp only[lB,Exit.then]);refine cR (HU rfl _ _ _) rfl ?_;exact⟨_,_,_,rfl,aJ.out,cz⟩
  |true=>
   rw[bv]at hv;rw[Mp]at hq;have uD:=aa (n9.out ⟨bv,Mp⟩);obtain⟨hv0,jR⟩:=aqO.out.1 bv;obtain⟨Qo,hq1⟩:=aqP.out.1 Mp;obtain⟨V,rfl⟩:∃V:Nat,v=(V:Int):=⟨v.toNat,by omega⟩;obtain⟨Y,rfl⟩:∃Y:Nat,q=(Y:Int):=⟨q.toNat,by omega⟩;(have jo:V<g.lives.length:=by omega);(have LM:(V:Int)<(g.lives.length:Int):=by omega);have hlf:=eO.out.life _ (List.getElem_mem jo);have Ho:=eO.out.hor;have hlv:=eO.out.tF;have G0:=aa (λb n tv W (SV:cL W la ea g) (SW:dn W b n tv) (hn:n<=200) (Ew:∀x y,(tv x y).map (·.1)=qK g (V:Int) x y)=>abo g la ea lc ec (qK g (V:Int)) SX 0 91 (λargs w=>Tryz.call91 args w) b n tv W SV eO.out (abG eO.out hv0) SW hn ⟨by omega,by omega⟩ Ew (aqo g) (λx y p h=>by have:=S0 eO.out h;omega) apY);have abU:=aa (aqK jo);have BJ:=aa (λt=>aqL (t:=t) jo);have abV:=aa (aqM jo);have D8:=aa (λM (S:BX g (qK g (V:Int)) (λ_=>0) M)=>aqu eO.out (q:=(Y:Int)) hv0 S);have abW:=aa (λM (S:BX g (qK g (V:Int)) (λ_=>0) M) x y z (hz:M x y=θ z)=>S0 eO.out (S.snd x y z hz));have hmm:=@run_makeMap ah;(have aAa:(Y:Int)<100:=by omega);go_enter KX,ntmps54;go_wp2_with fail;refine h1.mono ?_;rintro r w1 ⟨rfl,aj⟩;have bD:=aA.below aj;have g0:=bD.c0;have g1:=bD.c1;have g2:=bD.c2;go_wp2_with fail;refine(hv _).mono ?_;rintro r w2 ⟨rfl,aq⟩;have bt:=bD.below aq;have g0:=bt.c0;have g1:=bt.c1;have g2:=bt.c2;go_wp2_with fail;refine(hq _).mono ?_;rintro r w3 ⟨rfl,aB⟩;have gN:=bt.below aB;obtain⟨w4,fZ⟩:∃x,x=w3.alloc (.map #[] 0):=⟨_,rfl⟩;(have Mg:dn w4 w3.heap.size 0 (λ_ _=>η):=by rw[fZ];exact abe w3);(have b4:Below w3.heap.size w3 w4:=by rw[fZ];exact ax w3 _);have zO:=gN.below b4;have HQ:=Md.out.below zO.aQ;have s3:=gN.lt;obtain⟨lb,cC,rfl,hlb,l0,l1⟩:∃b off,la=θ ⟨b,off,η⟩/\b<w4.heap.size/\(w4.cell? ⟨b,off+V*2,η⟩=θ (.int .i64 g.lives[V].1)/\w4.cell? ⟨b,off+V*2+1,η⟩=θ (.int .i64 g.lives[V].2)):=by
    rcases HQ.lv with h0|⟨b,off,rfl,cp,hc⟩
    .rw[h0]at jo;simp at jo
    exact⟨b,off,rfl,cp,eg.get jo hc⟩
   have zM:=fZ.symm;have z7:=aa Mg;have cr:=aa zO;have zu:=aa HQ;have S3:Hid (w.heap.size<=w3.heap.size):=gN.aQ.size;have Mq:=aa l0;have abX:=aa l1;have g1:=zO.c1;obtain⟨b,hb⟩:∃b,b=w3.heap.size:=⟨_,rfl⟩;generalize g.lives[V]=iQ at*;clear fZ b4 Mg zO HQ gN s3;go_wp2_with fail;clear zM;rw[<-hb]at z7 S3 ⊢;clear hb g1 l0 l1 hlb;go_loopw [11] (λx wr=>∃k:Nat,iQ.1+(k:Int)<=iQ.2/\x=.int .i64 (iQ.1+(k:Int))/\dn wr b k (z6 g (V:Int) (iQ.1+(k:Int)))/\w4.grownBy wr (θ b)) (λx _=>(iQ.2-intOf x).toNat)
   case atStart=>exact⟨0,by simp only[Int.natCast_zero,Int.add_zero];omega,by simp,by simp only[Int.natCast_zero,Int.add_zero];rw[abU.out];exact z7.out,Hh _ _⟩
   case round=>
    obtain⟨k,hk,rfl,pX,hg⟩:=hrel;obtain⟨g0,g1,g2⟩:=kR.HL z7.out hg cr.out;have l0:=z7.out.cell hg Mq.out;have l1:=z7.out.cell hg abX.out;by_cases bp:iQ.1+(k:Int)<iQ.2
    .have Ey:IntKind.i64.wrap (iQ.1+(k:Int)+1)=iQ.1+(k:Int)+1:=n6 _ (by omega) (by omega);have hwn:IntKind.i64.wrap (-(iQ.1+(k:Int)))= -(iQ.1+(k:Int)):=n6 _ (by omega) (by omega);have abY:=aa (BJ.out (iQ.1+(k:Int)) (by omega) bp);obtain⟨aO,B0,uL,od⟩:=pX.store (by unfold maxLen;omega) (v:=(V:Int)) (t:=iQ.1+(k:Int)) (nt (by omega) (by omega)) (nt (by omega) (by omega)) (-(iQ.1+(k:Int)),0,0,0,0,0,0);simp only[kW,qH]at B0;rw[abY.out]at uL;have qI:=aa uL;have wh:=aa (n4 hg od);clear pX hg uL od abY;go_wp2;go_roundw
     case rel=>exact⟨k+1,by omega,by congr 1;omega,by rw[show iQ.1+((k+1:Nat):Int)=iQ.1+(k:Int)+1 by omega];exact qI.out,wh.out⟩
     case measure=>simp[intOf];omega
    ·(have c6:iQ.1+(k:Int)=iQ.2:=by omega);rw[c6]at pX bp ⊢;have zZ:=G0.out b k _ wr (z7.out.sS hg zu.out) pX (by omega) abV.out;have iR:Hid (∀W,wr.grownBy W (θ b)->Below w.heap.size w W/\W.cell? ⟨w.heap.size,0,η⟩=θ (.int .i64 g.hor)):=λW h=>⟨((cr.out.aQ.grown hg cr.out.aQ.size (λj hj=>by cases hj;exact S3.out)).grown h (Nat.le_trans cr.out.aQ.size hg.size) (λj hj=>by cases hj;exact S3.out)),z7.out.cell (n4 hg h) cr.out.c0⟩;clear pX hg G0 abU BJ abV c6;go_wp2_with fail;refine zZ.mono ?_;rintro r aO ⟨⟨abt,rfl⟩,⟨aqn,kr,uL,rQ⟩,od⟩;obtain⟨bT,k0⟩:=iR.out aO od;have gb:=aa bT;have qI:=aa uL;obtain⟨pY,sV⟩:=D8.out kr rQ;have pY:=aa pY;have sV:=aa sV;have aqQ:=aa (abW.out kr rQ (Y:Int));obtain⟨H,hH⟩:∃H:Nat,g.hor=(H:Int):=⟨g.hor.toNat,by omega⟩;rw[hH,Int.toNat_natCast]at pY sV;rw[hH]at k0;clear zZ uL rQ od bT g0 g1 g2 l0 l1 iR D8 abW z7 cr zu Mq abX;(have aAb:H<=100:=by omega);go_wp2_with fail;clear k0;go_loopw [12,13,61] (λx y i wr=>∃k:Nat,k<=H/\i=.int .i64 k/\x=.int .i64 (lS kr (Y:Int) k).1/\y=.int .i64 (lS kr (Y:Int) k).2/\Below aO.heap.size aO wr) (λ_ _ i _=>H-(intOf i).toNat)
     case atStart=>exact⟨0,Nat.zero_le _,rfl,rfl,rfl,Below.refl _ _⟩
     case round=>
      obtain⟨k,hk,rfl,rfl,rfl,cp⟩:=hrel;by_cases bp:k<H
      ·(have hki:(k:Int)<(H:Int):=by omega);have LY:IntKind.i64.wrap ((k:Int)+1)=(k:Int)+1:=n6 _ (by omega) (by omega);have q1:=(qI.out.below cp).look (v:=(Y:Int)) (t:=(k:Int)) (nt (by omega) (by omega)) (nt (by omega) (by omega));have oa:Hid (lS kr (Y:Int) (k+1)=match kr (Y:Int) (k:Int)with|none=>lS kr (Y:Int) k|some z=>if(k:Int)+z.1<(lS kr (Y:Int) k).1 then((k:Int)+z.1, -z.1)else lS kr (Y:Int) k):=rfl;have abZ:Hid (∀o N,Below aO.heap.size aO ((wr.alloc o).drewN N)):=λo N=>below_drewN (cp.alloc cp.size o) N;have S4:Hid (∀o,Below aO.heap.size aO (wr.alloc o)):=λo=>cp.alloc cp.size o;generalize lS kr (Y:Int) k=fk at*;obtain⟨x0,y0⟩:=fk;clear cp;cases hz:kr (Y:Int) (k:Int)with
       |none=>
        rw[hz]at q1 oa;simp only[kW,jG,qH,ic]at q1;simp only at oa ⊢;clear hz;go_wp2;go_roundw
        case rel=>exact⟨k+1,by omega,by go_num,by rw[oa.out],by rw[oa.out],S4.out _⟩
        case measure=>simp[intOf];omega
       |some z=>
        obtain⟨q,pS,d2,a2,e2,pU,c2⟩:=z;have aqR:=aqQ.out (k:Int) _ hz;rw[hz]at q1 oa;simp only[kW,Ω,qH,gu]at q1;simp only at oa aqR ⊢;have cc:IntKind.i64.wrap ((k:Int)+q)=(k:Int)+q:=n6 _ (by omega) (by omega);have pV:IntKind.i64.wrap (-q)= -q:=n6 _ (by omega) (by omega);obtain⟨wa,bY⟩:∃x,x=wr.alloc (.cells #[.int .i64 q,.int .i64 pS,.int .i64 d2,.int .i64 a2,.int .i64 e2,.int .i64 pU,.int .i64 c2] 142):=⟨_,rfl⟩;(have v0:wa.cell? ⟨wr.heap.size,0,η⟩=θ (.int .i64 q):=by rw[bY];exact cx rfl rfl);(have aqS:Hid (∀N,Below aO.heap.size aO (wa.drewN N)):=λN=>by rw[bY];exact abZ.out _ N);(have Mr:Hid (Below aO.heap.size aO wa):=by rw[bY];exact S4.out _);have zR:=bY.symm;clear bY hz abZ S4;by_cases hl:(k:Int)+q<x0
        ·(have lJ:Hid (lS kr (Y:Int) (k+1)=((k:Int)+q, -q)):=by show _=_;rw[oa.out,χ hl]);clear oa;go_wp2_with fail
         go_quiet (fail)
         clear v0;go_wp2;go_roundw
         case rel=>exact⟨k+1,by omega,by go_num,by rw[lJ.out],by rw[lJ.out],aqS.out _⟩
         case measure=>simp[intOf];omega
        ·(have lJ:Hid (lS kr (Y:Int) (k+1)=(x0,y0)):=by show _=_;rw[oa.out,ς hl]);clear oa;go_wp2;go_roundw
         case rel=>exact⟨k+1,by omega,by go_num,by rw[lJ.out],by rw[lJ.out],Mr.out⟩
         case measure=>simp[intOf];omega
      ·(have c6:H=k:=by omega);subst c6;have Mk:Hid (Below w.heap.size w wr):=gb.out.trans (cp.mono gb.out.size);clear cp;generalize lS kr (Y:Int) H=fk at*;obtain⟨x0,y0⟩:=fk;simp only at pY sV ⊢;by_cases hx:x0=1099511627776
       .have kV:=aa (uD.out _ _ _ (pY.out hx));(have aqT:(x0==1099511627776)=true:=by simpa using hx);clear pY sV uD;go_wp2;(try simp only[lB,Exit.then]);refine cR (HU rfl _ _ _) rfl ?_;exact⟨_,_,_,rfl,kV.out,Mk.out⟩
       .have kV:=aa (uD.out _ _ _ (sV.out hx));(have aqT:(x0==1099511627776)=false:=by simpa using hx);clear pY sV uD;go_wp2;(try simp only[lB,Exit.then]);refine cR (HU rfl _ _ _) rfl ?_;exact⟨_,_,_,rfl,kV.out,Mk.out⟩
theorem Ms ao bo n ca m cb v w:Ξ ah 110 #[.agg #[.slice ao n ca,.slice bo m cb],.int .i64 v] w λe w'=>e=.returned (.bool (qx n v))/\Below w.heap.size w w':=by
 have aD:=bR (cw w);by_cases h1:0<=v
 .by_cases h2:v<(n:Int)
  .have ak:=bR ((G9 n v).2 ⟨h1,h2⟩);go_enter QO,ntmps110;go_wp2;go_ret;exact⟨He ak.out.symm,aD.out _⟩
  ·(have ak:Hid (qx n v=ο):=by show _=_;rw[<-Bool.not_eq_true,G9];omega);go_enter QO,ntmps110;go_wp2;go_ret;exact⟨He ak.out.symm,aD.out _⟩
 .have ak:Hid (qx n v=ο):=by show _=_;rw[<-Bool.not_eq_true,G9];omega
  go_enter QO,ntmps110;go_wp2;go_ret;exact⟨He ak.out.symm,aD.out _⟩
theorem aqU ao bo ca m cb al v w(hA:nZ w ao al):Ξ ah 109 #[.agg #[.slice ao al.length ca,.slice bo m cb],.int .i64 v] w λe w'=>e=.returned (.bool (mH al v))/\Below w.heap.size w w':=by
 have aD:=bR (cw w);cases hv:qx al.length v with
 |false=>
  have ak:=bR (aop hv);have h1:=λW=>Ms ao bo al.length ca m cb v W;rw[hv]at h1;go_enter YA,ntmps109;go_wp2_with(go_at_call 110;refine(h1 _).mono ?_;rintro e w1 ⟨rfl,aj⟩);go_ret;exact⟨He ak.out.symm,bJ (aD.out _) aj⟩
 |true=>
  have ak:=bR (aoq hv);have h1:=λW=>Ms ao bo al.length ca m cb v W;rw[hv]at h1;have hr:=(G9 _ _).1 hv;obtain⟨k,rfl⟩:∃k:Nat,v=(k:Int):=⟨v.toNat,by omega⟩;have hk:k<al.length:=by omega
  rw[Int.toNat_natCast,List.getD_eq_getElem?_getD,List.getElem?_eq_getElem hk,Ω]at ak;rcases hA with h0|⟨b,off,rfl,hlt,hc⟩
  .subst h0;simp at hk
  have c0:=nZ.s4 hk hc;have hk1:(0:Int)<=(k:Int):=by omega
  have hk2:(k:Int)<(al.length:Int):=by omega
  generalize al[k]=x at ak c0;generalize al.length=n at*;go_enter YA,ntmps109;go_wp2_with fail;refine(h1 _).mono ?_;rintro e w1 ⟨rfl,aj⟩;have hz:=aj.size;simp only[lC]at hz;have q0:w1.cell? ⟨w.heap.size,0,η⟩=θ (.slice (θ ⟨b,off,η⟩) n ca):=by rw[aj.cell (p:=⟨w.heap.size,0,η⟩) (by simp)];simp
  have c1:w1.cell? ⟨b,off+k,η⟩=θ (.bool x):=by rw[(bJ (aD.out _) aj).cell (p:=⟨b,off+k,η⟩) hlt];exact c0
  have aS:=bR (bJ (aD.out _) aj);go_wp2;go_ret;exact⟨He ak.out.symm,aS.out⟩
theorem ab0 ao bo ca cb al ai w(hA:nZ w ao al)(hR:cm w bo ai):Ξ ah 70 #[.agg #[.slice ao al.length ca,.slice bo ai.length cb]] w λe w'=>e=.returned (.int .i64 (ij al ai))/\Below w.heap.size w w':=by
 have aD:=bR (cw w);by_cases n1:12<al.length
 .have ak:=bR (aae (al:=al) (ai:=ai) (.inl n1));go_enter QK,ntmps70;go_wp2;go_ret;exact⟨xM ak.out.symm,aD.out _⟩
 by_cases n2:30<ai.length
 .have ak:=bR (aae (al:=al) (ai:=ai) (.inr n2));go_enter QK,ntmps70;go_wp2;go_ret;exact⟨xM ak.out.symm,aD.out _⟩
 have aR:Hid (¬(12<al.length\/30<ai.length)):=by show ¬_;omega
 have aAc:ai.length<=30:=by omega
 go_enter QK,ntmps70;go_wp2;go_loopw [4,20] (λ_ i wr=>∃k:Nat,k<=ai.length/\i=.int .i64 k/\(ai.take k).all (qy al)=ν/\Below (w.heap.size+1) (w.alloc (.cells #[.slice ao al.length ca,.slice bo ai.length cb] 86)) wr) (λ_ i _=>ai.length-(intOf i).toNat)
 case atStart=>exact⟨0,Nat.zero_le _,rfl,rfl,Below.refl _ _⟩
 case round=>
  obtain⟨k,hk,rfl,hI,hb⟩:=hrel;have bu:=bR hI;have bQ:Below w.heap.size w wr:=(aD.out _).trans (hb.mono (by omega));have hz:=hb.size;simp only[lC]at hz;have cg:w.heap.size<wr.heap.size:=by omega
  have q0:wr.cell? ⟨w.heap.size,0,η⟩=θ (.slice ao al.length ca):=by rw[hb.cell (p:=⟨w.heap.size,0,η⟩) (by simp)];simp
  have q1:wr.cell? ⟨w.heap.size,1,η⟩=θ (.slice bo ai.length cb):=by rw[hb.cell (p:=⟨w.heap.size,1,η⟩) (by simp)];simp
  by_cases hlt:k<ai.length
  .have hA2:=hA.below bQ;rcases hR.below bQ with h0|⟨b,off,rfl,cp,hc⟩
   .subst h0;simp at hlt
   (obtain⟨c0,c1,c2⟩:=cm.Hf hlt hc;have lT:Hid (∀o w1,Below (wr.alloc o).heap.size (wr.alloc o) w1->Below w.heap.size w w1/\Below (w.heap.size+1) (w.alloc (.cells #[.slice ao al.length ca,.slice (θ ⟨b,off,η⟩) ai.length cb] 86)) w1):=by intro o w1 h1;have h2:=bJ (cw wr o) h1;exact⟨bJ bQ h2,hb.trans (h2.mono (by omega))⟩);have h1:=λW (hW:Below wr.heap.size wr W) v=>aqU ao (θ ⟨b,off,η⟩) ca ai.length cb al v W (hA2.below hW);have HV:=bR (cw wr);cases e1:mH al ai[k].1 with
   |false=>
    have bx:=bR (aaf aR.out hlt (show qy al ai[k]=ο by unfold qy;rw[e1];rfl));have g1:=λW hW=>h1 W hW ai[k].1;rw[e1]at g1;go_wp2_with(go_at_call 109;refine(g1 _ (HV.out _)).mono ?_;rintro e w1 ⟨rfl,aj⟩);go_ret;exact⟨xM bx.out.symm,(lT.out _ _ aj).1⟩
   |true=>
    have g1:=λW hW=>h1 W hW ai[k].1;rw[e1]at g1;cases e2:mH al ai[k].2.1 with
    |false=>
     have bx:=bR (aaf aR.out hlt (show qy al ai[k]=ο by unfold qy;rw[e1,e2];rfl));have g2:=λW hW=>h1 W hW ai[k].2.1;rw[e2]at g2;go_wp2_with fail;refine(g1 _ (HV.out _)).mono ?_;rintro e w1 ⟨rfl,aj⟩;have aq:=bJ (HV.out _) aj;have d0:=(aq.cell (p:=⟨w.heap.size,0,η⟩) cg).trans q0;have d1:=(aq.cell (p:=⟨w.heap.size,1,η⟩) cg).trans q1;(have x1:w1.cell? ⟨wr.heap.size,1,η⟩=θ (.int .i64 ai[k].2.1):=by rw[aj.cell (p:=⟨wr.heap.size,1,η⟩) (by simp)];simp);have hz1:=aj.size;simp only[lC]at hz1;(have bX:w.heap.size<w1.heap.size:=by omega);have HW:=bR (lT.out _ _ aj);go_wp2_with fail;refine(g2 _ aq).mono ?_;rintro e w2 ⟨rfl,aB⟩;go_wp2;go_ret;exact⟨xM bx.out.symm,bJ HW.out.1 aB⟩
    |true=>
     have bx:=bR (aah hlt bu.out (show qy al ai[k]=ν by unfold qy;rw[e1,e2];rfl));have g2:=λW hW=>h1 W hW ai[k].2.1;rw[e2]at g2;go_wp2_with fail;refine(g1 _ (HV.out _)).mono ?_;rintro e w1 ⟨rfl,aj⟩;have aq:=bJ (HV.out _) aj;have d0:=(aq.cell (p:=⟨w.heap.size,0,η⟩) cg).trans q0;have d1:=(aq.cell (p:=⟨w.heap.size,1,η⟩) cg).trans q1;(have x1:w1.cell? ⟨wr.heap.size,1,η⟩=θ (.int .i64 ai[k].2.1):=by rw[aj.cell (p:=⟨wr.heap.size,1,η⟩) (by simp)];simp);have hz1:=aj.size;simp only[lC]at hz1;(have bX:w.heap.size<w1.heap.size:=by omega);have HW:=bR (lT.out _ _ aj);go_wp2_with fail;refine(g2 _ aq).mono ?_;rintro e w2 ⟨rfl,aB⟩;go_wp2;go_roundw
     case rel=>exact⟨k+1,by omega,by go_num,bx.out,HW.out.2.trans (aB.mono (by omega))⟩
     case measure=>simp[intOf];omega
  ·(have bp:k=ai.length:=by omega);subst bp;have bx:=bR (aai bu.out);have LR:=hR.below bQ;have sY:=bR bQ;clear hR hA bQ hb bu;obtain⟨mG,rfl⟩:∃x,x=wr:=⟨_,rfl⟩;go_wp2;go_loopw [6,40] (λ_ i wr=>∃k:Nat,k<=ai.length/\i=.int .i64 k/\(ai.take k).all vT=ν/\Below mG.heap.size mG wr) (λ_ i _=>ai.length-(intOf i).toNat)
   case atStart=>exact⟨0,Nat.zero_le _,rfl,rfl,Below.refl _ _⟩
   case round=>
    obtain⟨k,hk,rfl,hI,hb⟩:=hrel;have bu:=bR hI;have hz:=hb.size;by_cases hlt:k<ai.length
    .rcases LR.below hb with h0|⟨b,off,rfl,cp,hc⟩
     .subst h0;simp at hlt
     obtain⟨c0,c1,c2⟩:=cm.Hf hlt hc;have lT:Hid (∀o,Below mG.heap.size mG (wr.alloc o)):=λo=>bJ hb (cw wr o);by_cases g1:ai[k].2.2<0
     .have ak:=bR (aag aR.out bx.out hlt (show vT ai[k]=ο by rw[<-Bool.not_eq_true,LD];omega));go_wp2;go_ret;exact⟨xM ak.out.symm,bJ sY.out (lT.out _)⟩
     .by_cases g2:1000<ai[k].2.2
      .have ak:=bR (aag aR.out bx.out hlt (show vT ai[k]=ο by rw[<-Bool.not_eq_true,LD];omega));go_wp2;go_ret;exact⟨xM ak.out.symm,bJ sY.out (lT.out _)⟩
      .have ak:=bR (aah hlt bu.out (show vT ai[k]=ν by rw[LD];omega));go_wp2;go_roundw
       case rel=>exact⟨k+1,by omega,by go_num,ak.out,lT.out _⟩
       case measure=>simp[intOf];omega
    ·(have bp:k=ai.length:=by omega);subst bp;have ak:=bR (aor aR.out bx.out (aai bu.out));go_wp2;go_ret;exact⟨xM ak.out.symm,bJ sY.out hb⟩
theorem ab1(hk:k<x.length):(x.set k v).take (k+1)=x.take k++[v]:=by rw[List.take_succ_eq_append_getElem (by simpa using hk),List.getElem_set_self,List.take_set_of_le (Nat.le_refl _)]
theorem ab2 g caps f(oc:∀args w,(gX g args).run ah w=.ok (.enter g args) w)ao bo ca m cb al w(hA:nZ w ao al)(h12:al.length<=12)(hf:∀(v:Nat) cj,v<al.length->Below w.heap.size w cj->Ξ ah g (#[.int .i64 v]++caps) cj λe w'=>e=.returned (.int .i64 (f v))/\Below cj.heap.size cj w'):Ξ ah 71 #[.agg #[.slice ao al.length ca,.slice bo m cb],.func (.func g) #[] caps] w λe w'=>∃aT,e=.returned (.slice (θ ⟨aT,0,η⟩) al.length al.length)/\dx w' w.heap.size aT al.length al.length (iO al f)/\Below w.heap.size w w':=by
 obtain⟨i0,hi,cg,hz1,bX⟩:=er Tryz.ua;have aD:=bR (cw w);have aJ:=bR hf;go_enter akR,ntmps71;go_wp2_with(at_make;refine uh _ rfl _ _ 50 rfl w.heap.size 3 i0 (.int .i64 0) 1 ((cD 50).trans underlying50) hi cg hz1 .i64 .i64 _ _ al.length rfl rfl rfl rfl (by rw[bX];omega) (by unfold maxLen;omega) (by simp) ?_;intro w0 dL j9);have hb0:=(aD.out _).grown j9 (by simp) (λk hk=>by cases hk);have hs0:w0.cell? ⟨w.heap.size,0,η⟩=θ (.slice ao al.length ca):=by rw[j9.cell_far ⟨w.heap.size,0,η⟩ (by simp) (by simp)];simp
 have aqV:=j9.size;simp only[lC]at dL aqV;have mE:Hid (dx w0 w.heap.size (w.heap.size+1) al.length al.length (List.replicate al.length 0)):=by
  have e1:(fo (bM .i64 0).cells (al.length*1)).toList=(List.replicate al.length 0).map (bM .i64):=by rw[Nat.mul_one];show (fo #[bM .i64 0] al.length).toList=_;rw[abh,List.map_replicate]
  rw[e1]at dL;exact dL
 go_loopw [6,13] (λ_ i wr=>∃(k:Nat) (x:List Int),k<=al.length/\i=.int .i64 k/\x.take k=(iO al f).take k/\dx wr w.heap.size (w.heap.size+1) al.length al.length x/\wr.cell? ⟨w.heap.size,0,η⟩=θ (.slice ao al.length ca)/\Below w.heap.size w wr) (λ_ i _=>al.length-(intOf i).toNat)
 case atStart=>exact⟨0,_,Nat.zero_le _,rfl,by simp,mE.out,hs0,hb0⟩
 case round=>
  obtain⟨k,x,hk,rfl,hx,hown,hs,hb⟩:=hrel;have kV:=bR hx;have ck:=bR hown;have hxl:=hown.len;have hz:=hb.size;have aAd:=hown.lt (w.heap.size+1) rfl;by_cases hlt:k<al.length
  .have oh:=hown.cell hlt;have fz:=hown.frozenAt k;rcases hA.below hb with h0|⟨b,off,rfl,cp,hc⟩
   .subst h0;simp at hlt
   have c0:=nZ.s4 hlt hc;have bQ:b<w.heap.size:=by
    rcases hA with h0|⟨b',off',e,h,_⟩
    .subst h0;simp at hlt
    .cases e;exact h
   (have hki:(k:Int)<(al.length:Int):=by omega);have aX:=bR (aos al f k hlt);rw[List.getD_eq_getElem?_getD,List.getElem?_eq_getElem hlt,Ω]at aX;have aU:Hid (∀v:Int,dx (wr.setCell ⟨w.heap.size+1,k,η⟩ (.int .i64 v)) w.heap.size (w.heap.size+1) al.length al.length (x.set k v)/\Below w.heap.size w (wr.setCell ⟨w.heap.size+1,k,η⟩ (.int .i64 v))):=λv=>⟨hown.set k v,hb.setCell (by simp) _⟩;cases ea:al[k]with
   |false=>
    rw[ea]at c0 aX;simp only[Bool.false_eq_true,fh]at aX;(have S5:Hid ((x.set k 1099511627776).take (k+1)=(iO al f).take (k+1)):=by show _=_;rw[ab1 (by omega),kV.out,aX.out]);generalize x.getD k 0=aqW at oh;go_wp2;go_roundw
    case rel=>exact⟨k+1,_,by omega,by go_num,S5.out,(aU.out _).1,((Hi wr _ _ _).cell_far ⟨w.heap.size,0,η⟩ (by show w.heap.size<_;omega) (by simp)).trans hs,(aU.out _).2⟩
    case measure=>simp[intOf];omega
   |true=>
    rw[ea]at c0 aX;simp only[dF]at aX;(have S5:Hid (((x.set k 1099511627776).set k (f k)).take (k+1)=(iO al f).take (k+1)):=by show _=_;rw[List.set_set,ab1 (by omega),kV.out,aX.out]);generalize x.getD k 0=aqW at oh;have hcl:=aJ.out k (wr.setCell ⟨w.heap.size+1,k,η⟩ (.int .i64 1099511627776)) hlt (aU.out _).2;go_wp2_with fail;refine hcl.mono ?_;rintro e w2 ⟨rfl,aq⟩;have Mt:=(aU.out 1099511627776).1.below aq;have q0:=Mt.cell hlt;have q1:=mX Mt k;(have hs2:w2.cell? ⟨w.heap.size,0,η⟩=θ (.slice (θ ⟨b,off,η⟩) al.length ca):=by rw[aq.cell (p:=⟨w.heap.size,0,η⟩) (by show w.heap.size<(wr.setCell _ _).heap.size;have:=(Hi wr (w.heap.size+1) k (.int .i64 1099511627776)).size;omega)];exact((Hi wr _ _ _).cell_far ⟨w.heap.size,0,η⟩ (by show w.heap.size<_;omega) (by simp)).trans hs);have aqX:=bR (Mt.set k (f k));have bw:=bR ((bJ (aU.out 1099511627776).2 aq).setCell (p:=⟨w.heap.size+1,k,η⟩) (by simp) (.int .i64 (f k)));have hlt2:=(kL Mt (w.heap.size+1) rfl).2;generalize (x.set k 1099511627776).getD k 0=aAe at q0;go_wp2;go_roundw
    case rel=>exact⟨k+1,_,by omega,by go_num,S5.out,aqX.out,((Hi w2 _ _ _).cell_far ⟨w.heap.size,0,η⟩ (by show w.heap.size<_;omega) (by simp)).trans hs2,bw.out⟩
    case measure=>simp[intOf];omega
  ·((have bp:k=al.length:=by omega);have bx:Hid (x=iO al f):=by have h1:=kV.out;rw[bp]at h1;rw[List.take_of_length_le (by omega),List.take_of_length_le (by rw[qz];omega)]at h1;exact h1);go_wp2;go_ret;refine⟨_,rfl,?_,hb⟩;rw[<-bx.out];exact ck.out
theorem aqY(hE:sZ n ai)(hk:k<ai.length):∃(A B:Nat),A<n/\B<n/\ai[k].1=(A:Int)/\ai[k].2.1=(B:Int):=by have h:=hE _ (List.getElem_mem hk);exact⟨ai[k].1.toNat,ai[k].2.1.toNat,by omega,by omega,by omega,by omega⟩
theorem ab3 g caps p(oc:∀args w,(gX g args).run ah w=.ok (.enter g args) w)base aT n bo cb first x0 ai w(hZ:dx w base aT n n x0)(hR:cm w bo ai)(hne:ai≠[]->∀b off,bo=θ ⟨b,off,η⟩->b≠aT)(F:iP first ai p)(M:jI first ai p x0)(hn:first.length=n)(aAf:ai.length<=60)(hf:∀a∈ai,∀cj,Ξ ah g (#[.agg #[.int .i64 a.1,.int .i64 a.2.1,.int .i64 a.2.2]]++caps) cj λe w'=>e=.returned (.int .i64 (p a))/\Below cj.heap.size cj w'):Ξ ah 73 #[.slice (θ ⟨aT,0,η⟩) n n,.slice bo ai.length cb,.func (.func g) #[] caps] w λe w'=>e=.returned (.tuple #[])/\∃z,uz first ai p z/\dx w' base aT n n z/\w.grownBy w' (θ aT):=by
 have aJ:=bR hf;have Mu:=bR F;have EE:=bR (show sZ n ai by rw[<-hn];exact F.en);have fG:=bR M;have aqZ:=bR hZ;go_enter akT,ntmps73;go_wp2;go_loopw [6,8,9] (λch _ _ wr=>∃(c:Bool) (x:List Int),ch=.bool c/\jI first ai p x/\(c=ο->uz first ai p x)/\dx wr base aT n n x/\w.grownBy wr (θ aT)) (λch _ _ wr=>2*zC (LF wr aT n)+R3 ch)
 case atStart=>exact⟨ν,x0,rfl,fG.out,(λh=>by cases h),aqZ.out,Hh _ _⟩
 case round=>
  obtain⟨c,x,rfl,hM,aq0,hZ,hG⟩:=hrel;cases c with
  |false=>
   have aD:=bR (aq0 rfl);go_wp2;go_end0;exact⟨rfl,x,aD.out,hZ,hG⟩
  |true=>
   have aq1:=bR hM;have ab4:=bR hZ;have aq2:=bR hG;obtain⟨mG,rfl⟩:∃x,x=wr:=⟨_,rfl⟩;go_wp2;go_loopw [6,8,9,13] (λch _ _ i wr=>∃(k:Nat) (c:Bool) (z:List Int),k<=ai.length/\i=.int .i64 k/\ch=.bool c/\xI first ai p x z c k/\dx wr base aT n n z/\w.grownBy wr (θ aT)) (λ_ _ _ i _=>ai.length-(intOf i).toNat)
   case atStart=>exact⟨0,ο,x,Nat.zero_le _,rfl,rfl,aoe aq1.out,ab4.out,aq2.out⟩
   case round=>
    obtain⟨k,c,z,hk,rfl,rfl,hT,hZ,hG⟩:=hrel;have aX:=bR hT;have mE:=bR hZ;have cH:=bR hG;by_cases hlt:k<ai.length
    .rcases hR.grown hG (hne (λh=>by subst h;simp at hlt))with h0|⟨b,off,rfl,cp,hc⟩
     .subst h0;simp at hlt
     (obtain⟨c0,c1,c2⟩:=cm.Hf hlt hc;obtain⟨A,B,hA,hB,EF,B7⟩:=aqY EE.out hlt;have hm:ai[k]∈ai:=List.getElem_mem hlt;have hcl:=aJ.out _ hm;have hp:=Mu.out.pl _ hm;(have qu:cK z ai[k].1=z.getD A 0:=by unfold cK;rw[EF];rfl);(have uw:cK z ai[k].2.1=z.getD B 0:=by unfold cK;rw[B7];rfl);have b1:=hT.mid.lo Mu.out A (by omega);have b2:=hT.mid.hi Mu.out A (by omega);have aq3:=hZ.cell hA;have aq4:=hZ.cell hB;have L0:=mX hZ B;have aq5:Hid (z.getD A 0+p ai[k]<z.getD B 0->xI first ai p x (z.set B (z.getD A 0+p ai[k])) ν (k+1)):=by intro h;have:=aog Mu.out aX.out hlt (by rw[qu,uw];exact h);rw[qu,B7]at this;exact this);(have ye:Hid (¬z.getD A 0+p ai[k]<z.getD B 0->xI first ai p x z c (k+1)):=λh=>aof aX.out hlt (by rw[qu,uw];exact h);rw[EF]at c0;rw[B7]at c1;rw[EF,B7]at hcl;generalize p ai[k]=pa at*;generalize ai[k].2.2=ac at*;generalize z.getD A 0=Mv at*;generalize aq6:z.getD B 0=ab5 at*;clear aq6 hc;have uN:=kL hZ aT rfl;(have aAg:(A:Int)<(n:Int):=by omega);(have aAh:(B:Int)<(n:Int):=by omega);have hw1:IntKind.i64.wrap (Mv+pa)=Mv+pa:=uj _ (by omega) (by omega);have GY:Nonempty (bf (wr.alloc (.cells #[.int .i64 (A:Int),.int .i64 (B:Int),.int .i64 ac] 121))):=⟨⟨_,Below.refl _ _⟩⟩;(have f0:∀s:bf (wr.alloc (.cells #[.int .i64 (A:Int),.int .i64 (B:Int),.int .i64 ac] 121)),s.w.cell? ⟨wr.heap.size,0,η⟩=θ (.int .i64 A):=λs=>by rw[s.h.cell (p:=⟨wr.heap.size,0,η⟩) (by simp)];simp);(have f1:∀s:bf (wr.alloc (.cells #[.int .i64 (A:Int),.int .i64 (B:Int),.int .i64 ac] 121)),s.w.cell? ⟨wr.heap.size,1,η⟩=θ (.int .i64 B):=λs=>by rw[s.h.cell (p:=⟨wr.heap.size,1,η⟩) (by simp)];simp);(have f2:∀s:bf (wr.alloc (.cells #[.int .i64 (A:Int),.int .i64 (B:Int),.int .i64 ac] 121)),s.w.cell? ⟨wr.heap.size,2,η⟩=θ (.int .i64 ac):=λs=>by rw[s.h.cell (p:=⟨wr.heap.size,2,η⟩) (by simp)];simp);(have f3:∀s:bf (wr.alloc (.cells #[.int .i64 (A:Int),.int .i64 (B:Int),.int .i64 ac] 121)),s.w.cell? ⟨aT,A,η⟩=θ (.int .i64 Mv):=λs=>by rw[s.h.cell (p:=⟨aT,A,η⟩) (by simp;omega),(cw wr _).cell (p:=⟨aT,A,η⟩) uN.2];exact aq3);have gw:Hid (∀w1,Below (wr.alloc (.cells #[.int .i64 (A:Int),.int .i64 (B:Int),.int .i64 ac] 121)).heap.size (wr.alloc (.cells #[.int .i64 (A:Int),.int .i64 (B:Int),.int .i64 ac] 121)) w1->w1.cell? ⟨wr.heap.size,1,η⟩=θ (.int .i64 B)/\w1.cell? ⟨aT,B,η⟩=θ (.int .i64 ab5)/\w1.frozen? ⟨aT,B,η⟩=ο/\wr.heap.size<w1.heap.size/\aT<w1.heap.size/\dx w1 base aT n n z/\w.grownBy w1 (θ aT)):=by intro w1 h1;have h2:=bJ (cw wr _) h1;have hz:=h1.size;simp only[lC]at hz;exact⟨by rw[h1.cell (p:=⟨wr.heap.size,1,η⟩) (by simp)];simp,by rw[h2.cell (p:=⟨aT,B,η⟩) uN.2];exact aq4,by rw[h2.frozen (p:=⟨aT,B,η⟩) uN.2];exact L0,by omega,by omega,mE.out.below h2,n4 cH.out (s5 h2 _)⟩);go_wp2_with fail;refine wp_region_held _ (Below.refl _ _) (by kernel_rfl) (by kernel_rfl) ?_;(repeat (go_big_quiet_step ((go_at_fn g;exact mI (hcl _)))));refine pq ?_;rintro _ ⟨s,rfl⟩;have fS:=gw.out _ s.h;generalize s.w=w1 at fS ⊢;obtain⟨q1,q2,dR,iH,lf,Gv,aq7⟩:=fS;have ab6:=bR Gv;have rC:=bR aq7;by_cases hls:Mv+pa<ab5
     .have B8:=bR (aq5.out (by omega));go_wp2;go_roundw
      case rel=>exact⟨k+1,ν,_,by omega,by go_num,rfl,B8.out,ab6.out.set B _,n4 rC.out (Hi _ _ _ _)⟩
      case measure=>simp[intOf];omega
     .have B8:=bR (ye.out (by omega));go_wp2;go_roundw
      case rel=>exact⟨k+1,c,_,by omega,by go_num,rfl,B8.out,ab6.out,rC.out⟩
      case measure=>simp[intOf];omega
    ·(have bp:k=ai.length:=by omega);subst bp;have S6:=bR hZ.rd;have uO:=bR ab4.out.rd;go_wp2;go_roundw
     case rel=>exact⟨c,z,rfl,aX.out.mid,(λh=>by subst h;exact aoh aX.out),mE.out,cH.out⟩
     case measure=>
      rw[S6.out,uO.out];cases c with
      |false=>rw[(aX.out.same rfl).1];simp[R3]
      |true=>have:=aX.out.less rfl;simp[R3];omega
theorem aq8(ai:List b9)k(hk:k<ai.length):bV (iC (ai.take (k+1)))=bV (iC (ai.take k))++[.int .i64 ai[k].1,.int .i64 ai[k].2.1,.int .i64 ai[k].2.2,.int .i64 ai[k].2.1,.int .i64 ai[k].1,.int .i64 ai[k].2.2]:=by rw[aoi ai k hk,Ed];rfl
theorem aq9 bo cb ai w(hR:cm w bo ai)(aAi:ai.length<=30):Ξ ah 74 #[.slice bo ai.length cb] w λe w'=>∃v,e=.returned v/\w'.ownsRow w.heap.size 121 3 v (iC ai).length (bV (iC ai))/\Below w.heap.size w w':=by
 obtain⟨S7,S8,ha0,S9,Ta⟩:=er Tryz.aaj;go_enter akU,ntmps74;go_wp2;go_loopw [3,5,8] (λv _ i wr=>∃k:Nat,k<=ai.length/\i=.int .i64 k/\wr.ownsRow w.heap.size 121 3 v (k*2) (bV (iC (ai.take k)))/\Below w.heap.size w wr) (λ_ _ i _=>ai.length-(intOf i).toNat)
 case atStart=>exact⟨0,Nat.zero_le _,rfl,dJ _ _ _ _,Below.refl _ _⟩
 case round=>
  obtain⟨k,hk,rfl,hown,hb⟩:=hrel;by_cases hlt:k<ai.length
  .rcases hR.below hb with h0|⟨b,off,rfl,cp,hc⟩
   .subst h0;simp at hlt
   obtain⟨c0,c1,c2⟩:=cm.Hf hlt hc;have hsz:=hb.size;have bx:=bR (aq8 ai k hlt);clear hc hR;generalize ai[k].1=x at*;generalize ai[k].2.1=y at*;generalize ai[k].2.2=z at*;go_wp2_with(at_builtin;refine x7 _ rfl _ _ 84 rfl w.heap.size 121 S7 _ 3 24 ((cD 84).trans underlying84) S8 ha0 S9 Ta rfl (by decide) _ (k*2) (bV (iC (ai.take k))) rfl ((hown.alloc _).alloc _) ⟨wr.heap.size+1,0,η⟩ 2 2 [.int .i64 x,.int .i64 y,.int .i64 z,.int .i64 y,.int .i64 x,.int .i64 z] rfl rfl ?c1 ?c2 (by unfold maxLen;omega) (by omega) (by simp;omega) ?_)
   case c1=>exact nR (cs:=#[.int .i64 x,.int .i64 y,.int .i64 z,.int .i64 y,.int .i64 x,.int .i64 z]) (t:=121) (fr:=(0,0)) (by simpa using heap_alloc_new (wr.alloc _) _)
   case c2=>intro u hu;simp at hu;rcases hu with rfl|rfl|rfl|rfl|rfl|rfl<;>rfl
   (intro v1 w1 jK hgrow hnil;have R:w1.ownsRow w.heap.size 121 3 v1 ((k+1)*2) (bV (iC (ai.take (k+1)))):=by rw[bx.out,Nat.add_mul,Nat.one_mul];exact jK);have hb':=((hb.alloc hsz _).alloc (by simp;omega) _).grown hgrow (by simp;omega) (λj hj=>(hown.lt j hj).1);go_wp2;go_roundw
   case rel=>exact⟨k+1,by omega,by go_num,R,hb'⟩
   case measure=>simp[intOf];omega
  ·((have bp:k=ai.length:=by omega);have ck:Hid (wr.ownsRow w.heap.size 121 3 u3 (iC ai).length (bV (iC ai))):=by have:=hown;rw[bp,List.take_length]at this;rw[RX];exact this);go_wp2;go_ret;exact⟨_,rfl,ck.out,hb⟩
theorem ara(a:b9)w:Ξ ah 77 (#[.agg #[.int .i64 a.1,.int .i64 a.2.1,.int .i64 a.2.2]]++#[]) w λe w'=>e=.returned (.int .i64 1)/\Below w.heap.size w w':=by have aD:=bR (cw w);rw[nF];go_enter akW,ntmps77;go_wp2;go_ret;exact⟨rfl,aD.out _⟩
theorem arb(a:b9)w:Ξ ah 78 (#[.agg #[.int .i64 a.1,.int .i64 a.2.1,.int .i64 a.2.2]]++#[]) w λe w'=>e=.returned (.int .i64 a.2.2)/\Below w.heap.size w w':=by have aD:=bR (cw w);rw[nF];go_enter akX,ntmps78;go_wp2;go_ret;exact⟨rfl,aD.out _⟩
theorem arc v w:Ξ ah 72 (#[.int .i64 v]++#[]) w λe w'=>e=.returned (.int .i64 v)/\Below w.heap.size w w':=by rw[nF];go_enter akS,ntmps72;go_wp2;go_ret;exact⟨rfl,Below.refl _ _⟩
theorem ard(a:b9)w:Ξ ah 75 (#[.agg #[.int .i64 a.1,.int .i64 a.2.1,.int .i64 a.2.2]]++#[]) w λe w'=>e=.returned (.int .i64 0)/\Below w.heap.size w w':=by have aD:=bR (cw w);rw[nF];go_enter akV,ntmps75;go_wp2;go_ret;exact⟨rfl,aD.out _⟩
theorem arf v fr b w(hc:w.cell? ⟨b,0,η⟩=θ (.int .i64 fr)):Ξ ah 111 (#[.int .i64 v]++#[.pointer (θ ⟨b,0,η⟩)]) w λe w'=>e=.returned (.int .i64 (nY fr v))/\Below w.heap.size w w':=by
 have e0:(#[.int .i64 (v:Int)]++#[.pointer (θ ⟨b,0,η⟩)]:Array ay)=#[.int .i64 (v:Int),.pointer (θ ⟨b,0,η⟩)]:=rfl;rw[e0];by_cases h:(v:Int)=fr
 .have ak:Hid (nY fr v=0):=by show _=_;unfold nY;rw[χ h]
  have hd:((v:Int)==fr)=true:=by simpa using h
  go_enter YB,ntmps111;go_wp2;go_ret;exact⟨xM ak.out.symm,Below.refl _ _⟩
 .have ak:Hid (nY fr v=1099511627776):=by show _=_;unfold nY;rw[ς h]
  have hd:((v:Int)==fr)=false:=by simpa using h
  go_enter YB,ntmps111;go_wp2;go_ret;exact⟨xM ak.out.symm,Below.refl _ _⟩
def HX(w w':υ)(e:Ending)(n:Int)(r:List Int):Prop:=
 ∃v,e=.returned (.tuple #[v,.int .i64 n])/\w'.ownsRow w.heap.size 3 1 v r.length (r.map (bM .i64))/\Below w.heap.size w w'
def nw(al:List Bool)(ai:List b9)(fr:Int)(p:b9->Int)(n:Int)(r:List Int):Prop:=
 (¬ij al ai=0/\n=ij al ai/\r=[])\/(ij al ai=0/\qx al.length fr=ο/\n=4/\r=[])\/(ij al ai=0/\qx al.length fr=ν/\n=0/\uz (iO al (nY fr)) ai p r)
theorem Tb(h:¬ij al ai=0):∃n,ij al ai=n/\(n=1\/n=2\/n=4):=by
 unfold ij at h ⊢;split
 .exact⟨2,rfl,.inr (.inl rfl)⟩
 .split
  .split
   .rename_i h1 h2 h3;rw[ς h1,χ h2,χ h3]at h;exact absurd rfl h
   .exact⟨1,rfl,.inl rfl⟩
  .exact⟨4,rfl,.inr (.inr rfl)⟩
theorem ab7 g p(oc:∀args w,(gX g args).run ah w=.ok (.enter g args) w)(hf:∀(a:b9) cj,Ξ ah g (#[.agg #[.int .i64 a.1,.int .i64 a.2.1,.int .i64 a.2.2]]++#[]) cj λe w'=>e=.returned (.int .i64 (p a))/\Below cj.heap.size cj w')ao bo ca cb al ai fr w(hA:nZ w ao al)(hR:cm w bo ai)(hp:ij al ai=0->∀a∈ai,0<=p a/\p a<=1000):Ξ ah 76 #[.agg #[.slice ao al.length ca,.slice bo ai.length cb],.int .i64 fr,.func (.func g) #[] #[]] w λe w'=>∃n r,nw al ai fr p n r/\HX w w' e n r:=by
 have aD:Hid (∀o o',Below w.heap.size w ((w.alloc o).alloc o')):=λo o'=>bJ (cw w o) (cw _ o');have hC:=λo o'=>ab0 ao bo ca cb al ai ((w.alloc o).alloc o') (hA.below (bJ (cw w o) (cw _ o'))) (hR.below (bJ (cw w o) (cw _ o')));by_cases h0:¬ij al ai=0
 .obtain⟨n,en,hn⟩:=Tb h0;have ak:Hid (nw al ai fr p n []):=.inl ⟨h0,en.symm,rfl⟩;simp only[en]at hC;have hne:(n !=0)=true:=by rcases hn with rfl|rfl|rfl<;>rfl
  go_enter QL,ntmps76;go_wp2_with fail;refine(hC _ _).mono ?_;rintro e w1 ⟨rfl,aj⟩;have aS:=bR (bJ (aD.out _ _) aj);go_wp2;go_ret2;exact⟨_,_,ak.out,_,rfl,dJ _ _ _ _,aS.out⟩
 rw[tq]at h0;have S:=RZ h0;have td:=bR h0;have bU:=bR (hp h0);simp only[h0]at hC;cases hv:qx al.length fr with
 |false=>
  have ak:Hid (nw al ai fr p 4 []):=.inr (.inl ⟨td.out,hv,rfl,rfl⟩);have h1:=λW=>Ms ao bo al.length ca ai.length cb fr W;simp only[hv]at h1;go_enter QL,ntmps76;go_wp2_with fail;refine(hC _ _).mono ?_;rintro e w1 ⟨rfl,aj⟩;have hz:=aj.size;simp only[lC]at hz;have q0:w1.cell? ⟨w.heap.size,0,η⟩=θ (.slice ao al.length ca):=by rw[aj.cell (p:=⟨w.heap.size,0,η⟩) (by simp;omega),(cw _ _).cell (p:=⟨w.heap.size,0,η⟩) (by simp)];simp
  have q1:w1.cell? ⟨w.heap.size,1,η⟩=θ (.slice bo ai.length cb):=by rw[aj.cell (p:=⟨w.heap.size,1,η⟩) (by simp;omega),(cw _ _).cell (p:=⟨w.heap.size,1,η⟩) (by simp)];simp
  have q2:w1.cell? ⟨w.heap.size+1,0,η⟩=θ (.int .i64 fr):=by rw[aj.cell (p:=⟨w.heap.size+1,0,η⟩) (by simp)];simp
  have aS:=bR (bJ (aD.out _ _) aj);go_wp2_with(go_at_call 110;refine(h1 _).mono ?_;rintro e w2 ⟨rfl,aq⟩);go_ret2;exact⟨_,_,ak.out,_,rfl,dJ _ _ _ _,bJ aS.out aq⟩
 |true=>
  have e6:=bR hv;have h1:=λW=>Ms ao bo al.length ca ai.length cb fr W;simp only[hv]at h1;have Tc:∀args w,(gX 111 args).run ah w=.ok (.enter 111 args) w:=λargs w=>rfl;go_enter QL,ntmps76;go_wp2_with fail;refine(hC _ _).mono ?_;rintro e w1 ⟨rfl,aj⟩;have hz:=aj.size;simp only[lC]at hz;have q0:w1.cell? ⟨w.heap.size,0,η⟩=θ (.slice ao al.length ca):=by rw[aj.cell (p:=⟨w.heap.size,0,η⟩) (by simp;omega),(cw _ _).cell (p:=⟨w.heap.size,0,η⟩) (by simp)];simp
  have q1:w1.cell? ⟨w.heap.size,1,η⟩=θ (.slice bo ai.length cb):=by rw[aj.cell (p:=⟨w.heap.size,1,η⟩) (by simp;omega),(cw _ _).cell (p:=⟨w.heap.size,1,η⟩) (by simp)];simp
  have q2:w1.cell? ⟨w.heap.size+1,0,η⟩=θ (.int .i64 fr):=by rw[aj.cell (p:=⟨w.heap.size+1,0,η⟩) (by simp)];simp
  have aS:=bR (bJ (aD.out _ _) aj);go_wp2_with fail;refine(h1 _).mono ?_;rintro e w2 ⟨rfl,aq⟩;have bX:=aq.size;have r0:=(aq.cell (p:=⟨w.heap.size,0,η⟩) (by show w.heap.size<_;omega)).trans q0;have r1:=(aq.cell (p:=⟨w.heap.size,1,η⟩) (by show w.heap.size<_;omega)).trans q1;have r2:=(aq.cell (p:=⟨w.heap.size+1,0,η⟩) (by show w.heap.size+1<_;omega)).trans q2;have aN:=bR (bJ aS.out aq);have lF:w.heap.size+1<w2.heap.size:=by omega
  have Td:=ab2 111 #[.pointer (θ ⟨w.heap.size+1,0,η⟩)] (nY fr) Tc ao bo ca ai.length cb al w2 (hA.below aN.out) S.nv (λv cj _ hq=>arf v fr _ cj ((hq.cell (p:=⟨w.heap.size+1,0,η⟩) lF).trans r2));go_wp2_with fail;refine Td.mono ?_;rintro e w3 ⟨aT,rfl,HY,aB⟩;have G2:=aB.size;have s1:=(aB.cell (p:=⟨w.heap.size,1,η⟩) (by show w.heap.size<_;omega)).trans r1;have bw:=bR (bJ aN.out aB);have uN:=kL HY aT rfl;have F:=S.fine (λv _=>R1 fr v) bU.out;have zZ:=ab3 g #[] p oc w2.heap.size aT al.length bo cb (iO al (nY fr)) (iO al (nY fr)) ai w3 HY (hR.below bw.out) (λh0 b off e h=>by
   subst h e;have:=hR.lt h0;omega) F (LC _ _ _) (qz _ _) (Nat.le_trans S.na (by decide)) (λa _ cj=>hf a cj)
  go_wp2_with fail;refine zZ.mono ?_;rintro e w4 ⟨rfl,z,Te,ab8,oQ⟩;have ak:Hid (nw al ai fr p 0 z):=.inr (.inr ⟨td.out,e6.out,rfl,Te⟩);have hzl:=ab8.len;have cr:=bR (bw.out.grown oQ bw.out.size (λk hk=>by cases hk;omega));have arh:Hid (w4.ownsRow w.heap.size 3 1 (.slice (θ ⟨aT,0,η⟩) al.length al.length) z.length (z.map (bM .i64))):=by show x9 _ _ _ _ _ _ _;rw[hzl];exact gJ ab8 (by omega)
  go_wp2;go_ret2;exact⟨_,_,ak.out,_,rfl,arh.out,cr.out⟩
def wo(al:List Bool)(ai:List b9)(n:Int)(r:List Int):Prop:=
 (¬ij al ai=0/\n=ij al ai/\r=[])\/(ij al ai=0/\n=0/\uz (iO al (λv=>v)) (iC ai) (λ_=>0) r)
theorem ari ao bo ca cb al ai fr w(hA:nZ w ao al)(hR:cm w bo ai):Ξ ah 45 #[.agg #[.slice ao al.length ca,.slice bo ai.length cb],.int .i64 fr] w λe w'=>∃n r,nw al ai fr (λ_=>1) n r/\HX w w' e n r:=by have aD:=bR (cw w);have h1:=λo=>ab7 77 (λ_=>1) (λargs w=>rfl) (λa cj=>ara a cj) ao bo ca cb al ai fr (w.alloc o) (hA.below (cw w o)) (hR.below (cw w o)) (λ_ _ _=>by omega);go_enter akK,ntmps45;go_wp2_with fail;refine(h1 _).mono ?_;rintro e w1 ⟨n,r,hL,v,rfl,ho,hb⟩;have cA:=bR hL;have ck:=bR (gJ (base':=w.heap.size) ho (by simp));have aS:=bR (bJ (aD.out _) hb);go_wp2;go_ret2;exact⟨_,_,cA.out,_,rfl,ck.out,aS.out⟩
theorem arj ao bo ca cb al ai fr w(hA:nZ w ao al)(hR:cm w bo ai):Ξ ah 47 #[.agg #[.slice ao al.length ca,.slice bo ai.length cb],.int .i64 fr] w λe w'=>∃n r,nw al ai fr (λa=>a.2.2) n r/\HX w w' e n r:=by have aD:=bR (cw w);have h1:=λo=>ab7 78 (λa=>a.2.2) (λargs w=>rfl) (λa cj=>arb a cj) ao bo ca cb al ai fr (w.alloc o) (hA.below (cw w o)) (hR.below (cw w o)) (λh=>(RZ h).cost);go_enter akM,ntmps47;go_wp2_with fail;refine(h1 _).mono ?_;rintro e w1 ⟨n,r,hL,v,rfl,ho,hb⟩;have cA:=bR hL;have ck:=bR (gJ (base':=w.heap.size) ho (by simp));have aS:=bR (bJ (aD.out _) hb);go_wp2;go_ret2;exact⟨_,_,cA.out,_,rfl,ck.out,aS.out⟩
theorem ark ao bo ca cb al ai w(hA:nZ w ao al)(hR:cm w bo ai):Ξ ah 43 #[.agg #[.slice ao al.length ca,.slice bo ai.length cb]] w λe w'=>∃n r,wo al ai n r/\HX w w' e n r:=by
 have aD:=bR (cw w);have hC:=λo=>ab0 ao bo ca cb al ai (w.alloc o) (hA.below (cw w o)) (hR.below (cw w o));by_cases h0:¬ij al ai=0
 .obtain⟨n,en,hn⟩:=Tb h0;have ak:Hid (wo al ai n []):=.inl ⟨h0,en.symm,rfl⟩;simp only[en]at hC;have hne:(n !=0)=true:=by rcases hn with rfl|rfl|rfl<;>rfl
  go_enter Yq,ntmps43;go_wp2_with fail;refine(hC _).mono ?_;rintro e w1 ⟨rfl,aj⟩;have aS:=bR (bJ (aD.out _) aj);go_wp2;go_ret2;exact⟨_,_,ak.out,_,rfl,dJ _ _ _ _,aS.out⟩
 rw[tq]at h0;have S:=RZ h0;have td:=bR h0;simp only[h0]at hC;have Tc:∀args w,(gX 72 args).run ah w=.ok (.enter 72 args) w:=λargs w=>rfl;have arl:∀args w,(gX 75 args).run ah w=.ok (.enter 75 args) w:=λargs w=>rfl;go_enter Yq,ntmps43;go_wp2_with fail;refine(hC _).mono ?_;rintro e w1 ⟨rfl,aj⟩;have hz:=aj.size;simp only[lC]at hz;have q0:w1.cell? ⟨w.heap.size,0,η⟩=θ (.slice ao al.length ca):=by rw[aj.cell (p:=⟨w.heap.size,0,η⟩) (by simp)];simp
 have q1:w1.cell? ⟨w.heap.size,1,η⟩=θ (.slice bo ai.length cb):=by rw[aj.cell (p:=⟨w.heap.size,1,η⟩) (by simp)];simp
 have aS:=bR (bJ (aD.out _) aj);have Td:=ab2 72 #[] (λv=>v) Tc ao bo ca ai.length cb al w1 (hA.below aS.out) S.nv (λv cj _ _=>arc v cj);go_wp2_with fail;refine Td.mono ?_;rintro e w3 ⟨aT,rfl,HY,aB⟩;have G2:=aB.size;have s1:=(aB.cell (p:=⟨w.heap.size,1,η⟩) (by show w.heap.size<_;omega)).trans q1;have bw:=bR (bJ aS.out aB);have uN:=kL HY aT rfl;have arn:=aq9 bo cb ai w3 (hR.below bw.out) S.na;go_wp2_with fail;refine arn.mono ?_;rintro e w4 ⟨v4,rfl,ab9,hb4⟩;have cr:=bR (bJ bw.out hb4);have aAj:=hb4.size;obtain⟨b4,c4,rfl,tA⟩:=j6 ab9;have F:iP (iO al (λv=>v)) (iC ai) (λ_=>0):=S.iC (λv hv=>by have:=S.nv;omega) (λ_ _=>by omega) (λ_=>rfl);have zZ:=ab3 75 #[] (λ_=>0) arl w1.heap.size aT al.length b4 c4 (iO al (λv=>v)) (iO al (λv=>v)) (iC ai) w4 (HY.below hb4) tA (λh0 b off e h=>by
  subst h e;have:=(ab9.lt b rfl).1;omega) F (LC _ _ _) (qz _ _) (by rw[RX];have:=S.na;omega) (λa _ cj=>ard a cj)
 go_wp2_with fail;refine zZ.mono ?_;rintro e aO ⟨rfl,z,Te,acd,od⟩;have ak:Hid (wo al ai 0 z):=.inr ⟨td.out,rfl,Te⟩;have hzl:=acd.len;have gb:=bR (cr.out.grown od cr.out.size (λk hk=>by cases hk;omega));have HE:Hid (aO.ownsRow w.heap.size 3 1 (.slice (θ ⟨aT,0,η⟩) al.length al.length) z.length (z.map (bM .i64))):=by show x9 _ _ _ _ _ _ _;rw[hzl];exact gJ acd (by omega)
 go_wp2;go_ret2;exact⟨_,_,ak.out,_,rfl,HE.out,gb.out⟩
def gh(g:bg)(p v:Int):Int:=if aK g=0 then if c9 p 1 3=ν then if p=3 then 0 else if c9 v 0 ((g.lives.length:Int)- 1)=ν then 0 else 4 else 1 else aK g
def aro(w w':υ)(e:Ending)(n:Int)(al:List Bool)(ar:List (Int×Int×Int)):Prop:=
 ∃ao ca bo cb,e=.returned (.tuple #[.agg #[.slice ao al.length ca,.slice bo ar.length cb],.int .i64 n])/\nZ w' ao al/\cm w' bo ar/\Below w.heap.size w w'
theorem EG{base size}{v}{b}{T:Θ}{fr}(h:w.ownsRow base e size v n xs)(hb:w.heap[b]?=θ (.cells cs T fr))(hT:T≠e):v.ownBlock≠θ b:=by
 rcases h.2 with⟨rfl,_⟩|⟨g,cap,cur,rfl,_,hg,_⟩
 .simp[oG]
 .intro h;simp only[oG,Γ]at h;subst h;rw[hg]at hb;simp only[Γ,Obj.cells.injEq]at hb;exact hT hb.2.1.symm
theorem Tf{b}{o}(h:w.heap[b]?=θ o):b<w.heap.size:=by
 rcases Nat.lt_or_ge b w.heap.size with k|k
 .exact k
 .rw[gx k]at h;simp at h
theorem arp p t:has [p] t=hasB p.1 p.2 t:=by rw[Lb,Y5,Bool.or_false];rfl
theorem ace{b}{T:Θ}(h:w.heap[b]?=θ (.cells cs T (0,0)))j:w.frozen? ⟨b,j,η⟩=false:=Lib.frozen_of_heap h j
theorem pZ{base size}{v}{b}{u}(h:w.ownsRow base e size v n xs)(hne:v.ownBlock≠θ b):(w.setCell ⟨b,j,η⟩ u).ownsRow base e size v n xs:=
 h.kept (row:=θ b) ⟨rfl,rfl,rfl,by simp[eV],λk _ hk=>Below.heap_setCell _ _ _ _ (λe=>hk (by simp[e]))⟩ (Or.inr hne)
theorem arq{base e' size size'}{v v'}{n'}{xs'}(h:w.ownsRow base e size v n xs)(h':w.ownsRow base e' size' v' n' xs')(hg:w.grownBy w' v'.ownBlock)(hne:e≠e'):w'.ownsRow base e size v n xs:=by
 refine h.kept hg ?_;cases hv:v.ownBlock with
 |none=>simp
 |some b=>
  rcases h.2 with⟨rfl,_⟩|⟨g,cap,cur,rfl,_,hb,_⟩
  .simp[oG]at hv
  .simp only[oG,Γ]at hv;subst hv;refine .inr λk=>?_;exact EG h' hb hne k.symm
structure HZ(sb:Nat)(w1 wr:υ)(v u:ay)(al:List Bool)(ar:List (Int×Int×Int)):Prop where
 own:wr.ownsRow w1.heap.size 4 1 v al.length (al.map sw)
 B9:wr.ownsRow w1.heap.size 121 3 u ar.length (bV ar)
 box:wr.heap[sb]?=θ (.cells #[v,u] 86 (0,0))
 aQ:Below w1.heap.size w1 wr
theorem ars g la ea lc ec t w(hG:cL w la ea g)(hlc:g.lives.length<=lc)(hlm:lc<=9223372036854775807):Ξ ah 69 #[.agg #[.int .i64 g.hor,.slice la g.lives.length lc,.slice ea g.af.length ec],.int .i64 t] w λr w'=>aro w w' r (ng g t) (if ng g t=0 then cU t g.lives else[]) (if ng g t=0 then dc t g.lives g.af else[]):=by
 have aD:Hid (∀o o',Below w.heap.size w ((w.alloc o).alloc o')):=λo o'=>bK (ax w o) (ax _ o');obtain⟨i0,hi,hb0,art,z8⟩:=er Tryz.aot;obtain⟨S7,S8,ha0,S9,Ta⟩:=er Tryz.aaj;have hC:=λo o'=>Eb g la ea lc ec ((w.alloc o).alloc o') (hG.below (bK (ax w o) (ax _ o')));by_cases h0:aK g=0
 .cases h1:c9 t 0 (g.hor- 1)
  ·(have he:ng g t=1:=by unfold ng;rw[χ h0,h1];rfl);have R:=(ei h0).hor;rw[he,ς (by decide),ς (by decide)];rw[h0]at hC;clear h0 hG he;obtain⟨h,lives,af⟩:=g;simp only at hC h1 R ⊢;have H6:=aa R;go_enter QJ,ntmps69;go_wp2_with fail;refine(hC _ _).mono ?_;rintro e w0 ⟨rfl,hb0⟩;(have p0:w0.cell? ⟨w.heap.size,0,η⟩=θ (.int .i64 h):=by rw[hb0.cell (p:=⟨w.heap.size,0,η⟩) (by simp;omega)];simp);(have p1:w0.cell? ⟨w.heap.size,1,η⟩=θ (.slice la lives.length lc):=by rw[hb0.cell (p:=⟨w.heap.size,1,η⟩) (by simp;omega)];simp);(have p2:w0.cell? ⟨w.heap.size,2,η⟩=θ (.slice ea af.length ec):=by rw[hb0.cell (p:=⟨w.heap.size,2,η⟩) (by simp;omega)];simp);have Ca:=λW=>RJ h la ea lives.length lc af.length ec t W H6.out.1 H6.out.2;rw[h1]at Ca;have bS:=aa hb0;clear hC hb0;go_wp2_with fail;refine(Ca _).mono ?_;rintro e w1 ⟨rfl,H7⟩;have aj:=bS.out.trans (H7.mono bS.out.size);clear Ca H7 p0 p1 p2 bS;have aS:=aa (bK (aD.out _ _) aj);have hz:=aj.size;simp only[lC]at hz;(have q0:w1.cell? ⟨w.heap.size,0,η⟩=θ (.int .i64 h):=by rw[aj.cell (p:=⟨w.heap.size,0,η⟩) (by simp;omega)];simp);(have r0:w1.cell? ⟨w.heap.size+1,0,η⟩=θ (.slice η 0 0):=by rw[aj.cell (p:=⟨w.heap.size+1,0,η⟩) (by simp)];simp);(have r1:w1.cell? ⟨w.heap.size+1,1,η⟩=θ (.slice η 0 0):=by rw[aj.cell (p:=⟨w.heap.size+1,1,η⟩) (by simp)];simp);(have f0:∀j,w1.frozen? ⟨w.heap.size+1,j,η⟩=false:=λj=>by rw[aj.frozen (p:=⟨w.heap.size+1,j,η⟩) (by simp)];simp);clear aj;go_wp2;refine cR (v:=.tuple #[.agg #[.slice η 0 0,.slice η 0 0],.int .i64 1]) (by simp[results,results69,go_sem,r0,r1]) rfl ⟨η,0,η,0,rfl,.inl rfl,.inl rfl,?_⟩;exact(aS.out.setCell (p:=⟨w.heap.size+1,0,η⟩) (by simp) _).setCell (p:=⟨w.heap.size+1,1,η⟩) (by simp) _
  ·(have he:ng g t=0:=by unfold ng;rw[χ h0,h1];rfl);have R:=(ei h0);rw[he,χ rfl,χ rfl];rw[h0]at hC;have cH:=aa hG;have bI:=aa R;clear h0 hG he;obtain⟨h,lives,af⟩:=g;have hh:=R.hor;have aat:lives.length<=12:=R.tF;have aAk:af.length<=30:=R.qm;simp only at hC h1 hh hlc ⊢;have H6:=aa hh;clear R;go_enter QJ,ntmps69;go_wp2_with fail;refine(hC _ _).mono ?_;rintro e w0 ⟨rfl,hb0⟩;(have p0:w0.cell? ⟨w.heap.size,0,η⟩=θ (.int .i64 h):=by rw[hb0.cell (p:=⟨w.heap.size,0,η⟩) (by simp;omega)];simp);(have p1:w0.cell? ⟨w.heap.size,1,η⟩=θ (.slice la lives.length lc):=by rw[hb0.cell (p:=⟨w.heap.size,1,η⟩) (by simp;omega)];simp);(have p2:w0.cell? ⟨w.heap.size,2,η⟩=θ (.slice ea af.length ec):=by rw[hb0.cell (p:=⟨w.heap.size,2,η⟩) (by simp;omega)];simp);have Ca:=λW=>RJ h la ea lives.length lc af.length ec t W H6.out.1 H6.out.2;rw[h1]at Ca;have bS:=aa hb0;clear hC hb0;go_wp2_with fail;refine(Ca _).mono ?_;rintro e w1 ⟨rfl,H7⟩;have aj:=bS.out.trans (H7.mono bS.out.size);clear Ca H7 p0 p1 p2 bS;have aS:=aa (bK (aD.out _ _) aj);have hz:=aj.size;simp only[lC]at hz;(have q0:w1.cell? ⟨w.heap.size,0,η⟩=θ (.int .i64 h):=by rw[aj.cell (p:=⟨w.heap.size,0,η⟩) (by simp;omega)];simp);(have q1:w1.cell? ⟨w.heap.size,1,η⟩=θ (.slice la lives.length lc):=by rw[aj.cell (p:=⟨w.heap.size,1,η⟩) (by simp;omega)];simp);(have q2:w1.cell? ⟨w.heap.size,2,η⟩=θ (.slice ea af.length ec):=by rw[aj.cell (p:=⟨w.heap.size,2,η⟩) (by simp;omega)];simp);(have r0:w1.cell? ⟨w.heap.size+1,0,η⟩=θ (.slice η 0 0):=by rw[aj.cell (p:=⟨w.heap.size+1,0,η⟩) (by simp)];simp);(have r1:w1.cell? ⟨w.heap.size+1,1,η⟩=θ (.slice η 0 0):=by rw[aj.cell (p:=⟨w.heap.size+1,1,η⟩) (by simp)];simp);(have f0:∀j,w1.frozen? ⟨w.heap.size+1,j,η⟩=false:=λj=>by rw[aj.frozen (p:=⟨w.heap.size+1,j,η⟩) (by simp)];simp);have rC:=aa (cH.out.below aS.out);have aru:=aa (⟨r0,r1,f0⟩:_/\_/\_);(have cg:w.heap.size<w1.heap.size:=by omega);clear aj cH r0 r1 f0;go_wp2_with fail;go_loopw [8,27] (λ_ i wr=>∃k:Nat,∃v,k<=lives.length/\i=.int .i64 k/\HZ w1.heap.size w1 wr v (.slice η 0 0) (cU t (lives.take k)) []) (λ_ i _=>lives.length-(intOf i).toNat)
   case atStart=>exact⟨0,_,Nat.zero_le _,rfl,dJ _ _ _ _,dJ _ _ _ _,heap_alloc_new _ _,ax _ _⟩
   case round=>
    obtain⟨k,v,hk,rfl,hS⟩:=hrel;have aU:=aa hS;have bQ:=hS.aQ;have hsz:=bQ.size;have hsb:=Tf hS.box;have p1:wr.cell? ⟨w.heap.size,1,η⟩=θ (.slice la lives.length lc):=(bQ.cell (p:=⟨w.heap.size,1,η⟩) cg).trans q1;(have s0:wr.cell? ⟨w1.heap.size,0,η⟩=θ v:=by rw[eu hS.box];rfl);clear hS;by_cases hlt:k<lives.length
    .rcases rC.out.lv.below bQ with h0|⟨b,off,rfl,cp,hc⟩
     .simp only at h0;subst h0;simp at hlt
     simp only at hc;obtain⟨c0,c1⟩:=eg.get hlt hc;have arv:Hid (∀cap,Ξ ah 107 #[.slice (θ ⟨b,off+k*2,η⟩) 1 cap,.int .i64 t] wr.drew λe w'=>e=.returned (.bool (hasB lives[k].1 lives[k].2 t))/\Below wr.heap.size wr w'):=by
      intro cap;have:=Zh (θ ⟨b,off+k*2,η⟩) cap [lives[k]] t wr.drew (.inr ⟨b,off+k*2,rfl,cp,λj hj=>by
       match j,hj with
       |0,_=>exact⟨c0,c1⟩⟩) (by simp)
      rw[arp]at this;exact this.mono λ_ _ ⟨a,b⟩=>⟨a,bK (Below.refl _ _).drew b⟩
     have aX:=aa (anS t lives k hlt);obtain⟨fX,vc,yf,_⟩:=R2 aU.out.own;(have hal:(cU t (lives.take k)).length=k:=by rw[nh,List.length_take];omega);(have hown:wr.ownsRow w1.heap.size 4 1 v k ((cU t (lives.take k)).map sw):=by have:=aU.out.own;rwa[hal]at this);have ck:=aa hown;rw[hal]at yf;subst yf;have EH:=aa (EG hown aU.out.box (by decide));have lU:Hid (∀w3,Below wr.heap.size wr w3->w3.cell? ⟨w.heap.size,1,η⟩=θ (.slice (θ ⟨b,off,η⟩) lives.length lc)/\w3.cell? ⟨w1.heap.size,0,η⟩=θ (.slice fX k vc)):=λw3 h3=>
      ⟨(h3.cell (p:=⟨w.heap.size,1,η⟩) (by simp only;omega)).trans p1,(h3.cell (p:=⟨w1.heap.size,0,η⟩) hsb).trans s0⟩
     ((clear hc hown hal c0 c1;generalize hasB lives[k].1 lives[k].2 t=bb at*;(have i1:(k:Int)+1<=(lc:Int):=by omega);(have i2:(0:Int)<=(k:Int):=by omega);(have i3:(0:Int)<=(k:Int)+1:=by omega);have i4:IntKind.i64.wrap ((k:Int)+1)=(k:Int)+1:=uj _ (by omega) (by omega);(have i5:((k:Int)+1).toNat=k+1:=by omega);(have i6:¬lc=k:=by omega);go_wp2_with fail;refine wp_region_noPanic ?_;refine D7 (S:=λw'=>w'.cell? ⟨w.heap.size,1,η⟩=θ (.slice (θ ⟨b,off,η⟩) lives.length lc)/\w'.cell? ⟨w1.heap.size,0,η⟩=θ (.slice fX k vc)) (by kernel_rfl) (by simp) (by kernel_rfl) (by kernel_rfl) ⟨p1,s0⟩ (λhHeld=>?_);simp only[List.pop_toArray,List.dropLast,List.back!_toArray,List.getLast!];refine tk 0 ?_;refine tk 1 ?_;refine tk 2 ?_;refine tk 3 ?_;refine tk 4 ?_;refine tk 5 ?_;refine tk 6 ?_;refine tk 7 ?_;refine tk 8 ?_;refine eL (i:=9) rfl (by kernel_rfl) (λK hK=>?_);go_simp;refine(arv.out _).mono ?_;rintro e w3 ⟨rfl,aB⟩;obtain⟨k1,k2⟩:=lU.out w3 aB;refine hK.out _ _ ⟨k1,k2⟩ (λhHeld=>?_);clear hK K hHeld;(try simp only[dz,List.setIfInBounds_toArray,List.set_cons_zero,List.set_cons_succ]);refine eL (i:=10) rfl (by kernel_rfl) (λK hK=>?_);go_simp;have l1:=Tf (aU.out.box);have hs3:=aB.size;have m1:=((ax w3 (.cells #[.bool bb] 4)).cell (p:=⟨w.heap.size,1,η⟩) (by simp only;omega)).trans k1;have m2:=((ax w3 (.cells #[.bool bb] 4)).cell (p:=⟨w1.heap.size,0,η⟩) (by simp only;omega)).trans k2;refine hK.out _ _ ⟨m1,m2⟩ (λhHeld=>?_);clear hK K hHeld;(try simp only[dz,List.setIfInBounds_toArray,List.set_cons_zero,List.set_cons_succ]);refine eL (i:=11) rfl (by kernel_rfl) (λK hK=>?_);refine DY _ (by rfl) _ _ _ (by rfl) w1.heap.size 4 i0 _ 1 1 ((cD 83).trans underlying83) hi hb0 art z8 rfl (by omega) (.slice fX k vc) k ((cU t (lives.take k)).map sw) (by rfl) ((cE ck.out aB).alloc _) ⟨w3.heap.size,0,η⟩ 1 1 [.bool bb] (by rfl) (by rfl) (nR (cs:=#[.bool bb]) (t:=4) (fr:=(0,0)) (heap_alloc_new w3 _)) (by simp[zo]) (by omega) (by unfold maxLen;omega) (by omega) (by simp;omega) (w3.heap.size+1) (by simp) ?_;intro gg dm w4 fP hgrow hat jl;(have n1:θ w.heap.size≠(j4 fX k vc).ownBlock:=λh=>by have:=(ck.out.lt _ h.symm).1;omega);(have x1:w4.cell? ⟨w.heap.size,1,η⟩=θ (.slice (θ ⟨b,off,η⟩) lives.length lc):=by rw[hgrow.cell_far _ (by simp;omega) n1];exact m1);(have x2:w4.cell? ⟨w1.heap.size,0,η⟩=θ (.slice fX k vc):=by rw[hgrow.cell_far _ (by simp;omega) (jx EH.out)];exact m2);have qq:w4.heap[w1.heap.size]?=θ (.cells #[.slice fX k vc,.slice η 0 0] 86 (0,0)):=by rw[hgrow.block _ (by simp;omega) (jx EH.out),(ax w3 _).block _ (by omega),aB.block _ l1];exact aU.out.box);have D9:=ace qq 0;have cr:=aa (((bQ.trans (aB.mono bQ.size)).alloc (by omega) (.cells #[.bool bb] 4)).grown hgrow (by simp;omega) (λj hj=>(ck.out.lt j hj).1));refine hK.out _ _ ⟨x1,x2⟩ (λhHeld=>?_);clear hK K;(try simp only[dz,List.setIfInBounds_toArray,List.set_cons_zero,List.set_cons_succ]);refine tk 12 ?_;refine gU (by kernel_rfl) ?_ _;refine pE (λK hK=>?_);clear hHeld;go_simp;refine hK.out _ _ (rB ?_);clear hK K;have arw:Hid (HZ w1.heap.size w1 (w4.setCell ⟨w1.heap.size,0,η⟩ (.slice (θ ⟨gg,0,η⟩) (k+1) dm)) (.slice (θ ⟨gg,0,η⟩) (k+1) dm) (.slice η 0 0) (cU t (lives.take (k+1))) []):=by(have hr:w4.ownsRow w1.heap.size 4 1 (.slice (θ ⟨gg,0,η⟩) (k+1) dm) (cU t (lives.take (k+1))).length ((cU t (lives.take (k+1))).map sw):=by rw[nh,List.length_take,Nat.min_eq_left (by omega),aX.out,List.map_append];exact fP);have hne:=EG hr qq (by decide);refine⟨pZ hr hne,dJ _ _ _ _,?_,cr.out.setCell (p:=⟨w1.heap.size,0,η⟩) (Nat.le_refl _) _⟩;simp[eV,q6,qq]);clear cr hgrow fP x1 x2 m1 m2 k1 k2 qq hat jl;go_wp2;go_roundw
     case rel=>exact⟨k+1,_,by omega,by go_num,arw.out⟩
     case measure=>simp[intOf];omega
    ·((have c6:k=lives.length:=by omega);subst c6;rw[List.take_length]at aU;have p2:wr.cell? ⟨w.heap.size,2,η⟩=θ (.slice ea af.length ec):=(bQ.cell (p:=⟨w.heap.size,2,η⟩) cg).trans q2;have e6:=aa (R2 aU.out.own);have hal:(cU t lives).length=lives.length:=nh t lives;have acf:Hid (∃fX vc,v=.slice fX lives.length vc):=by obtain⟨ao,ca,h,_⟩:=e6.out;exact⟨ao,ca,by rw[h,hal]⟩);clear e6 s0 bQ;obtain⟨fX,vc,rfl⟩:=acf.out;go_wp2_with fail;go_loopw [12,47] (λ_ i wr=>∃k:Nat,∃u,k<=af.length/\i=.int .i64 k/\HZ w1.heap.size w1 wr (.slice fX lives.length vc) u (cU t lives) (dc t lives (af.take k))) (λ_ i _=>af.length-(intOf i).toNat)
     case atStart=>exact⟨0,_,Nat.zero_le _,rfl,aU.out⟩
     case round=>
      clear aU p1 p2 hsb hsz acf;obtain⟨k,u,hk,rfl,hS⟩:=hrel;have aU:=aa hS;have bQ:=hS.aQ;have hsz:=bQ.size;have hsb:=Tf hS.box;(have s0:wr.cell? ⟨w1.heap.size,0,η⟩=θ (.slice fX lives.length vc):=by rw[eu hS.box];rfl);(have s1:wr.cell? ⟨w1.heap.size,1,η⟩=θ u:=by rw[eu hS.box];rfl);clear hS;by_cases hlt:k<af.length
      .rcases rC.out.ed with h0|⟨b,off,rfl,cp,hc⟩
       .simp only at h0;subst h0;simp at hlt
       obtain⟨xO,xP,lo,cv,rH,hL,hnl,hml⟩:=hc k hlt;have c0:=(bQ.cell (p:=⟨b,off+k*3,η⟩) cp).trans xO;have c1:=(bQ.cell (p:=⟨b,off+k*3+1,η⟩) cp).trans xP;have c2:=(bQ.cell (p:=⟨b,off+k*3+2,η⟩) cp).trans rH;(have arx:b<wr.heap.size:=by omega);have aR:=bI.out.ends af[k] (List.getElem_mem hlt);have aX:=aa (anT t lives af k hlt);have Tg:=hL.below bQ;have zH:=RM t lives (af.take k);(have aAl:(dc t lives (af.take k)).length<=30:=by rw[List.length_take]at zH;omega);clear xO xP rH hc hL zH;generalize af[k]=ed at*;obtain⟨A,B,aH⟩:=ed;simp only at aR c0 c1 c2 Tg hnl;obtain⟨⟨EI,jX⟩,⟨aoK,jW⟩,G3⟩:=aR;obtain⟨na,rfl⟩:∃na:Nat,A=na:=⟨A.toNat,by omega⟩;obtain⟨nb,rfl⟩:∃nb:Nat,B=nb:=⟨B.toNat,by omega⟩;(have aAm :na<lives.length:=by omega);(have aAn :nb<lives.length:=by omega);have acg:=λo=>Hg na nb lo cv aH t (wr.alloc o) (Tg.below (ax wr o)) (by omega);have ach:Hid (∃vb,fX=θ ⟨vb,0,η⟩/\w1.heap.size<=vb/\vb<wr.heap.size/\wr.cell? ⟨vb,na,η⟩=θ (.bool (bl t lives na))/\wr.cell? ⟨vb,nb,η⟩=θ (.bool (bl t lives nb))):=by
        have ho:=aU.out.own;rw[nh]at ho;rcases ho.2 with⟨_,h9⟩|⟨aT,aAo,cur,vC,_⟩
        .omega
        .simp only[jU,yE]at vC;obtain⟨rfl,rfl⟩:=vC;have hl:=ho.lt aT rfl;refine⟨aT,rfl,hl.1,hl.2,?_,?_⟩
         .rw[ho.cellAt na (by omega),List.getElem?_map,bl,List.getD_eq_getElem?_getD,Int.toNat_natCast,List.getElem?_eq_getElem (by rw[nh];omega)];rfl
         .rw[ho.cellAt nb (by omega),List.getElem?_map,bl,List.getD_eq_getElem?_getD,Int.toNat_natCast,List.getElem?_eq_getElem (by rw[nh];omega)];rfl
       (obtain⟨vb,rfl,jR,mg,va,aci⟩:=ach.out;have acj:Hid (∀o w2,Below (wr.alloc o).heap.size (wr.alloc o) w2->Below wr.heap.size wr w2):=λo w2 h=>bK (ax wr o) h;clear ach Tg;(have aAp:(na:Int)<(lives.length:Int):=by omega);(have aAq:(nb:Int)<(lives.length:Int):=by omega);(have aAr:(0:Int)<=(na:Int):=by omega);(have aAs:(0:Int)<=(nb:Int):=by omega);have EJ:=aa (λh=>anU (t:=t) (lives:=lives) (e:=((na:Int),(nb:Int),aH)) h);have Cb:=aa (λh=>anV (t:=t) (lives:=lives) (e:=((na:Int),(nb:Int),aH)) h);have tB:=aa (λl h h'=>ZV (t:=t) (lives:=lives) (e:=((na:Int),(nb:Int),aH)) (l:=l) h h');simp only at EJ Cb tB;go_wp2_with fail;refine(acg _).mono ?_;rintro e w2 ⟨rfl,aq⟩;have z8:=acj.out _ _ aq;have hs2:=aq.size;simp only[lC]at hs2;(have e0:w2.cell? ⟨wr.heap.size,0,η⟩=θ (.int .i64 na):=by rw[aq.cell (p:=⟨wr.heap.size,0,η⟩) (by simp)];simp);(have e1:w2.cell? ⟨wr.heap.size,1,η⟩=θ (.int .i64 nb):=by rw[aq.cell (p:=⟨wr.heap.size,1,η⟩) (by simp)];simp);have t0:=(z8.cell (p:=⟨w1.heap.size,0,η⟩) hsb).trans s0;have t1:=(z8.cell (p:=⟨w1.heap.size,1,η⟩) hsb).trans s1;have xa:=(z8.cell (p:=⟨vb,na,η⟩) mg).trans va;have rL:=(z8.cell (p:=⟨vb,nb,η⟩) mg).trans aci;(have y1:wr.heap.size<w2.heap.size:=by omega);(have y2:w1.heap.size<w2.heap.size:=by omega);(have s9:vb<w2.heap.size:=by omega);have aN:=aa z8;clear aq z8 acg c0 c1 c2 va aci acj;have yg:Hid (∀o,rE t lives ((na:Int),(nb:Int),aH)=[]->HZ w1.heap.size w1 (w2.alloc o) (.slice (θ ⟨vb,0,η⟩) lives.length vc) u (cU t lives) (dc t lives (af.take (k+1)))):=by intro o h;have hb:=bK aN.out (ax w2 o);rw[aX.out,h,List.append_nil];exact⟨cE aU.out.own hb,cE aU.out.B9 hb,by rw[hb.block _ hsb];exact aU.out.box,bQ.trans (hb.mono hsz)⟩);cases hf:e9 t aH with
       |none=>
        have H8:=aa (λo=>yg.out o (EJ.out hf));simp only[uA,jG,ic];clear hf yg EJ Cb tB xa rL e0 e1 t0 t1;go_wp2;go_roundw
        case rel=>exact⟨k+1,_,by omega,by go_num,H8.out _⟩
        case measure=>simp[intOf];omega
       |some l=>
        simp only[uA,Ω,gu];cases ea':bl t lives na with
        |false=>
         have H8:=aa (λo=>yg.out o (Cb.out (by simp[ea'])));rw[ea']at xa;clear hf yg EJ Cb tB ea';go_wp2;go_roundw
         case rel=>exact⟨k+1,_,by omega,by go_num,H8.out _⟩
         case measure=>simp[intOf];omega
        |true=>
         cases eb':bl t lives nb with
         |false=>
          have H8:=aa (λo=>yg.out o (Cb.out (by simp[eb'])));rw[ea']at xa;rw[eb']at rL;clear hf yg EJ Cb tB ea' eb';go_wp2;go_roundw
          case rel=>exact⟨k+1,_,by omega,by go_num,H8.out _⟩
          case measure=>simp[intOf];omega
         |true=>
          have cu:=aa (tB.out l hf (by simp[ea',eb']));rw[ea']at xa;rw[eb']at rL;clear hf yg EJ Cb tB ea' eb';have hu:=cE aU.out.B9 aN.out;go_wp2_with(at_builtin;refine zX _ rfl _ _ 84 rfl w1.heap.size 121 S7 (.agg #[.int .i64 0,.int .i64 0,.int .i64 0]) 3 24 ((cD 84).trans underlying84) S8 ha0 S9 Ta rfl (by decide) _ _ _ rfl (fW (fW (w:=w2) hu _) _) ⟨w2.heap.size+1,0,η⟩ 1 1 [.int .i64 na,.int .i64 nb,.int .i64 l.2.2.2] rfl rfl ?c1 ?c2 (by decide) ?c3 ?c4 ?c5 (w2.heap.size+1+1) ?nS ?_)
          case c1=>exact RR _ _ _ _ _ _ (by simp)
          case c2=>intro u hu;simp at hu;rcases hu with rfl|rfl|rfl<;>rfl
          case c3=>unfold maxLen;omega
          case c4=>omega
          case c5=>simp;omega
          case nS=>simp
          (intro gg dm w3 qJ hgrow hat jl;have hne:=EG aU.out.B9 aU.out.box (by decide);have Cc:w3.heap[w1.heap.size]?=θ (.cells #[.slice (θ ⟨vb,0,η⟩) lives.length vc,u] 86 (0,0)):=by rw[hgrow.block _ (by simp;omega) (jx hne),(ax _ _).block _ (by simp;omega),(ax _ _).block _ y2,aN.out.block _ hsb];exact aU.out.box);((have z0:w3.cell? ⟨w1.heap.size,0,η⟩=θ (.slice (θ ⟨vb,0,η⟩) lives.length vc):=by rw[eu Cc];rfl);(have z1:w3.cell? ⟨w1.heap.size,1,η⟩=θ u:=by rw[eu Cc];rfl);have fz:=ace Cc 1;have rI:=aa ((((bQ.trans (aN.out.mono hsz)).alloc (by omega) (.cells #[.int .i64 l.1,.int .i64 l.2.1,.int .i64 l.2.2.1,.int .i64 l.2.2.2] 167)).alloc (by simp;omega) (.cells #[.int .i64 na,.int .i64 nb,.int .i64 l.2.2.2] 121)).grown hgrow (by simp;omega) (λj hj=>(aU.out.B9.lt j hj).1));have ary:Hid (HZ w1.heap.size w1 (w3.setCell ⟨w1.heap.size,1,η⟩ (.slice (θ ⟨gg,0,η⟩) ((dc t lives (af.take k)).length+1) dm)) (.slice (θ ⟨vb,0,η⟩) lives.length vc) (.slice (θ ⟨gg,0,η⟩) ((dc t lives (af.take k)).length+1) dm) (cU t lives) (dc t lives (af.take (k+1)))):=by(have hr:w3.ownsRow w1.heap.size 121 3 (.slice (θ ⟨gg,0,η⟩) ((dc t lives (af.take k)).length+1) dm) (dc t lives (af.take (k+1))).length (bV (dc t lives (af.take (k+1)))):=by rw[aX.out,cu.out,Ed,List.length_append];exact qJ);(have ha:w3.ownsRow w1.heap.size 4 1 (.slice (θ ⟨vb,0,η⟩) lives.length vc) (cU t lives).length ((cU t lives).map sw):=by have h1:=fW (fW (cE aU.out.own aN.out) (.cells #[.int .i64 l.1,.int .i64 l.2.1,.int .i64 l.2.2.1,.int .i64 l.2.2.2] 167)) (.cells #[.int .i64 na,.int .i64 nb,.int .i64 l.2.2.2] 121);exact arq h1 (fW (fW hu _) _) hgrow (by decide));refine⟨pZ ha (EG ha Cc (by decide)),pZ hr (EG hr Cc (by decide)),?_,rI.out.setCell (p:=⟨w1.heap.size,1,η⟩) (Nat.le_refl _) _⟩;simp[eV,q6,Cc]);clear rI hgrow qJ Cc hat jl xa rL e0 e1 t0 t1 hu;go_wp2;go_roundw
          case rel=>exact⟨k+1,_,by omega,by go_num,ary.out⟩
          case measure=>simp[intOf];omega
      ·((have c6:k=af.length:=by omega);subst c6;rw[List.take_length]at aU;obtain⟨ack,acm,acn⟩:=aru.out;have r0:=(bQ.cell (p:=⟨w.heap.size+1,0,η⟩) (by simp only;omega)).trans ack;have r1:=(bQ.cell (p:=⟨w.heap.size+1,1,η⟩) (by simp only;omega)).trans acm;have f0:∀j,wr.frozen? ⟨w.heap.size+1,j,η⟩=false:=λj=>(bQ.frozen (p:=⟨w.heap.size+1,j,η⟩) (by simp only;omega)).trans (acn j);obtain⟨Mw,uc,arz,_⟩:=j6 aU.out.B9;subst arz;have aJ:Hid (∀a b,nZ ((wr.setCell ⟨w.heap.size+1,0,η⟩ a).setCell ⟨w.heap.size+1,1,η⟩ b) fX (cU t lives)/\cm ((wr.setCell ⟨w.heap.size+1,0,η⟩ a).setCell ⟨w.heap.size+1,1,η⟩ b) Mw (dc t lives af)):=by intro a b;(have n1:(j4 fX lives.length vc).ownBlock≠θ (w.heap.size+1):=λh=>by have:=(aU.out.own.lt _ h).1;omega);(have n2:(j4 Mw (dc t lives af).length uc).ownBlock≠θ (w.heap.size+1):=λh=>by have:=(aU.out.B9.lt _ h).1;omega);obtain⟨o1,x1,h1,h2⟩:=R2 (pZ (j:=1) (u:=b) (pZ (j:=0) (u:=a) aU.out.own n1) n1);obtain⟨o2,x2,h3,h4⟩:=j6 (pZ (j:=1) (u:=b) (pZ (j:=0) (u:=a) aU.out.B9 n2) n2);simp only[jU]at h1 h3;rw[h1.1,h3.1];exact⟨h2,h4⟩);have Cd:=aa (bK aS.out bQ);clear ack acm acn;go_wp2;refine cR (v:=.tuple #[.agg #[.slice fX lives.length vc,.slice Mw (dc t lives af).length uc],.int .i64 0]) (by simp[results,results69,go_sem,r0,r1]) rfl ⟨fX,vc,Mw,uc,by rw[nh],(aJ.out _ _).1,(aJ.out _ _).2,?_⟩;exact(Cd.out.setCell (p:=⟨w.heap.size+1,0,η⟩) (by simp) _).setCell (p:=⟨w.heap.size+1,1,η⟩) (by simp) _
 .have he:ng g t=aK g:=by unfold ng;rw[ς h0]
  rw[he,ς h0,ς h0];have hne:(aK g !=0)=true:=by simpa using h0
  generalize aK g=ev at*;clear hG he;go_enter QJ,ntmps69;go_wp2_with fail;refine(hC _ _).mono ?_;rintro e w1 ⟨rfl,aj⟩;have aS:=aa (bK (aD.out _ _) aj);have r0:w1.cell? ⟨w.heap.size+1,0,η⟩=θ (.slice η 0 0):=by rw[aj.cell (p:=⟨w.heap.size+1,0,η⟩) (by simp)];simp
  have r1:w1.cell? ⟨w.heap.size+1,1,η⟩=θ (.slice η 0 0):=by rw[aj.cell (p:=⟨w.heap.size+1,1,η⟩) (by simp)];simp
  have f0:∀j,w1.frozen? ⟨w.heap.size+1,j,η⟩=false:=λj=>by rw[aj.frozen (p:=⟨w.heap.size+1,j,η⟩) (by simp)];simp
  clear hC aj;go_wp2;refine cR (v:=.tuple #[.agg #[.slice η 0 0,.slice η 0 0],.int .i64 ev]) (by simp[results,results69,go_sem,r0,r1]) rfl ⟨η,0,η,0,rfl,.inl rfl,.inl rfl,?_⟩;exact(aS.out.setCell (p:=⟨w.heap.size+1,0,η⟩) (by simp) _).setCell (p:=⟨w.heap.size+1,1,η⟩) (by simp) _
structure Mx(ai:List b9)(p:b9->Int)(back:Bool)(first x:List Int)(k:Nat):Prop where
 is:x=xK ai p back k first
 stop:xJ ai p back x=x
 on:∀j,j<k->¬xJ ai p back (xK ai p back j first)=xK ai p back j first
def H9(prog fr:Int)(v:Int):Int:=if prog=3 then v else nY fr v
def Aa(prog:Nat)(a:b9):Int:=if prog=1 then 1 else if prog=2 then a.2.2 else 0
theorem arA{back}{first}(F:iP first (ways back ai) p)(he:back=ν->vS p)(R:Mx ai p back first x k):uz first (ways back ai) p x:=by
 have go:∀k,jI first (ways back ai) p (xK ai p back k first):=by
  intro k;induction k with
  |zero=>exact LC _ _ _
  |succ k ih=>exact(aac F he ih).mid
 have hM:jI first (ways back ai) p x:=by rw[R.is];exact go k
 exact aon F he hM R.stop
theorem aco:vS (Aa 3):=λ_=>rfl
theorem arB(S:xL al ai)fr{prog:Nat}(hp:prog=1\/prog=2\/prog=3):iP (iO al (H9 prog fr)) (ways (decide (prog=3)) ai) (Aa prog)/\(decide (prog=3)=ν->vS (Aa prog)):=by
 have nv:=S.nv;rcases hp with rfl|rfl|rfl
 .exact⟨S.fine (λv _=>R1 fr v) (λa _=>by unfold Aa;simp),λh=>by simp at h⟩
 .exact⟨S.fine (λv _=>R1 fr v) (λa ha=>by unfold Aa;simpa using S.cost a ha),λh=>by simp at h⟩
 .exact⟨S.iC (λv hv=>by unfold H9;simp;omega) (λa _=>by unfold Aa;simp) aco,λ_=>aco⟩
abbrev gP:=Int×Int×Int
def nx{α:Type}(f:Nat->α)(v:Nat)(x:α):Nat->α:=λi=>if i=v then x else f i
theorem yh{α:Type}(f:Nat->α)v(x:α):nx f v x v=x:=by simp[nx]
theorem wq{α:Type}(f:Nat->α){v}(x:α)(h:i≠v):nx f v x i=f i:=by simp[nx,h]
theorem arC n v(val:Nat->ay)x:((List.range n).map val).set v x=(List.range n).map (nx val v x):=by
 apply List.ext_getElem (by simp);intro i h1 h2;simp only[List.getElem_set,List.getElem_map,List.getElem_range,nx];by_cases e:v=i
 .simp[e]
 .have e2:¬i=v:=λh=>e h.symm;simp[e,e2]
theorem acp{base size base' e' size' n'}{v v'}{xs'}(h:W.ownsRow base e size v n xs)(h':W.ownsRow base' e' size' v' n' xs')(he:e≠e'):v.ownBlock=η\/v.ownBlock≠v'.ownBlock:=by
 rcases h.2 with⟨rfl,_⟩|⟨g,cap,cur,rfl,_,hh,_⟩
 .exact .inl rfl
 .right;intro e;rcases h'.2 with⟨rfl,_⟩|⟨g',cap',cur',rfl,_,Ti,_⟩
  .cases e
  .have:g=g':=jP e;subst this;rw[hh]at Ti;simp only[Γ,Obj.cells.injEq]at Ti;exact he Ti.2.1
structure cZ(W:υ)(base go n:Nat)(val:Nat->ay)(jr:Nat->List gP):Prop where
 own:W.ownsRow base 127 1 (.slice (θ ⟨go,0,η⟩) n n) n ((List.range n).map val)
 lV:∀v,v<n->W.ownsRow base 176 3 (val v) (jr v).length (bV (jr v))
 ap:∀v v',v<n->v'<n->v≠v'->(val v).ownBlock=η\/(val v).ownBlock≠(val v').ownBlock
theorem cZ.below{base go}{jr}(A:cZ W base go n val jr)(hb:Below W.heap.size W W'):cZ W' base go n val jr:=
 ⟨cE A.own hb,λv hv=>cE (A.lV v hv) hb,A.ap⟩
theorem cZ.out{base go}{jr}(A:cZ W base go n val jr){v}(hv:v<n):W.cell? ⟨go,v,η⟩=θ (val v):=by rw[qi A.own v (by omega)];simp[hv]
theorem cZ.far{base go}{jr}(A:cZ W base go n val jr){v}(hv:v<n):(val v).ownBlock≠θ go:=by
 rcases acp (A.lV v hv) A.own (by decide)with e|e
 .rw[e];intro h;cases h
 .exact e
theorem arD{back}{first x'}{k'}(R:Mx ai p back first x k)(R':Mx ai p back first x' k'):x=x'/\k=k':=by
 have e:k=k':=by
  rcases Nat.lt_trichotomy k k' with h|h|h
  .exact absurd (by have:=R.stop;rw[R.is]at this;exact this) (R'.on k h)
  .exact h
  .exact absurd (by have:=R'.stop;rw[R'.is]at this;exact this) (R.on k' h)
 subst e;exact⟨R.is.trans R'.is.symm,rfl⟩
theorem Tj(R:cQ g)t:xL (cU t g.lives) (dc t g.lives g.af):=by
 have key:∀a∈dc t g.lives g.af,(mH (cU t g.lives) a.1=ν/\mH (cU t g.lives) a.2.1=ν)/\0<=a.2.2/\a.2.2<=1000:=by
  intro a ha;unfold dc at ha;rw[List.mem_flatMap]at ha;obtain⟨e,he,ha⟩:=ha;have hend:=R.ends e he;unfold rE at ha;split at ha
  .simp at ha
  .rename_i l hl;split at ha
   .rename_i hal;simp only[List.mem_singleton]at ha;subst ha;rw[Bool.and_eq_true]at hal;have hf:=(xz _ _).1 (R.aH e he l (LG hl).1);refine⟨⟨?_,?_⟩,by show 0<=l.2.2.2;omega,by show l.2.2.2<=1000;omega⟩
    .unfold mH qx;rw[nh];have:=hal.1;unfold bl at this;simp only[this,Bool.and_true];simp;omega
    .unfold mH qx;rw[nh];have:=hal.2;unfold bl at this;simp only[this,Bool.and_true];simp;omega
   .simp at ha
 have h1:=R.tF;have h2:=R.qm;have h3:=RM t g.lives g.af;exact⟨by rw[nh];omega,by omega,λa ha=>(key a ha).1,λa ha=>(key a ha).2⟩
def Ce(g:bg)(p:Nat)(fr:Int)(t:Nat)(x:List Int)(k:Nat):Prop:=Mx (dc t g.lives g.af) (Aa p) (decide (p=3)) (iO (cU t g.lives) (H9 p fr)) x k
open Classical in
noncomputable def ny (g:bg) (p:Nat) (fr:Int) (t:Nat):List Int×Nat:=if h:∃q:List Int×Nat,Ce g p fr t q.1 q.2 then mP h else([],0)
theorem arE{p}{fr}{t}(h:Ce g p fr t x k):ny g p fr t=(x,k):=by have hx:∃q:List Int×Nat,Ce g p fr t q.1 q.2:=⟨(x,k),h⟩;unfold ny;rw[dif_pos hx];obtain⟨e1,e2⟩:=arD (l5 hx) h;exact Prod.ext e1 e2
def uP(l:List gP)(t x:Int):List gP:=
 if x=1099511627776 then l
 else
  match l.getLast? with
  |none=>l++[(t,t+1,x)]
  |some q=>if q.2.1=t/\q.2.2=x then l.dropLast++[(q.1,t+1,x)]else l++[(t,t+1,x)]
noncomputable def fT (g:bg) (p:Nat) (fr:Int) (v:Nat):Nat->List gP
 |0=>[]
 |k+1=>uP (fT g p fr v k) k ((ny g p fr k).1.getD v 0)
noncomputable def rS (g:bg) (p:Nat) (fr:Int):Nat->Int
 |0=>0
 |k+1=>max (rS g p fr k) ((ny g p fr k).2:Int)
theorem arF{l}{x}(h:x=1099511627776):uP l t x=l:=by unfold uP;rw[χ h]
theorem arG{x}(h:x≠1099511627776):uP [] t x=[]++[(t,t+1,x)]:=by unfold uP;rw[ς h];rfl
theorem arH{l}{f x}(h:x≠1099511627776):uP (l++[(f,t,x)]) t x=l++[(f,t+1,x)]:=by unfold uP;rw[ς h];simp
theorem arI{l}{f x t' x'}(h:x≠1099511627776)(hn:¬(t'=t/\x'=x)):uP (l++[(f,t',x')]) t x=l++[(f,t',x')]++[(t,t+1,x)]:=by unfold uP;rw[ς h];simp[hn]
theorem arJ l t x:(uP l t x).length<=l.length+1:=by
 unfold uP;split
 .omega
 .split
  .simp
  .split<;>simp<;>omega
theorem acr g p fr v:∀k,(fT g p fr v k).length<=k
 |0=>by simp[fT]
 |k+1=>by have:=arJ (fT g p fr v k) k ((ny g p fr k).1.getD v 0);have h2:=acr g p fr v k;rw[fT];omega
structure wu(W:List b9)(p:b9->Int)(x y:List Int):Prop where
 len:y.length=x.length
 le:∀v,v<x.length->y.getD v 0<=x.getD v 0
 tell:∀a∈W,y.getD a.2.1.toNat 0<=x.getD a.1.toNat 0+p a
 from_:∀v,v<x.length->y.getD v 0=x.getD v 0\/∃a∈W,a.2.1.toNat=v/\y.getD v 0=x.getD a.1.toNat 0+p a
theorem acu{W}{y y'}(h:wu W p x y)(h':wu W p x y'):y=y':=by
 have half:∀{y y':List Int},wu W p x y->wu W p x y'->∀v,v<x.length->y.getD v 0<=y'.getD v 0:=by
  intro y y' h h' v hv;rcases h'.from_ v hv with e|⟨a,ha,rfl,e⟩
  .rw[e];exact h.le v hv
  .rw[e];exact h.tell a ha
 apply List.ext_getElem (by rw[h.len,h'.len]);intro i h1 h2;have a:=half h h' i (by rw[<-h.len];exact h1);have b:=half h' h i (by rw[<-h.len];exact h1);simp only[List.getD_eq_getElem?_getD,List.getElem?_eq_getElem h1,List.getElem?_eq_getElem h2,Ω]at a b;omega
structure arK(ai:List b9)(p:b9->Int)(back:Bool)(x z:List Int):Prop where
 len:z.length=x.length
 le:∀v,v<x.length->z.getD v 0<=x.getD v 0
 tell:∀a∈ways back ai,z.getD a.2.1.toNat 0<=x.getD a.1.toNat 0+p a
 from_:∀v,v<x.length->z.getD v 0=x.getD v 0\/∃a∈ways back ai,a.2.1.toNat=v/\z.getD v 0=x.getD a.1.toNat 0+p a
theorem My back l a:ways back (l++[a])=ways back l++if back=ν then[a,(a.2.1,a.1,a.2.2)]else[a]:=by unfold ways iC;cases back<;>simp
theorem Tk(z:List Int)k m(hk:k<z.length)v:(z.set k (min (z.getD k 0) m)).getD v 0=if v=k then min (z.getD k 0) m else z.getD v 0:=Ee _ _ _ _ hk
theorem acv{z:List Int}{W}{b}(hz:z.length=x.length)(hk:k<x.length)(hb:b.2.1.toNat=k)(le:∀v,v<x.length->z.getD v 0<=x.getD v 0)(tell:∀a∈W,z.getD a.2.1.toNat 0<=x.getD a.1.toNat 0+p a)(from_:∀v,v<x.length->z.getD v 0=x.getD v 0\/∃a∈W,a.2.1.toNat=v/\z.getD v 0=x.getD a.1.toNat 0+p a)m(hm:m=x.getD b.1.toNat 0+p b):(∀v,v<x.length->(z.set k (min (z.getD k 0) m)).getD v 0<=x.getD v 0)/\(∀a∈W++[b],(z.set k (min (z.getD k 0) m)).getD a.2.1.toNat 0<=x.getD a.1.toNat 0+p a) /\
  (∀v,v<x.length->(z.set k (min (z.getD k 0) m)).getD v 0=x.getD v 0\/∃a∈W++[b],a.2.1.toNat=v/\(z.set k (min (z.getD k 0) m)).getD v 0=x.getD a.1.toNat 0+p a):=by
 have low:∀v,(z.set k (min (z.getD k 0) m)).getD v 0<=z.getD v 0:=by
  intro v;rw[Tk z k m (by omega)];split
  .rename_i e;subst e;omega
  .exact Int.le_refl _
 refine⟨λv hv=>Int.le_trans (low v) (le v hv),λa ha=>?_,λv hv=>?_⟩
 .rcases List.mem_append.1 ha with ha|ha
  .exact Int.le_trans (low _) (tell a ha)
  .rw[List.mem_singleton]at ha;subst ha;rw[Tk z k m (by omega),χ hb,hm];omega
 .rw[Tk z k m (by omega)];by_cases e:v=k
  .subst e;rw[χ rfl];by_cases hl:z.getD v 0<=m
   .rw[show min (z.getD v 0) m=z.getD v 0 by omega];rcases from_ v hv with h|⟨a,ha,h1,h2⟩
    .exact .inl h
    .exact .inr ⟨a,List.mem_append_left _ ha,h1,h2⟩
   .exact .inr ⟨b,by simp,hb,by rw[show min (z.getD v 0) m=m by omega];exact hm⟩
  .rw[ς e];rcases from_ v hv with h|⟨a,ha,h1,h2⟩
   .exact .inl h
   .exact .inr ⟨a,List.mem_append_left _ ha,h1,h2⟩
theorem arL{back:Bool}(he:back=ν->vS p)(hE:sZ x.length ai):wu (ways back ai) p x (xJ ai p back x):=by
 have key:∀i,i<=ai.length->arK (ai.take i) p back x ((ai.take i).foldl (rF p back x) x):=by
  intro i;induction i with
  |zero=>
   intro _;refine⟨rfl,λ_ _=>Int.le_refl _,λa ha=>?_,λv _=>.inl rfl⟩;simp[ways,iC]at ha
  |succ i ih=>
   intro hi;have hi':=hi;obtain⟨h1,h2,h3,h4⟩:=ih (by omega);have en:=hE ai[i] (List.getElem_mem hi');rw[Z9 ai p back x i hi',List.take_succ_eq_append_getElem hi'];generalize (ai.take i).foldl (rF p back x) x=z at h1 h2 h3 h4 ⊢;generalize ai[i]=a at en ⊢;generalize ai.take i=l at h3 h4 ⊢;obtain⟨q1,q2,dR⟩:=acv (b:=a) (k:=a.2.1.toNat) h1 (by omega) rfl h2 h3 h4 (x.getD a.1.toNat 0+p a) rfl;unfold rF cK;cases back with
   |false=>
    simp only[Bool.false_eq_true,fh];refine⟨by rw[List.length_set];exact h1,q1,?_,?_⟩
    .rw[My];simpa using q2
    .rw[My];simpa using dR
   |true=>
    simp only[dF];obtain⟨r1,r2,r3⟩:=acv (z:=z.set a.2.1.toNat (min (z.getD a.2.1.toNat 0) (x.getD a.1.toNat 0+p a))) (b:=(a.2.1,a.1,a.2.2)) (k:=a.1.toNat) (by rw[List.length_set];exact h1) (by omega) rfl q1 q2 dR (x.getD a.2.1.toNat 0+p a) (by rw[he rfl a]);refine⟨by rw[List.length_set,List.length_set];exact h1,r1,?_,?_⟩
    .rw[My];simpa[List.append_assoc]using r2
    .rw[My];simpa[List.append_assoc]using r3
 obtain⟨h1,h2,h3,h4⟩:=key ai.length (Nat.le_refl _);rw[List.take_length]at h1 h2 h3 h4;exact⟨h1,h2,h3,h4⟩
structure Mz(W:List b9)(p:b9->Int)(x:List Int)(qL:Nat->Option Int):Prop where
 val:∀v z,v<x.length->qL v=θ z->z=x.getD v 0
 old:∀a∈W,qL a.1.toNat=η->x.getD a.2.1.toNat 0<=x.getD a.1.toNat 0+p a
structure acw(W:List b9)(p:b9->Int)(qL he:Nat->Option Int):Prop where
 most:∀a∈W,∀z,qL a.1.toNat=θ z->∃h,he a.2.1.toNat=θ h/\h<=z+p a
 from_:∀v h,he v=θ h->∃a∈W,a.2.1.toNat=v/\∃z,qL a.1.toNat=θ z/\h=z+p a
theorem arM{W}{y}{qL he}(hE:sZ x.length W)(hN:Mz W p x qL)(hH:acw W p qL he)(hR:wu W p x y):∀v,v<x.length->y.getD v 0=(match he v with|some h=>min (x.getD v 0) h|none=>x.getD v 0):=by
 have h2:wu W p x ((List.range x.length).map λv=>match he v with|some h=>min (x.getD v 0) h|none=>x.getD v 0):=by
  have g:∀v,v<x.length->((List.range x.length).map λv=>match he v with|some h=>min (x.getD v 0) h|none=>x.getD v 0).getD v 0=match he v with|some h=>min (x.getD v 0) h|none=>x.getD v 0:=by intro v hv;rw[List.getD_eq_getElem?_getD,List.getElem?_map,List.getElem?_range hv];rfl
  refine⟨by simp,λv hv=>?_,λa ha=>?_,λv hv=>?_⟩
  .rw[g v hv];cases he v with
   |none=>exact Int.le_refl _
   |some h=>show min _ _<=_;omega
  .have en:=hE a ha;rw[g _ (by omega)];cases hn:qL a.1.toNat with
   |none=>
    have:=hN.old a ha hn;cases he a.2.1.toNat with
    |none=>exact this
    |some h=>show min _ _<=_;omega
   |some z=>
    have hz:=hN.val _ z (by omega) hn;obtain⟨h,e1,e2⟩:=hH.most a ha z hn;rw[e1];show min _ _<=_;omega
  .rw[g v hv];cases hh:he v with
   |none=>exact .inl rfl
   |some h=>
    by_cases hl:x.getD v 0<=h
    .left;show min _ _=_;omega
    .obtain⟨a,ha,e1,z,e2,e3⟩:=hH.from_ v h hh;have en:=hE a ha;have hz:=hN.val _ z (by omega) e2;refine .inr ⟨a,ha,e1,?_⟩;show min _ _=_;rw[<-hz];omega
 intro v hv;rw[acu hR h2];rw[List.getD_eq_getElem?_getD,List.getElem?_map,List.getElem?_range hv];rfl
def om(x y:List Int)(v:Nat):Option Int:=if y.getD v 0<x.getD v 0 then θ (y.getD v 0)else η
theorem arN{W}{y}(hE:sZ x.length W)(hR:wu W p x y):Mz W p y (om x y):=by
 refine⟨λv z _ h=>?_,λa ha h=>?_⟩
 .unfold om at h;split at h
  .cases h;rfl
  .cases h
 .have en:=hE a ha;have h1:=hR.tell a ha;have h2:=hR.le a.1.toNat (by omega);unfold om at h;split at h
  .cases h
  .omega
theorem arO{W}qL(hp:∀a∈W,0<=p a)(hE:sZ x.length W)(hi:∀v,v<x.length->x.getD v 0<=1099511627776)(h:∀v,v<x.length->qL v=if x.getD v 0<1099511627776 then θ (x.getD v 0)else η):Mz W p x qL:=by
 refine⟨λv z hv hz=>?_,λa ha hn=>?_⟩
 .rw[h v hv]at hz;split at hz
  .cases hz;rfl
  .cases hz
 .have en:=hE a ha;have h1:=hp a ha;have h2:=hi a.2.1.toNat (by omega);rw[h _ (by omega)]at hn;split at hn
  .cases hn
  .omega
theorem acy{W}{y}(hR:wu W p x y)(h:∀v,v<x.length->om x y v=η):y=x:=by
 apply List.ext_getElem hR.len;intro i h1 h2;have a:=hR.le i h2;have b:=h i h2;unfold om at b;split at b
 .cases b
 .rename_i c;simp only[List.getD_eq_getElem?_getD,List.getElem?_eq_getElem h1,List.getElem?_eq_getElem h2,Ω]at a c;omega
theorem acz{h}:∀{ls:List jD}{p:Int},fC h p ls=0->∀l∈ls,p<=l.1
 |[],_,_,l,hl=>by cases hl
 |q::ls,p,hk,l,hl=>by
  unfold fC at hk;split at hk
  .cases hk
  .rename_i hf;split at hk
   .cases hk
   .rename_i hp;rcases List.mem_cons.1 hl with rfl|hl
    .omega
    .have h1:=acz hk l hl;have h2:=(xz _ _).1 (by simpa using hf);omega
theorem acA{h t}:∀{ls:List jD}{p:Int},fC h p ls=0->∀l∈ls,l.1<=t->t<l.2.1->e9 t ls=θ l
 |[],_,_,l,hl,_,_=>by cases hl
 |q::ls,p,hk,l,hl,h1,h2=>by
  unfold fC at hk;split at hk
  .cases hk
  .rename_i hf;split at hk
   .cases hk
   .rename_i hp;rw[e9];rcases List.mem_cons.1 hl with rfl|hl
    .rw[χ ((nW _ _ _).2 ⟨h1,h2⟩)]
    .have h3:=acz hk l hl;rw[ς (by rw[nW];omega)];exact acA hk l hl h1 h2
theorem arP(h:aK g=0){e}(he:e∈g.af):fC g.hor 0 e.2.2=0:=by
 unfold aK at h;split at h
 .cases h
 .split at h
  .cases h
  .split at h
   .cases h
   .have:=Q6 h e he;unfold iL at this;split at this
    .cases this
    .split at this
     .cases this
     .exact this
theorem Cf(h0:aK g=0){a}:a∈dc t g.lives g.af↔∃e∈g.af,∃l∈e.2.2,l.1<=t/\t<l.2.1/\bl t g.lives e.1=ν/\bl t g.lives e.2.1=ν/\a=(e.1,e.2.1,l.2.2.2):=by
 unfold dc;rw[List.mem_flatMap];constructor
 .rintro⟨e,he,ha⟩;unfold rE at ha;split at ha
  .cases ha
  .rename_i l hl;split at ha
   .rename_i hal;rw[Bool.and_eq_true]at hal;rw[List.mem_singleton]at ha;obtain⟨h1,h2,h3⟩:=LG hl;exact⟨e,he,l,h1,h2,h3,hal.1,hal.2,ha⟩
   .cases ha
 .rintro⟨e,he,l,hl,h1,h2,h3,h4,rfl⟩;refine⟨e,he,?_⟩;rw[ZV (acA (arP h0 he) l hl h1 h2) (by rw[h3,h4];rfl)];simp
abbrev oo:=Int×Int×Int×Int×Int
def p5(g:bg)(v:Int):Int×Int:=g.lives.getD v.toNat (0,0)
def eP(g:bg)(p:Nat)(e:eF)(l:jD):oo:=
 (e.1,e.2.1,max l.1 (max (p5 g e.1).1 (p5 g e.2.1).1),min l.2.1 (min (p5 g e.1).2 (p5 g e.2.1).2),kQ p (e.1,e.2.1,l.2.2.2))
def lW(g:bg)(p:Nat)(e:eF)(l:jD):List oo:=
 if(eP g p e l).2.2.2.1<=(eP g p e l).2.2.1 then[]else if p=3 then[eP g p e l,((eP g p e l).2.1,(eP g p e l).1,(eP g p e l).2.2)]else[eP g p e l]
def eR(g:bg)(p:Nat):List oo:=g.af.flatMap λe=>e.2.2.flatMap λl=>lW g p e l
theorem acB(h0:0<=v)(h1:v<g.lives.length):bl t g.lives v=ν↔(p5 g v).1<=t/\t<(p5 g v).2:=by obtain⟨V,rfl⟩:∃V:Nat,v=(V:Int):=⟨v.toNat,by omega⟩;rw[pJ t g.lives V (by omega),nW];unfold p5;rw[Int.toNat_natCast,List.getD_eq_getElem?_getD,List.getElem?_eq_getElem (by omega)];rfl
theorem acC p:vS (kQ p):=λa=>by unfold kQ;rfl
theorem acD(h0:aK g=0){p}{a b m}:(∃π∈eR g p,π.1=a/\π.2.1=b/\π.2.2.2.2=m/\π.2.2.1<=t/\t<π.2.2.2.1)↔∃α∈ways (decide (p=3)) (dc t g.lives g.af),α.1=a/\α.2.1=b/\kQ p α=m:=by
 have R:=ei h0;have one:∀{e:eF},e∈g.af->∀{l:jD},((eP g p e l).2.2.1<=t/\t<(eP g p e l).2.2.2.1)↔(l.1<=t/\t<l.2.1)/\bl t g.lives e.1=ν/\bl t g.lives e.2.1=true:=by intro e he l;obtain⟨hA,hB,_⟩:=R.ends e he;rw[acB hA.1 hA.2,acB hB.1 hB.2];unfold eP;simp only;omega
 constructor
 .rintro⟨π,fc,rfl,rfl,rfl,h1,h2⟩;unfold eR at fc;rw[List.mem_flatMap]at fc;obtain⟨e,he,fc⟩:=fc;rw[List.mem_flatMap]at fc;obtain⟨l,hl,fc⟩:=fc;unfold lW at fc;split at fc
  .cases fc
  .split at fc
   .rename_i hp;subst hp;rcases List.mem_cons.1 fc with rfl|fc
    .obtain⟨k1,k2,bz⟩:=(one he).1 ⟨h1,h2⟩;exact⟨(e.1,e.2.1,l.2.2.2),(BP ((Cf h0).2 ⟨e,he,l,hl,k1.1,k1.2,k2,bz,rfl⟩)).1,rfl,rfl,rfl⟩
    .rw[List.mem_singleton]at fc;subst fc;obtain⟨k1,k2,bz⟩:=(one he).1 ⟨h1,h2⟩;exact⟨(e.2.1,e.1,l.2.2.2),(BP (a:=(e.1,e.2.1,l.2.2.2)) ((Cf h0).2 ⟨e,he,l,hl,k1.1,k1.2,k2,bz,rfl⟩)).2 (by decide),rfl,rfl,rfl⟩
   .rw[List.mem_singleton]at fc;subst fc;obtain⟨k1,k2,bz⟩:=(one he).1 ⟨h1,h2⟩;exact⟨(e.1,e.2.1,l.2.2.2),(BP ((Cf h0).2 ⟨e,he,l,hl,k1.1,k1.2,k2,bz,rfl⟩)).1,rfl,rfl,rfl⟩
 .rintro⟨α,hα,rfl,rfl,rfl⟩;have put:∀{e:eF},e∈g.af->∀{l:jD},l∈e.2.2->∀{π:oo},π∈lW g p e l->π∈eR g p:=λhe _ hl _ fc=>by unfold eR;rw[List.mem_flatMap];exact⟨_,he,List.mem_flatMap.2 ⟨_,hl,fc⟩⟩
  have main:∀{β:b9},β∈dc t g.lives g.af->∃e∈g.af,∃l∈e.2.2,β=(e.1,e.2.1,l.2.2.2)/\(eP g p e l).2.2.1<=t/\t<(eP g p e l).2.2.2.1:=by intro β Tl;obtain⟨e,he,l,hl,k1,k2,bz,eB,rfl⟩:=(Cf h0).1 Tl;exact⟨e,he,l,hl,rfl,(one he).2 ⟨⟨k1,k2⟩,bz,eB⟩⟩
  unfold ways at hα;split at hα
  .rename_i hp;(have hp:p=3:=by simpa using hp);obtain⟨β,Tl,hα⟩:=BO.1 hα;obtain⟨e,he,l,hl,rfl,k1,k2⟩:=main Tl;rcases hα with rfl|rfl
   .exact⟨eP g p e l,put he hl (by unfold lW;rw[ς (by omega),χ hp];simp),rfl,rfl,rfl,k1,k2⟩
   .exact⟨((eP g p e l).2.1,(eP g p e l).1,(eP g p e l).2.2),put he hl (by unfold lW;rw[ς (by omega),χ hp];simp),rfl,rfl,(acC p (e.1,e.2.1,l.2.2.2)).symm,k1,k2⟩
  .rename_i hp;(have hp:¬p=3:=by simpa using hp);obtain⟨e,he,l,hl,rfl,k1,k2⟩:=main hα;exact⟨eP g p e l,put he hl (by unfold lW;rw[ς (by omega),ς hp];simp),rfl,rfl,rfl,k1,k2⟩
structure rT(n:Nat)(W:List b9)(p:b9->Int)(x:Nat->List Int):Prop where
 step:∀r,wu W p (x r) (x (r+1))
 len:∀r,(x r).length=n
 en:sZ n W
 pos:∀a∈W,0<=p a/\p a<=1000
theorem rT.down{W}{x}(h:rT n W p x){v}(hv:v<n):∀(d r:Nat),(x (r+d)).getD v 0<=(x r).getD v 0
 |0,r=>Int.le_refl _
 |d+1,r=>by have h1:=h.down hv d r;have h2:=(h.step (r+d)).le v (by rw[h.len];exact hv);rw[show r+(d+1)=r+d+1 by omega];omega
theorem rT.chain{W}{x}(h:rT n W p x):∀(r v:Nat),v<n->(x (r+1)).getD v 0<(x r).getD v 0 ->
  ∃L:List Nat,L.length=r+1/\L.Nodup/\(∀u∈L,u<n)/\v∉L/\∀u∈L,∃j,j<=r/\(x j).getD u 0<=(x (r+1)).getD v 0:=by
 intro r;induction r with
 |zero=>
  intro v hv hlt;rcases(h.step 0).from_ v (by rw[h.len];exact hv)with e|⟨a,ha,e1,e2⟩
  .omega
  .have en:=h.en a ha;have hp:=h.pos a ha;refine⟨[a.1.toNat],rfl,by simp,λu hu=>?_,λhm=>?_,λu hu=>?_⟩
   .rw[List.mem_singleton]at hu;omega
   .rw[List.mem_singleton]at hm;rw[hm]at hlt e2;omega
   .rw[List.mem_singleton]at hu;exact⟨0,Nat.le_refl _,by rw[hu];omega⟩
 |succ r ih=>
  intro v hv hlt;rcases(h.step (r+1)).from_ v (by rw[h.len];exact hv)with e|⟨a,ha,e1,e2⟩
  .omega
  ·(have en:=h.en a ha;have hp:=h.pos a ha;(have hu:a.1.toNat<n:=by omega);have himp:(x (r+1)).getD a.1.toNat 0<(x r).getD a.1.toNat 0:=by have h1:=(h.step r).le a.1.toNat (by rw[h.len];exact hu);have h2:=(h.step r).tell a ha;rw[e1]at h2;omega);obtain⟨L,k1,k2,bz,eB,sM⟩:=ih a.1.toNat hu himp;have low:∀u∈a.1.toNat::L,∃j,j<=r+1/\(x j).getD u 0<=(x (r+1+1)).getD v 0:=by
    intro u hu;rcases List.mem_cons.1 hu with rfl|hu
    .exact⟨r+1,Nat.le_refl _,by omega⟩
    .obtain⟨j,j1,j2⟩:=sM u hu;exact⟨j,by omega,by omega⟩
   refine⟨a.1.toNat::L,by simp[k1],List.nodup_cons.2 ⟨eB,k2⟩,λu hu=>?_,λhm=>?_,low⟩
   .rcases List.mem_cons.1 hu with rfl|hu
    .omega
    .exact bz u hu
   .obtain⟨j,j1,j2⟩:=low v hm;have:=h.down hv (r+1-j) j;rw[show j+(r+1-j)=r+1 by omega]at this;omega
theorem Tm:∀{n:Nat}{L:List Nat},L.Nodup->(∀u∈L,u<n)->L.length<=n
 |0,[],_,_=>Nat.le_refl _
 |0,u::L,_,hl=>by have:=hl u (by simp);omega
 |n+1,L,h,hl=>by
  by_cases hm:n∈L
  .have h1:=Tm (n:=n) (L:=L.erase n) (h.erase n) (λu hu=>by
    have h2:=h.mem_erase_iff.1 hu;have:=hl u h2.2;omega)
   rw[List.length_erase_of_mem hm]at h1;omega
  .have h1:=Tm (n:=n) h (λu hu=>by
    have:=hl u hu;have:u≠n:=λe=>hm (e▸hu);omega)
   omega
theorem rT.few{W}{x}(h:rT n W p x){v}(hv:v<n)(hlt:(x (r+1)).getD v 0<(x r).getD v 0):r+2<=n:=by
 obtain⟨L,k1,k2,bz,eB,_⟩:=h.chain r v hv hlt;have:=Tm (n:=n) (L:=v::L) (List.nodup_cons.2 ⟨eB,k2⟩) (λu hu=>by
  rcases List.mem_cons.1 hu with rfl|hu
  .exact hv
  .exact bz u hu)
 simp[k1]at this;omega
theorem rT.still{W}{x}(h:rT n W p x)(hr:n<=r+1):x (r+1)=x r:=by
 refine acy (h.step r) (λv hv=>?_);unfold om;split
 .rename_i hlt;have:=h.few (by rw[<-h.len r];exact hv) hlt;omega
 .rfl
theorem rT.stays{W}{x}(h:rT n W p x)(hk:x (k+1)=x k):∀d,x (k+d)=x k
 |0=>rfl
 |d+1=>by have h1:=h.stays hk d;have h2:=h.step (k+d);rw[h1]at h2;have h3:=h.step k;rw[show k+(d+1)=k+d+1 by omega,acu h2 h3,hk]
theorem rT.small{W}{x}(h:rT n W p x){B}(h0:∀v,v<n->(x 0).getD v 0<1099511627776->(x 0).getD v 0<=B):∀(r v:Nat),v<n->(x r).getD v 0<1099511627776->(x r).getD v 0<=B+1000*(r:Int):=by
 intro r;induction r with
 |zero=>intro v hv hl;have:=h0 v hv hl;simpa using this
 |succ r ih=>
  intro v hv hl;rcases(h.step r).from_ v (by rw[h.len];exact hv)with e|⟨a,ha,e1,e2⟩
  .rw[e]at hl ⊢;have:=ih v hv hl;omega
  .have en:=h.en a ha;have hp:=h.pos a ha;have:=ih a.1.toNat (by omega) (by omega);omega
def yj(p:Nat)(fr v:Int):Int:=if p=3 then v else nY fr v
def bH(g:bg)(p:Nat)(fr:Int)(r:Nat)(t:Int):List Int:=xK (dc t g.lives g.af) (kQ p) (decide (p=3)) r (iO (cU t g.lives) (yj p fr))
def Ia(g:bg)(p:Nat)(t:Int):List b9:=ways (decide (p=3)) (dc t g.lives g.af)
theorem Tn g p fr r t:(bH g p fr r t).length=g.lives.length:=by unfold bH;rw[Z8,qz,nh]
theorem To(h0:aK g=0)t:sZ g.lives.length (dc t g.lives g.af):=by intro a ha;obtain⟨e,he,l,hl,_,_,_,_,rfl⟩:=(Cf h0).1 ha;obtain⟨h1,h2,_⟩:=(ei h0).ends e he;exact⟨h1.1,h1.2,h2.1,h2.2⟩
theorem acE{back}{b}(h:b∈ways back ai):∃a∈ai,b=a\/b=(a.2.1,a.1,a.2.2):=by
 unfold ways at h;split at h
 .exact BO.1 h
 .exact⟨b,h,.inl rfl⟩
theorem Tp(h0:aK g=0)p t:sZ g.lives.length (Ia g p t):=by
 intro b hb;obtain⟨a,ha,e|e⟩:=acE hb<;>subst e
 .exact To h0 t _ ha
 .obtain⟨h1,h2,h3,h4⟩:=To h0 t _ ha;exact⟨h3,h4,h1,h2⟩
theorem arQ(h0:aK g=0){p}:∀a∈Ia g p t,0<=kQ p a/\kQ p a<=1000:=by
 intro b hb;obtain⟨a,ha,hab⟩:=acE hb;obtain⟨e,he,l,hl,_,_,_,_,rfl⟩:=(Cf h0).1 ha;have hf:=(xz _ _).1 ((ei h0).aH e he l hl);have hc:b.2.2=l.2.2.2:=by rcases hab with e|e<;>subst e<;>rfl
 unfold kQ;rw[hc];split
 .omega
 .split<;>omega
theorem wz(h0:aK g=0)p fr t:rT g.lives.length (Ia g p t) (kQ p) (λr=>bH g p fr r t):=by refine⟨λr=>?_,λr=>Tn g p fr r t,Tp h0 p t,arQ h0⟩;have:=arL (ai:=dc t g.lives g.af) (p:=kQ p) (back:=decide (p=3)) (x:=bH g p fr r t) (λ_=>acC p) (by rw[Tn];exact To h0 t);exact this
def nA(z:Int):Option Int:=if z<1099511627776 then θ z else η
def Ab(g:bg)(p:Nat)(fr:Int)(r:Nat)(t:Int)(v:Nat):Option Int:=match r with
 |0=>nA ((bH g p fr 0 t).getD v 0)
 |r+1=>om (bH g p fr r t) (bH g p fr (r+1) t) v
theorem Cg{p}{fr}(aAt:g.lives.length<=12):∀v,v<g.lives.length->(0<=(bH g p fr 0 t).getD v 0/\(bH g p fr 0 t).getD v 0<=1099511627776)/\((bH g p fr 0 t).getD v 0<1099511627776->(bH g p fr 0 t).getD v 0<=12):=by
 intro v hv;have e:(bH g p fr 0 t).getD v 0=if(cU t g.lives).getD v ο=ν then yj p fr v else 1099511627776:=zD _ _ v (by rw[nh];exact hv)
 rw[e];unfold yj nY;split
 .split
  .omega
  .split<;>omega
 .omega
theorem newAt(h0:aK g=0)p fr r t:Mz (Ia g p t) (kQ p) (bH g p fr r t) (Ab g p fr r t):=by
 have R:=wz h0 p fr t;cases r with
 |zero=>exact arO _ (λa ha=>(R.pos a ha).1) (by rw[R.len 0];exact R.en) (λv hv=>((Cg (ei h0).tF) v (by rw[<-R.len 0];exact hv)).1.2) (λv _=>rfl)
 |succ r=>exact arN (by rw[R.len r];exact R.en) (R.step r)
theorem arR{p}{fr}{v}{z}(h0:aK g=0)(hv:v<g.lives.length)(h:Ab g p fr r t v=θ z):z=(bH g p fr r t).getD v 0/\z<1099511627776:=by
 have R:=wz h0 p fr t;have h1:=(newAt h0 p fr r t).val v z (by rw[R.len r];exact hv) h;refine⟨h1,?_⟩;cases r with
 |zero=>
  have h:nA ((bH g p fr 0 t).getD v 0)=θ z:=h;unfold nA at h;split at h
  .cases h;assumption
  .cases h
 |succ r=>
  have h:om (bH g p fr r t) (bH g p fr (r+1) t) v=θ z:=h;unfold om at h;split at h
  .rename_i hl;have h2:=R.down hv r 0;have h3:=((Cg (p:=p) (fr:=fr) (t:=t) (ei h0).tF) v hv).1.2;simp only[Nat.zero_add]at h2;rw[h1];omega
  .cases h
def acF(n:Nat)(T:Nat->List (Int×Int×Int))(f:Int->Nat->Option Int):Prop:=∀v,v<n->eo (T v)/\∀t,aC (T v) t=f t v
abbrev yl(g:bg)(p:Nat)(fr:Int)(r:Nat)(T:Nat->List (Int×Int×Int)):Prop:=acF g.lives.length T λt v=>nA ((bH g p fr r t).getD v 0)
abbrev wA(g:bg)(p:Nat)(fr:Int)(r:Nat)(N:Nat->List (Int×Int×Int)):Prop:=acF g.lives.length N λt v=>Ab g p fr r t v
structure MA(g:bg)(p:Nat)(fr:Int)(r:Nat)(H:Nat->List (Int×Int×Int)):Prop where
 can:∀v,v<g.lives.length->eo (H v)
 most:∀π∈eR g p,∀t,π.2.2.1<=t->t<π.2.2.2.1->∀z,Ab g p fr r t π.1.toNat=θ z->∃h,aC (H π.2.1.toNat) t=θ h/\h<=z+π.2.2.2.2
 from_:∀v,v<g.lives.length->∀t h,aC (H v) t=θ h->∃π∈eR g p,π.2.1.toNat=v/\π.2.2.1<=t/\t<π.2.2.2.1/\∃z,Ab g p fr r t π.1.toNat=θ z/\h=z+π.2.2.2.2
theorem MA.at(h0:aK g=0){p}{fr}{H}(h:MA g p fr r H)t:acw (Ia g p t) (kQ p) (Ab g p fr r t) (λv=>if v<g.lives.length then aC (H v) t else η):=by
 refine⟨λa ha z hz=>?_,λv q hq=>?_⟩
 .obtain⟨π,fc,e1,e2,e3,iJ,iK⟩:=(acD h0 (p:=p) (t:=t) (a:=a.1) (b:=a.2.1) (m:=kQ p a)).2 ⟨a,ha,rfl,rfl,rfl⟩;have en:=Tp h0 p t a ha;obtain⟨q,k1,k2⟩:=h.most π fc t iJ iK z (by rw[e1];exact hz);rw[e2]at k1;rw[e3]at k2;exact⟨q,by rw[χ (by omega)];exact k1,k2⟩
 .split at hq
  .rename_i hv;obtain⟨π,fc,e1,e2,e3,z,iJ,iK⟩:=h.from_ v hv t q hq;obtain⟨a,ha,k1,k2,bz⟩:=(acD h0 (p:=p) (t:=t) (a:=π.1) (b:=π.2.1) (m:=π.2.2.2.2)).1 ⟨π,fc,rfl,rfl,rfl,e2,e3⟩;exact⟨a,ha,by rw[k2];exact e1,z,by rw[k1];exact iJ,by rw[bz];exact iK⟩
  .cases hq
def js(told heard:Option Int):Option Int:=match heard with
 |none=>η
 |some h=>match told with
  |none=>θ h
  |some z=>if h<z then θ h else η
def Ib(told news:Option Int):Option Int:=match told,news with
 |none,b=>b
 |some z,η=>θ z
 |some z,θ h=>θ (min z h)
theorem abI(h0:aK g=0){p}{fr}{T N' H}(hr:r<=1000000)(hT:yl g p fr r T)(hH:MA g p fr r H)(hc:∀v,v<g.lives.length->eo (N' v))(hN:∀v,v<g.lives.length->∀t,aC (N' v) t=js (aC (T v) t) (aC (H v) t)):wA g p fr (r+1) N':=by
 intro v hv;refine⟨hc v hv,λt=>?_⟩;have R:=wz h0 p fr t;have hA:=hH.at h0 t;have hy:=arM (y:=bH g p fr (r+1) t) (by rw[R.len r];exact R.en) (newAt h0 p fr r t) hA (R.step r) v (by rw[R.len r];exact hv);simp only[χ hv]at hy;rw[hN v hv t,(hT v hv).2 t];show _=om (bH g p fr r t) (bH g p fr (r+1) t) v;have hi:(bH g p fr r t).getD v 0<=1099511627776:=by have h2:=R.down hv r 0;have h3:=((Cg (p:=p) (fr:=fr) (t:=t) (ei h0).tF) v hv).1.2;simp only[Nat.zero_add]at h2;omega
 unfold om js nA;cases hh:aC (H v) t with
 |none=>
  rw[hh]at hy;simp only at hy ⊢;rw[ς (by omega)]
 |some q=>
  rw[hh]at hy;simp only at hy ⊢;obtain⟨a,ha,e1,z,e2,e3⟩:=hA.from_ v q (by simp only[χ hv];exact hh);have en:=Tp h0 p t a ha;obtain⟨z1,z2⟩:=arR h0 (by omega) e2;have aAu:=R.small (B:=12) (λu hu hl=>((Cg (p:=p) (fr:=fr) (t:=t) (ei h0).tF) u hu).2 hl) r a.1.toNat (by omega) (by omega);have lR:=R.pos a ha;have hq:q<1099511627776:=by omega
  by_cases hx:(bH g p fr r t).getD v 0<1099511627776
  .rw[χ hx];simp only;by_cases hl:q<(bH g p fr r t).getD v 0
   .rw[χ hl,χ (by omega)];congr 1;omega
   .rw[ς hl,ς (by omega)]
  .rw[ς hx];simp only;rw[χ (by omega)];congr 1;omega
theorem arS(h0:aK g=0){p}{fr}{T aM N'}(hT:yl g p fr r T)(hN:wA g p fr (r+1) N')(hc:∀v,v<g.lives.length->eo (aM v))(lq :∀v,v<g.lives.length->∀t,aC (aM v) t=Ib (aC (T v) t) (aC (N' v) t)):yl g p fr (r+1) aM:=by
 intro v hv;refine⟨hc v hv,λt=>?_⟩;have R:=wz h0 p fr t;rw[lq v hv t,(hT v hv).2 t,(hN v hv).2 t];show Ib (nA ((bH g p fr r t).getD v 0)) (om (bH g p fr r t) (bH g p fr (r+1) t) v)=nA ((bH g p fr (r+1) t).getD v 0);have hle:=(R.step r).le v (by rw[R.len r];exact hv);have hi:(bH g p fr r t).getD v 0<=1099511627776:=by have h2:=R.down hv r 0;have h3:=((Cg (p:=p) (fr:=fr) (t:=t) (ei h0).tF) v hv).1.2;simp only[Nat.zero_add]at h2;omega
 unfold om Ib nA;by_cases hx:(bH g p fr r t).getD v 0<1099511627776
 .rw[χ hx];by_cases hl:(bH g p fr (r+1) t).getD v 0<(bH g p fr r t).getD v 0
  .rw[χ hl,χ (by omega)];show θ (min _ _)=_;congr 1;omega
  .rw[ς hl,χ (by omega)];show θ _=θ _;congr 1;omega
 .rw[ς hx];by_cases hl:(bH g p fr (r+1) t).getD v 0<(bH g p fr r t).getD v 0
  .rw[χ hl,χ (by omega)]
  .rw[ς hl,ς (by omega)]
theorem arT(h0:aK g=0){p}{fr}{N'}(hN:wA g p fr (r+1) N')(he:∀v,v<g.lives.length->N' v=[])t:bH g p fr (r+1) t=bH g p fr r t:=by
 refine acy ((wz h0 p fr t).step r) (λv hv=>?_);have hv':v<g.lives.length:=by rw[<-Tn g p fr r t];exact hv
 have h1:=(hN v hv').2 t;rw[he v hv',zz]at h1;exact h1.symm
theorem arU(h0:aK g=0){p}{fr}{N'}(hN:wA g p fr (r+1) N'){v}(hv:v<g.lives.length)(he:N' v≠[]):r+2<=g.lives.length:=by
 cases hm:N' v with
 |nil=>exact absurd hm he
 |cons q m=>
  have hc:=(hN v hv).1;rw[hm]at hc;have h1:=(hN v hv).2 q.1;rw[hm,jm,χ (by unfold dh;have:=hc.1;simp;omega)]at h1;have h2:om (bH g p fr r q.1) (bH g p fr (r+1) q.1) v=θ q.2.2:=h1.symm;unfold om at h2;split at h2
  .rename_i hl;exact(wz h0 p fr q.1).few hv hl
  .cases h2
theorem arV p:Aa p=kQ p:=by funext a;rfl
theorem arW(p:Nat)fr:H9 (p:Int) fr=yj p fr:=by
 funext v;unfold H9 yj;by_cases h:p=3
 .rw[χ h,χ (by omega)]
 .rw[ς h,ς (by omega)]
theorem arX g p fr r t:bH g p fr (r+1) t=xJ (dc t g.lives g.af) (kQ p) (decide (p=3)) (bH g p fr r t):=rfl
theorem acG{p:Nat}{fr}{t}:Ce g p fr t x k↔x=bH g p fr k t/\bH g p fr (k+1) t=bH g p fr k t/\∀j,j<k->¬bH g p fr (j+1) t=bH g p fr j t:=by
 unfold Ce;rw[arV,arW];constructor
 .intro h;exact⟨h.is,by rw[arX];have:=h.stop;rw[h.is]at this;exact this,h.on⟩
 .rintro⟨h1,h2,h3⟩;exact⟨h1,by rw[h1];exact h2,h3⟩
theorem arY(P:Nat->Prop):∀m,P m->∃k,k<=m/\P k/\∀j,j<k->¬P j:=by
 intro m;induction m using Nat.strongRecOn with
 |_ m ih=>
  intro h;by_cases h1:∃j,j<m/\P j
  .obtain⟨j,h2,h3⟩:=h1;obtain⟨k,k1,k2,bz⟩:=ih j h2 h3;exact⟨k,by omega,k2,bz⟩
  .exact⟨m,Nat.le_refl _,h,λj hj hp=>h1 ⟨j,hj,hp⟩⟩
theorem EK(h0:aK g=0)p fr(t:Nat):∃k,ny g p fr t=(bH g p fr k t,k)/\bH g p fr (k+1) t=bH g p fr k t/\(∀j,j<k->¬bH g p fr (j+1) t=bH g p fr j t)/\∀d,bH g p fr (k+d) t=bH g p fr k t:=by have R:=wz h0 p fr (t:Int);obtain⟨k,_,k2,bz⟩:=arY (λr=>bH g p fr (r+1) t=bH g p fr r t) g.lives.length (R.still (by omega));exact⟨k,arE (acG.2 ⟨rfl,k2,bz⟩),k2,bz,R.stays k2⟩
theorem arZ(h0:aK g=0){p}{fr}(hA:∀t:Int,bH g p fr (r+1) t=bH g p fr r t)(hB:r=0\/∃t:Nat,(t:Int)<g.hor/\¬bH g p fr (r- 1+1) t=bH g p fr (r- 1) t):rS g p fr g.hor.toNat=(r:Int):=by
 have up:∀k:Nat,rS g p fr k<=(r:Int):=by
  intro k;induction k with
  |zero=>simp[rS]
  |succ k ih=>
   rw[rS];obtain⟨m,e,e1,e2,_⟩:=EK h0 p fr k;rw[e];have:m<=r:=by
    rcases Nat.lt_or_ge r m with h|h
    .exact absurd (hA k) (e2 r h)
    .exact h
   simp only;omega
 have lo:∀k t:Nat,t<k->((ny g p fr t).2:Int)<=rS g p fr k:=by
  intro k;induction k with
  |zero=>intro t h;omega
  |succ k ih=>
   intro t h;rw[rS];by_cases e:t=k
   .subst e;omega
   .have:=ih t (by omega);omega
 rcases hB with rfl|⟨t,ht,hn⟩
 .have h1:=up g.hor.toNat;have h2:∀k:Nat,0<=rS g p fr k:=by
   intro k;induction k with
   |zero=>simp[rS]
   |succ k ih=>rw[rS];omega
  have:=h2 g.hor.toNat;omega
 .by_cases hr:r=0
  .subst hr;exact absurd (hA t) hn
  have h1:=up g.hor.toNat;have h2:=lo g.hor.toNat t (by omega);obtain⟨m,e,e1,e2,e3⟩:=EK h0 p fr t;rw[e]at h2;simp only at h2;have:r<=m:=by
   rcases Nat.lt_or_ge m r with h|h
   .have h5:=e3 (r- 1+1-m);have h6:=e3 (r- 1-m);rw[show m+(r- 1+1-m)=r- 1+1 by omega]at h5;rw[show m+(r- 1-m)=r- 1 by omega]at h6;exact absurd (h5.trans h6.symm) hn
   .exact h
  omega
theorem ar0(h0:aK g=0)p fr r t{v}(hv:v<g.lives.length):(bH g p fr r t).getD v 0<=1099511627776:=by have h1:=(wz h0 p fr t).down hv r 0;have h2:=(Cg (p:=p) (fr:=fr) (t:=t) (ei h0).tF v hv).1.2;simp only[Nat.zero_add]at h1;omega
theorem acH:∀{l:List (Int×Int×Int)}{p:Int×Int×Int},eo (l++[p])->∀q∈l,q.2.1<=p.1
 |[],_,_,q,hq=>by cases hq
 |a::l,p,h,q,hq=>by
  rcases List.mem_cons.1 hq with rfl|hq
  .exact BM h p (by simp)
  .exact acH h.2.2 q hq
theorem Tq{g}(h0:aK g=0)p fr{v}(hv:v<g.lives.length):∀k:Nat,eo (fT g p fr v k)/\(∀q∈fT g p fr v k,q.2.1<=(k:Int)/\0<=q.1)/\∀t:Int,aC (fT g p fr v k) t=if 0<=t/\t<(k:Int)then nA ((ny g p fr t.toNat).1.getD v 0)else η
 |0=>⟨trivial,λq hq=>(by cases hq),λt=>by rw[ς (by omega)];rfl⟩
 |k+1=>by
  obtain⟨h1,h2,h3⟩:=Tq h0 p fr hv k;rw[fT];obtain⟨m,e,_⟩:=EK h0 p fr k;have hhi:(ny g p fr k).1.getD v 0<=1099511627776:=by rw[e];exact ar0 h0 p fr m k hv
  have Tr:∀t:Int,t=(k:Int)->(ny g p fr t.toNat).1.getD v 0=(ny g p fr k).1.getD v 0:=λt ht=>by rw[ht,Int.toNat_natCast]
  generalize hx:(ny g p fr k).1.getD v 0=x at*;generalize fT g p fr v k=l at*;by_cases hi:x=1099511627776
  .rw[arF hi];refine⟨h1,λq hq=>by have:=h2 q hq;omega,λt=>?_⟩;rw[h3 t];by_cases e1:0<=t/\t<(k:Int)
   .rw[χ e1,χ (by omega)]
   .rw[ς e1];by_cases e2:t=(k:Int)
    .rw[χ (by omega),Tr t e2,hi];rfl
    .rw[ς (by omega)]
  ·(have hxs:nA x=θ x:=by unfold nA;rw[χ (by omega)]);have new:eo (l++[((k:Int),(k:Int)+1,x)])->(eo (l++[((k:Int),(k:Int)+1,x)])/\(∀q∈l++[((k:Int),(k:Int)+1,x)],q.2.1<=((k+1:Nat):Int)/\0<=q.1)/\∀t:Int,aC (l++[((k:Int),(k:Int)+1,x)]) t=if 0<=t/\t<((k+1:Nat):Int)then nA ((ny g p fr t.toNat).1.getD v 0)else η):=by
    intro hm;refine⟨hm,λq hq=>?_,λt=>?_⟩
    .rw[List.mem_append,List.mem_singleton]at hq;rcases hq with hq|rfl
     .have:=h2 q hq;omega
     .simp only;omega
    .by_cases e2:t=(k:Int)
     .have i1:dh ((k:Int),(k:Int)+1,x) t=true:=(nX _ _).2 (by simp only;omega);rw[vR,h3 t,ς (show ¬(0<=t/\t<(k:Int))by omega),jm,i1,χ (show 0<=t/\t<((k+1:Nat):Int)by omega),Tr t e2,hxs];rfl
     ·(have i1:dh ((k:Int),(k:Int)+1,x) t=false:=by rw[<-Bool.not_eq_true,nX];simp only;omega);rw[vR,h3 t,jm,i1];by_cases e1:0<=t/\t<(k:Int)
      .rw[χ e1,χ (show 0<=t/\t<((k+1:Nat):Int)by omega)];cases nA ((ny g p fr t.toNat).1.getD v 0)<;>rfl
      .rw[ς e1,ς (show ¬(0<=t/\t<((k+1:Nat):Int))by omega)];rfl
   rcases List.eq_nil_or_concat l with rfl|⟨l',q,acI⟩
   .rw[arG hi];refine new ?_;rw[zA];exact⟨trivial,by simp only;omega,λq hq=>by simp at hq⟩
   .rw[List.concat_eq_append]at acI;subst acI;obtain⟨Ic,qt,EL⟩:=q;have hq:=h2 (Ic,qt,EL) (by simp);simp only at hq;by_cases hc:qt=(k:Int)/\EL=x
    .obtain⟨rfl,rfl⟩:=hc;rw[arH hi];have hall:=h1;rw[zA]at h1;refine⟨?_,λq hq=>?_,λt=>?_⟩
     .rw[zA];refine⟨h1.1,by have:=h1.2.1;simp only at this ⊢;omega,λq hq=>?_⟩;have:=h1.2.2 q hq;unfold qv at this ⊢;exact this
     .rw[List.mem_append,List.mem_singleton]at hq;rcases hq with hq|rfl
      .have:=h2 q (by simp[hq]);omega
      .simp only;have:=h2 _ (List.mem_append_right l' (List.mem_singleton.2 rfl));simp only at this;omega
     .have h4:=h3 t;have hpos:=h1.2.1;simp only at hpos;by_cases e2:t=(k:Int)
      ·(have sF:aC l' t=none:=by refine wF (λq hq=>?_);have:=acH hall q hq;simp only at this;rw[<-Bool.not_eq_true,nX];omega);have i1:dh (Ic,(k:Int)+1,EL) t=true:=(nX _ _).2 (by simp only;omega);rw[vR,sF,jm,i1,χ (show 0<=t/\t<((k+1:Nat):Int)by omega),Tr t e2,hxs];rfl
      .have e3:dh (Ic,(k:Int)+1,EL) t=dh (Ic,(k:Int),EL) t:=by
        cases h5:dh (Ic,(k:Int),EL) t with
        |true=>rw[nX]at h5 ⊢;simp only at h5 ⊢;omega
        |false=>
         rw[<-Bool.not_eq_true,nX]at h5 ⊢;simp only at h5 ⊢;omega
       rw[vR,jm]at h4;rw[vR,jm,e3,h4];by_cases e1:0<=t/\t<(k:Int)
       .rw[χ e1,χ (show 0<=t/\t<((k+1:Nat):Int)by omega)]
       .rw[ς e1,ς (show ¬(0<=t/\t<((k+1:Nat):Int))by omega)]
    .rw[arI hi hc];refine new ?_;rw[zA];refine⟨h1,by simp only;omega,λq hq=>?_⟩;rw[List.getLast?_append,List.getLast?_singleton]at hq;simp only[Option.some_or,Γ]at hq;subst hq;unfold qv;simp only;by_cases e:qt=(k:Int)
     .exact .inr ⟨e,λh=>hc ⟨e,h⟩⟩
     .exact .inl (by omega)
theorem Ch(h:i<S.length):S.getD i 0=S[i]:=by simp[List.getD_eq_getElem?_getD,h]
theorem ar1(hS:S.Pairwise (·<·))t j(hj:j<S.length):S[j]<=t↔j<cnt S t:=by
 induction S generalizing j with
 |nil=>simp at hj
 |cons x S ih=>
  rw[List.pairwise_cons]at hS;rw[amf];by_cases hx:x<=t
  .rw[χ hx];cases j with
   |zero=>simp;omega
   |succ j=>
    have:=ih hS.2 j (by simpa using hj);simp only[List.getElem_cons_succ];omega
  .rw[ς hx,amg (λy hy=>by have:=hS.1 y hy;omega)];have:x<=(x::S)[j]:=by
    cases j with
    |zero=>simp
    |succ j=>
     simp only[List.getElem_cons_succ];have:=hS.1 _ (List.getElem_mem (by simpa using hj:j<S.length));omega
   omega
theorem ar2{s}(hst:s<=t)(h:∀x∈flat l,¬(s<x/\x<=t)):has l s=has l t:=by
 induction l with
 |nil=>rfl
 |cons p l ih=>
  rw[DS]at h;rw[Lb,Lb,ih (λx hx=>h x (by simp[hx]))];have h1:=h p.1 (by simp);have h2:=h p.2 (by simp);congr 1;rw[Bool.eq_iff_iff];simp only[Bool.and_eq_true,kC];omega
structure wB(S:List Int)(f:Int->Option Int):Prop where
 same:∀s t,s<=t->(∀x∈S,¬(s<x/\x<=t))->f s=f t
 low:∀t,(∀x∈S,t<x)->f t=η
 high:∀t,(∀x∈S,x<=t)->f t=η
theorem MB{f}(h:∀k,k<i->¬(S.getD k 0<=t/\t<S.getD (k+1) 0)):xG S f i t=none:=by
 induction i with
 |zero=>rfl
 |succ i ih=>rw[Ec,ih (λk hk=>h k (by omega)),ς (h i (by omega))];rfl
theorem ar3{f}(hS:S.Pairwise (·<·))(hi:i<S.length)(hk:k<i)(h:S.getD k 0<=t/\t<S.getD (k+1) 0):xG S f i t=f (S.getD k 0):=by
 rw[List.pairwise_iff_getElem]at hS;have mono:∀a b,a<=b->b<S.length->S.getD a 0<=S.getD b 0:=by
  intro a b hab hb;rw[Ch (by omega:a<S.length),Ch hb];by_cases e:a=b
  .subst e;exact Int.le_refl _
  .exact Int.le_of_lt (hS a b (by omega) hb (by omega))
 induction i with
 |zero=>omega
 |succ i ih=>
  rw[Ec];by_cases e:k=i
  .subst e;rw[MB (λj hj hc=>?_),χ h]
   .rfl
   .have:=mono (j+1) k (by omega) (by omega);omega
  .rw[ih (by omega) (by omega),ς (λhc=>?_)]
   .cases f (S.getD k 0)<;>rfl
   .have:=mono (k+1) i (by omega) (by omega);omega
theorem acJ{f}(hS:S.Pairwise (·<·))(h:wB S f)t:xG S f (S.length- 1) t=f t:=by
 have hc:=λj hj=>ar1 hS t j hj;rcases Nat.eq_zero_or_pos (cnt S t)with h0|h0
 .rw[h.low t (λx hx=>by
   obtain⟨j,hj,rfl⟩:=List.getElem_of_mem hx;have:=hc j hj;omega)]
  refine MB λk hk hh=>?_;rw[Ch (by omega:k<S.length)]at hh;have:=(hc k (by omega)).1 hh.1;omega
 rcases Nat.lt_or_ge (cnt S t) S.length with h1|h1
 .have a1:=(hc (cnt S t- 1) (by omega)).2 (by omega);have a2:¬S[cnt S t- 1+1]<=t:=λhh=>by have:=(hc (cnt S t- 1+1) (by omega)).1 hh;omega
  rw[ar3 (k:=cnt S t- 1) hS (by omega) (by omega) (by rw[Ch (by omega:cnt S t- 1<S.length),Ch (by omega:cnt S t- 1+1<S.length)];omega),Ch (by omega:cnt S t- 1<S.length)];refine h.same _ t a1 λx hx PN=>?_;obtain⟨j,hj,rfl⟩:=List.getElem_of_mem hx;have xb:=hS;rw[List.pairwise_iff_getElem]at xb;by_cases hjk:j<=cnt S t- 1
  .by_cases e:j=cnt S t- 1
   .subst e;omega
   .have:=xb j (cnt S t- 1) hj (by omega) (by omega);omega
  .have:=(hc j hj).1 PN.2;omega
 .rw[h.high t (λx hx=>by
   obtain⟨j,hj,rfl⟩:=List.getElem_of_mem hx;have:=hc j hj;omega)]
  refine MB λk hk hh=>?_;rw[Ch (by omega:k+1<S.length)]at hh;have:=(hc (k+1) (by omega)).2 (by omega);omega
theorem Ts{p}{s}(hst:s<=t)(h1:¬(s<p.1/\p.1<=t))(h2:¬(s<p.2.1/\p.2.1<=t)):dh p s=dh p t:=by rw[Bool.eq_iff_iff,nX,nX];omega
theorem Ie{s}(hst:s<=t)(h:∀x∈bO m,¬(s<x/\x<=t)):aC m s=aC m t:=by
 induction m with
 |nil=>rfl
 |cons p m ih=>
  have hp:=BN (m:=p::m) (p:=p) (by simp);rw[jm,jm,Ts hst (h _ hp.1) (h _ hp.2),ih λx hx=>h x (by unfold bO at hx ⊢;rw[List.flatMap_cons,List.mem_append];exact .inr hx)]
theorem Tt{p}(h:t<p.1):dh p t=false:=by unfold dh;simp only[Bool.and_eq_false_iff,CP];omega
theorem Tu{p}(h:p.2.1<=t):dh p t=false:=by unfold dh;simp only[Bool.and_eq_false_iff,CP];omega
theorem MC(h:∀x∈bO m,t<x):aC m t=none:=wF λ_ hp=>Tt (h _ (BN hp).1)
theorem MD(h:∀x∈bO m,x<=t):aC m t=none:=wF λ_ hp=>Tu (h _ (BN hp).2)
def nB(m:List (Int×Int×Int))(p:Int×Int×Int)(t:Int):Option Int:=if dh p t then θ p.2.2 else aC m t
theorem ar4{p}(hm:∀x,x∈S↔x∈bO m++[p.1,p.2.1]):wB S (nB m p):=by
 have h1:∀x∈bO m,x∈S:=λx hx=>(hm x).2 (by simp[hx]);have h2:p.1∈S:=(hm _).2 (by simp);have h3:p.2.1∈S:=(hm _).2 (by simp);refine⟨λs t hst h=>?_,λt h=>?_,λt h=>?_⟩
 .unfold nB;rw[Ts hst (h _ h2) (h _ h3),Ie hst λx hx=>h x (h1 x hx)]
 .unfold nB;rw[Tt (h _ h2),MC λx hx=>h x (h1 x hx)];rfl
 .unfold nB;rw[Tu (h _ h3),MD λx hx=>h x (h1 x hx)];rfl
def oR(m:List (Int×Int×Int))(l:List (Int×Int))(b:Bool)(t:Int):Option Int:=if has l t=b then aC m t else η
theorem ar5{b}(hm:∀x,x∈S↔x∈bO m++flat l):wB S (oR m l b):=by
 have h1:∀x∈bO m,x∈S:=λx hx=>(hm x).2 (by simp[hx]);have h2:∀x∈flat l,x∈S:=λx hx=>(hm x).2 (by simp[hx]);refine⟨λs t hst h=>?_,λt h=>?_,λt h=>?_⟩
 .unfold oR;rw[ar2 hst λx hx=>h x (h2 x hx),Ie hst λx hx=>h x (h1 x hx)]
 .unfold oR;rw[MC λx hx=>h x (h1 x hx)];simp
 .unfold oR;rw[MD λx hx=>h x (h1 x hx)];simp
def both(how x y:Int):Int:=if how=1 then min x y else if how=2 then max x y else x+y
def p6(how:Int):Bool:=decide (how=1\/how=2\/how=3)
theorem ME(h:how=1\/how=2\/how=3):p6 how=true:=by unfold p6;rw[kC];exact h
theorem acK(h:¬(how=1\/how=2\/how=3)):p6 how=false:=by unfold p6;rw[CP];exact h
def EM(x:Int):Prop:= -1000000000000<=x/\x<=1000000000000
theorem Tv{x}(h:cT x):EM x:=by unfold cT at h;unfold EM;omega
def iG(how:Int):Option Int->Option Int->Option Int
 |none,y=>y
 |some x,η=>θ x
 |some x,θ y=>θ (both how x y)
def tC(a b:List (Int×Int×Int))(how t:Int):Option Int:=iG how (aC a t) (aC b t)
theorem ar6{a b}(hm:∀x,x∈S↔x∈bO a++bO b):wB S (tC a b how):=by
 have h1:∀x∈bO a,x∈S:=λx hx=>(hm x).2 (by simp[hx]);have h2:∀x∈bO b,x∈S:=λx hx=>(hm x).2 (by simp[hx]);refine⟨λs t hst h=>?_,λt h=>?_,λt h=>?_⟩
 .unfold tC;rw[Ie hst λx hx=>h x (h1 x hx),Ie hst λx hx=>h x (h2 x hx)]
 .unfold tC;rw[MC λx hx=>h x (h1 x hx),MC λx hx=>h x (h2 x hx)];rfl
 .unfold tC;rw[MD λx hx=>h x (h1 x hx),MD λx hx=>h x (h2 x hx)];rfl
theorem ar7{A}{f}{o}(b8:Ordered A S)(hf:wB S f)(T:oO S f (S.length- 1) o)(t:Int):aC o t=f t:=by rw[T.pts,acJ b8.inc hf]
def ku:oo:=(0,0,0,0,0)
def oq(M:Nat->Nat->List (Int×Int×Int)):Nat->Nat->Int->Option Int
 |0,_,_=>η
 |j+1,v,t=>iG 1 (oq M j v t) (aC (M j v) t)
theorem acL how x:iG how x η=x:=by cases x<;>rfl
def wC(N:Nat->List (Int×Int×Int))(π:oo)(t:Int):Option Int:=if π.2.2.1<=t/\t<π.2.2.2.1 then(aC (N π.1.toNat) t).map (·+π.2.2.2.2)else η
def mN(N:Nat->List (Int×Int×Int))(wk W:Int)(ps:List oo):Nat->Nat->Int->Option Int
 |0,_,_=>η
 |k+1,v,t=>if(ps.getD k ku).1%W=wk/\(ps.getD k ku).2.1=(v:Int)then iG 1 (mN N wk W ps k v t) (wC N (ps.getD k ku) t)else mN N wk W ps k v t
def Ci(n:Nat)(π:oo):Prop:=(0<=π.1/\π.1<n)/\(0<=π.2.1/\π.2.1<n)/\(0<=π.2.2.1/\π.2.2.1<π.2.2.2.1/\π.2.2.2.1<=100)/\0<=π.2.2.2.2/\π.2.2.2.2<=1000
theorem acM{a b}(e:iG 1 a b=θ h):a=θ h\/b=θ h:=by
 cases a with
 |none=>exact .inr e
 |some x=>
  cases b with
  |none=>exact .inl e
  |some y=>
   simp only[iG,both,χ,Γ]at e;rcases Int.le_total x y with k|k
   .left;rw[Int.min_eq_left k]at e;rw[e]
   .right;rw[Int.min_eq_right k]at e;rw[e]
theorem ar8{a b}{z}(e:a=θ z):∃h,iG 1 a b=θ h/\h<=z:=by
 subst e;cases b with
 |none=>exact⟨z,rfl,Int.le_refl _⟩
 |some y=>exact⟨min z y,by simp[iG,both],by omega⟩
theorem acN{a b}{z}(e:b=θ z):∃h,iG 1 a b=θ h/\h<=z:=by
 subst e;cases a with
 |none=>exact⟨z,rfl,Int.le_refl _⟩
 |some y=>exact⟨min y z,by simp[iG,both],by omega⟩
theorem acO{a b}{z}(e:∃h,a=θ h/\h<=z):∃h,iG 1 a b=θ h/\h<=z:=by obtain⟨x,e,hx⟩:=e;obtain⟨h,e2,h2⟩:=ar8 (b:=b) e;exact⟨h,e2,by omega⟩
theorem Tw N wk W ps v t h:∀k,mN N wk W ps k v t=θ h->∃i,i<k/\(ps.getD i ku).1%W=wk/\(ps.getD i ku).2.1=(v:Int)/\wC N (ps.getD i ku) t=θ h
 |0,e=>by cases e
 |k+1,e=>by
  rw[mN]at e;split at e
  .rename_i hc;rcases acM e with e|e
   .obtain⟨i,h1,h2⟩:=Tw N wk W ps v t h k e;exact⟨i,by omega,h2⟩
   .exact⟨k,by omega,hc.1,hc.2,e⟩
  .obtain⟨i,h1,h2⟩:=Tw N wk W ps v t h k e;exact⟨i,by omega,h2⟩
theorem acP N wk W ps (v:Nat)t z{i}(h1:(ps.getD i ku).1%W=wk)(h2:(ps.getD i ku).2.1=(v:Int))(h3:wC N (ps.getD i ku) t=θ z):∀k,i<k->∃h,mN N wk W ps k v t=θ h/\h<=z
 |0,h=>by omega
 |k+1,h=>by
  rw[mN];by_cases e:i=k
  .subst e;rw[χ ⟨h1,h2⟩];exact acN h3
  .have ih:=acP N wk W ps v t z h1 h2 h3 k (by omega);split
   .exact acO ih
   .exact ih
theorem acQ M v t h:∀j,oq M j v t=θ h->∃i,i<j/\aC (M i v) t=θ h
 |0,e=>by cases e
 |j+1,e=>by
  rw[oq]at e;rcases acM e with e|e
  .obtain⟨i,h1,h2⟩:=acQ M v t h j e;exact⟨i,by omega,h2⟩
  .exact⟨j,by omega,e⟩
theorem acR M v t z{i}(h1:∃h,aC (M i v) t=θ h/\h<=z):∀j,i<j->∃h,oq M j v t=θ h/\h<=z
 |0,h=>by omega
 |j+1,h=>by
  rw[oq];by_cases e:i=j
  .subst e;obtain⟨x,e1,h2⟩:=h1;obtain⟨y,e2,h3⟩:=acN (a:=oq M i v t) e1;exact⟨y,e2,by omega⟩
  .exact acO (acR M v t z h1 j (by omega))
theorem Tx(h0:aK g=0){p}{π}(h:π∈eR g p):Ci g.lives.length π:=by
 have R:=ei h0;unfold eR at h;rw[List.mem_flatMap]at h;obtain⟨e,he,h⟩:=h;rw[List.mem_flatMap]at h;obtain⟨l,hl,h⟩:=h;obtain⟨hA,hB,_⟩:=R.ends e he;have hf:=(xz _ _).1 (R.aH e he l hl);have hor:=R.hor;have lA:p5 g e.1∈g.lives:=by unfold p5;rw[List.getD_eq_getElem?_getD,List.getElem?_eq_getElem (show e.1.toNat<g.lives.length by omega)];exact List.getElem_mem _
 have ar9:p5 g e.2.1∈g.lives:=by unfold p5;rw[List.getD_eq_getElem?_getD,List.getElem?_eq_getElem (show e.2.1.toNat<g.lives.length by omega)];exact List.getElem_mem _
 have aa9:=R.life _ lA;have L0:=R.life _ ar9;have hp:0<=kQ p (e.1,e.2.1,l.2.2.2)/\kQ p (e.1,e.2.1,l.2.2.2)<=1000:=by
  unfold kQ;split
  .omega
  .split
   .simp only;omega
   .omega
 unfold lW at h;split at h
 .cases h
 .rename_i hlt;have key:Ci g.lives.length (eP g p e l)/\Ci g.lives.length ((eP g p e l).2.1,(eP g p e l).1,(eP g p e l).2.2):=by unfold eP at hlt ⊢;unfold Ci;simp only at hlt ⊢;refine⟨⟨hA,hB,⟨by omega,by omega,by omega⟩,hp⟩,hB,hA,⟨by omega,by omega,by omega⟩,hp⟩
  split at h
  .simp only[List.mem_cons,List.not_mem_nil,Fq]at h;rcases h with rfl|rfl
   .exact key.1
   .exact key.2
  .rw[List.mem_singleton]at h;subst h;exact key.1
theorem asa(h0:aK g=0){p}{fr}{N H:Nat->List (Int×Int×Int)}{W}{M:Nat->Nat->List (Int×Int×Int)}(hW:1<=W)(hN:wA g p fr r N)(hM:∀j,j<W->∀v,v<g.lives.length->∀t,aC (M j v) t=mN N (j:Int) (W:Int) (eR g p) (eR g p).length v t)(hc:∀v,v<g.lives.length->eo (H v))(hH:∀v,v<g.lives.length->∀t,aC (H v) t=oq M W v t):MA g p fr r H:=by
 have al:∀π∈eR g p,∀t,wC N π t=if π.2.2.1<=t/\t<π.2.2.2.1 then(Ab g p fr r t π.1.toNat).map (·+π.2.2.2.2)else none:=by intro π fc t;have hg:=Tx h0 fc;unfold wC;rw[(hN π.1.toNat (by have:=hg.1;omega)).2 t]
 refine⟨hc,λπ fc t h1 h2 z hz=>?_,λv hv t h e=>?_⟩
 .have hg:=Tx h0 fc;have ha:wC N π t=θ (z+π.2.2.2.2):=by rw[al π fc t,χ ⟨h1,h2⟩,hz];rfl
  obtain⟨i,hi,rfl⟩:=List.getElem_of_mem fc;have hgd:(eR g p).getD i ku=(eR g p)[i]:=by rw[List.getD_eq_getElem?_getD,List.getElem?_eq_getElem hi];rfl
  have hb:=hg.2.1;have ha0:=hg.1;have hj:((eR g p)[i].1%(W:Int)).toNat<W:=by have h1:=Int.emod_nonneg (eR g p)[i].1 (show (W:Int)≠0 by omega);have h2:=Int.emod_lt_of_pos (eR g p)[i].1 (show (0:Int)<W by omega);omega
  have hj2:((((eR g p)[i].1%(W:Int)).toNat:Nat):Int)=(eR g p)[i].1%(W:Int):=by have h1:=Int.emod_nonneg (eR g p)[i].1 (show (W:Int)≠0 by omega);omega
  have hv:(eR g p)[i].2.1.toNat<g.lives.length:=by omega
  rw[hH _ hv t];refine acR M _ t _ (i:=((eR g p)[i].1%(W:Int)).toNat) ?_ W hj;rw[hM _ hj _ hv t,hj2];exact acP N _ _ _ _ t _ (i:=i) (by rw[hgd]) (by rw[hgd];omega) (by rw[hgd];exact ha) _ hi
 .rw[hH v hv t]at e;obtain⟨j,hj,e⟩:=acQ M v t h W e;rw[hM j hj v hv t]at e;obtain⟨i,hi,h1,h2,h3⟩:=Tw N _ _ _ v t h _ e;have hgd:(eR g p).getD i ku=(eR g p)[i]:=by rw[List.getD_eq_getElem?_getD,List.getElem?_eq_getElem hi];rfl
  rw[hgd]at h2 h3;have fc:=List.getElem_mem hi;rw[al _ fc t]at h3;split at h3
  .rename_i hc;cases hz:Ab g p fr r t (eR g p)[i].1.toNat with
   |none=>rw[hz]at h3;cases h3
   |some z=>
    rw[hz]at h3;simp only[nK,Γ]at h3;exact⟨_,fc,by rw[h2];simp,hc.1,hc.2,z,hz,h3.symm⟩
  .cases h3
theorem MF B x y z w(hB:B<w.heap.size)(c0:w.cell? ⟨B,0,η⟩=θ (.int .i64 x))(c1:w.cell? ⟨B,1,η⟩=θ (.int .i64 y))(c2:w.cell? ⟨B,2,η⟩=θ (.int .i64 z)):Ξ ah 191 #[.slice (θ ⟨B,0,η⟩) 3 3] w λe w'=>e=.returned (.bool (gq x&&(gq y&&gq z)))/\w'=w:=by
 have h:=Q7 (θ ⟨B,0,η⟩) 3 [x,y,z] w (.inr ⟨B,0,rfl,hB,λj hj=>by
  match j,hj with
  |0,_=>exact c0
  |1,_=>exact c1
  |2,_=>exact c2⟩) (by simp)
 simpa using h
def Ac(x y z:Int):Bool:=gq x&&(gq y&&gq z)
theorem Ad p:Ac p.1 p.2.1 p.2.2=ν↔dW p:=by unfold Ac dW;rw[Bool.and_eq_true,Bool.and_eq_true,ud,ud,ud]
theorem Ty x y z w:Ξ ah 174 #[.agg #[.int .i64 x,.int .i64 y,.int .i64 z]] w λe w'=>e=.returned (.bool (Ac x y z))/\Below w.heap.size w w':=by go_enter alu,ntmps174;go_wp2_with fail;refine(MF (w.heap.size+1) x y z _ (by simp) (by simp) (by simp) (by simp)).mono ?_;rintro e w1 ⟨rfl,rfl⟩;go_wp2;go_ret;exact⟨rfl,bJ (cw _ _) (cw _ _)⟩
def uQ(a b x:Int):Bool:=decide (a<=x)&&decide (x<b)
theorem acS a b v t w:Ξ ah 178 #[.agg #[.int .i64 a,.int .i64 b,.int .i64 v],.int .i64 t] w λe w'=>e=.returned (.bool (uQ a b t))/\Below w.heap.size w w':=by
 have aD:Hid (∀o,Below w.heap.size w (w.alloc o)):=λo=>cw w o;by_cases g1:a<=t
 .by_cases g2:t<b
  ·(have ak:Hid (uQ a b t=ν):=by show _=_;unfold uQ;simp[g1,g2]);go_enter QW,ntmps178;go_wp2;go_ret;exact⟨gK ak.out.symm,aD.out _⟩
  ·(have ak:Hid (uQ a b t=ο):=by show _=_;unfold uQ;simp[g2]);go_enter QW,ntmps178;go_wp2;go_ret;exact⟨gK ak.out.symm,aD.out _⟩
 .have ak:Hid (uQ a b t=ο):=by show _=_;unfold uQ;simp[g1]
  go_enter QW,ntmps178;go_wp2;go_ret;exact⟨gK ak.out.symm,aD.out _⟩
def ym(b v a' v':Int):Bool:=decide (b<a')||(b==a' &&v !=v')
theorem acT a b v a' b' v' w:Ξ ah 189 #[.agg #[.int .i64 a,.int .i64 b,.int .i64 v],.agg #[.int .i64 a',.int .i64 b',.int .i64 v']] w λe w'=>e=.returned (.bool (ym b v a' v'))/\Below w.heap.size w w':=by
 have aD:Hid (∀o o',Below w.heap.size w ((w.alloc o).alloc o')):=λo o'=>bJ (cw w o) (cw _ o');by_cases g1:b<a'
 .have ak:Hid (ym b v a' v'=ν):=by show _=_;unfold ym;simp[g1]
  go_enter K5,ntmps189;go_wp2;go_ret;exact⟨gK ak.out.symm,aD.out _ _⟩
 .by_cases g2:b=a'
  .by_cases g3:v=v'
   ·(have ak:Hid (ym b v a' v'=ο):=by show _=_;unfold ym;simp[g2,g3]);subst g2;subst g3;go_enter K5,ntmps189;go_wp2;go_ret;exact⟨gK (by first|(rw[ak.out];simp;done)|rw[ak.out]),aD.out _ _⟩
   ·(have ak:Hid (ym b v a' v'=ν):=by show _=_;unfold ym;simp[g2,g3]);(have e3:(v !=v')=true:=by simp[g3]);subst g2;go_enter K5,ntmps189;go_wp2;go_ret;exact⟨gK (by first|(rw[ak.out];simp[e3];done)|rw[ak.out]),aD.out _ _⟩
  ·(have ak:Hid (ym b v a' v'=ο):=by show _=_;unfold ym;simp[g1,g2]);(have e2:(b==a')=false:=by simp[g2]);go_enter K5,ntmps189;go_wp2;go_ret;exact⟨gK (by rw[ak.out]),aD.out _ _⟩
theorem Tz(h:k<m.length):m.getD k (0,0,0)=m[k]:=by simp[List.getD_eq_getElem?_getD,List.getElem?_eq_getElem h]
theorem cm.get{b off}(hk:k<m.length)(hc:∀j,j<m.length->w.cell? ⟨b,off+j*3,η⟩=θ (.int .i64 (m.getD j (0,0,0)).1)/\w.cell? ⟨b,off+j*3+1,η⟩=θ (.int .i64 (m.getD j (0,0,0)).2.1)/\w.cell? ⟨b,off+j*3+2,η⟩=θ (.int .i64 (m.getD j (0,0,0)).2.2)):w.cell? ⟨b,off+k*3,η⟩=θ (.int .i64 m[k].1)/\w.cell? ⟨b,off+k*3+1,η⟩=θ (.int .i64 m[k].2.1)/\w.cell? ⟨b,off+k*3+2,η⟩=θ (.int .i64 m[k].2.2):=by have:=hc k hk;rwa[Tz hk]at this
theorem Ig ao cap m t w(hl:cm w ao m)(hn:m.length<=9223372036854775807):Ξ ah 179 #[.slice ao m.length cap,.int .i64 t] w λe w'=>e=.returned (.tuple #[.int .i64 ((aC m t).getD 0),.bool (aC m t).isSome])/\Below w.heap.size w w':=by
 go_enter alx,ntmps179;go_wp2;go_loopw [10] (λi wr=>∃k:Nat,k<=m.length/\i=.int .i64 k/\aC (m.take k) t=η/\Below w.heap.size w wr) (λi _=>m.length-(intOf i).toNat)
 case atStart=>exact⟨0,Nat.zero_le _,rfl,rfl,Below.refl _ _⟩
 case round=>
  obtain⟨k,hk,rfl,hh,hb⟩:=hrel;have iB:Hid (aC (m.take k) t=η):=hh;clear hh;by_cases hlt:k<m.length
  .rcases hl.below hb with h0|⟨b,off,rfl,bQ,hc⟩
   .subst h0;simp at hlt
   obtain⟨c0,c1,c2⟩:=cm.get hlt hc;have aD:Hid (Below w.heap.size w wr):=hb;clear hc hl hb;go_wp2_with fail;refine(acS m[k].1 m[k].2.1 m[k].2.2 t _).mono ?_;rintro e w1 ⟨rfl,aj⟩;have hb':=bJ (bJ aD.out (cw _ _)) aj;have d2:=aj.cell (p:=⟨wr.heap.size,2,η⟩) (by simp);have d2:w1.cell? ⟨wr.heap.size,2,η⟩=θ (.int .i64 m[k].2.2):=d2.trans (by simp);clear aj c0 c1 c2;cases hp:dh m[k] t with
   |true=>
    have e1:uQ m[k].1 m[k].2.1 t=true:=hp;have ak:Hid (aC m t=θ m[k].2.2):=an1 hlt iB.out hp;rw[e1];clear hp e1;go_wp2;go_ret2;exact⟨by rw[ak.out];rfl,hb'⟩
   |false=>
    have e1:uQ m[k].1 m[k].2.1 t=false:=hp;have ak:Hid (aC (m.take (k+1)) t=η):=an0 hlt iB.out hp;rw[e1];clear hp e1;go_wp2;go_roundw
    case rel=>exact⟨k+1,by omega,by go_num,ak.out,hb'⟩
    case measure=>simp[intOf];omega
  ·(have bp:k=m.length:=by omega);subst bp;(have ak:Hid (aC m t=η):=by have:=iB.out;rwa[List.take_length]at this);go_wp2;go_ret2;exact⟨by rw[ak.out];rfl,hb⟩
structure qj(w wr w1:υ)(b o:Nat)(p q:Int×Int×Int):Prop where
 k0:w1.cell? ⟨wr.heap.size,0,η⟩=θ (.int .i64 p.1)
 k1:w1.cell? ⟨wr.heap.size,1,η⟩=θ (.int .i64 p.2.1)
 k2:w1.cell? ⟨wr.heap.size,2,η⟩=θ (.int .i64 p.2.2)
 q0:w1.cell? ⟨b,o,η⟩=θ (.int .i64 q.1)
 q1:w1.cell? ⟨b,o+1,η⟩=θ (.int .i64 q.2.1)
 q2:w1.cell? ⟨b,o+2,η⟩=θ (.int .i64 q.2.2)
 aQ:Below w.heap.size w w1
 sz:wr.heap.size+1<=w1.heap.size
 lt:b<wr.heap.size
theorem TA{wr w1}{b o}{p}{T}(hb:Below w.heap.size w wr)(bQ:b<wr.heap.size)(c0:wr.cell? ⟨b,o,η⟩=θ (.int .i64 q.1))(c1:wr.cell? ⟨b,o+1,η⟩=θ (.int .i64 q.2.1))(c2:wr.cell? ⟨b,o+2,η⟩=θ (.int .i64 q.2.2))(h:Below (wr.alloc (.cells #[.int .i64 p.1,.int .i64 p.2.1,.int .i64 p.2.2] T)).heap.size (wr.alloc (.cells #[.int .i64 p.1,.int .i64 p.2.1,.int .i64 p.2.2] T)) w1):qj w wr w1 b o p q:=by
 have hA:=bJ (cw _ _) h;refine⟨(h.cell (p:=⟨wr.heap.size,0,η⟩) (by simp)).trans (by simp),(h.cell (p:=⟨wr.heap.size,1,η⟩) (by simp)).trans (by simp),(h.cell (p:=⟨wr.heap.size,2,η⟩) (by simp)).trans (by simp),?_,?_,?_,bJ hb hA,by have:=h.size;simpa using this,bQ⟩
 .rw[hA.cell (p:=⟨b,o,η⟩) bQ];exact c0
 .rw[hA.cell (p:=⟨b,o+1,η⟩) bQ];exact c1
 .rw[hA.cell (p:=⟨b,o+2,η⟩) bQ];exact c2
def ext(out:List (Int×Int×Int))(p:Int×Int×Int):List (Int×Int×Int):=
 match out.getLast? with
 |none=>out++[p]
 |some q=>if vP q p then out++[p]else out.dropLast++[(q.1,p.2.1,q.2.2)]
theorem ext_nil p:ext [] p=[]++[p]:=rfl
theorem acU{o}{p}(h:vP q p=ν):ext (o++[q]) p=o++[q]++[p]:=by unfold ext;simp[h]
theorem acV{o}{p}(h:vP q p=ο):ext (o++[q]) p=o++[(q.1,p.2.1,q.2.2)]:=by unfold ext;simp[h]
theorem asb base v out p w(hown:w.ownsRow base 176 3 v out.length (bV out))(hbase:base<=w.heap.size)(hlen:out.length<=1000):Ξ ah 195 #[v,.agg #[.int .i64 p.1,.int .i64 p.2.1,.int .i64 p.2.2]] w λe w'=>∃v',e=.returned v'/\w'.ownsRow base 176 3 v' (ext out p).length (bV (ext out p))/\Below base w w':=by
 obtain⟨i0,hi,cg,hz1,bX⟩:=er Tryz.aob;obtain⟨fX,vc,yf,_⟩:=j6 hown;rcases List.eq_nil_or_concat out with h0|⟨o,q,h0⟩
 .subst h0;subst yf;rw[ext_nil];simp only[List.length_nil]at hown;go_enter QY,ntmps195;go_wp2
  go_quiet (fail)
  go_wp2_with(at_builtin;refine x7 _ rfl _ _ 127 rfl base 176 i0 (.agg #[.int .i64 0,.int .i64 0,.int .i64 0]) 3 24 ((cD 127).trans underlying127) hi cg hz1 bX rfl (by decide) _ _ _ rfl (fW (fW (w:=w) hown _) _) ⟨w.heap.size+1,0,η⟩ 1 1 [.int .i64 p.1,.int .i64 p.2.1,.int .i64 p.2.2] rfl rfl ?c1 ?c2 ?c3 ?c4 ?c5 ?_)
  case c1=>exact RR _ _ _ _ _ _ (by simp)
  case c2=>intro u hu;simp at hu;rcases hu with rfl|rfl|rfl<;>rfl
  case c3=>unfold maxLen;omega
  case c4=>omega
  case c5=>simp;omega
  intro v' w1 jK hgrow _;have R:w1.ownsRow base 176 3 v' ([]++[p]).length (bV ([]++[p])):=by rw[Ed,List.length_append];exact jK
  have hb':=((below_drewN ((Below.refl base w).alloc hbase _) _).alloc (by simp;omega) _).grown hgrow (by simp;omega) (λj hj=>(hown.lt j hj).1);clear hown jK hgrow;go_wp2;go_ret;exact⟨_,rfl,R,hb'⟩
 .rw[List.concat_eq_append]at h0;have Ih:out.length=o.length+1:=by rw[h0];simp
  have ck:Hid (out=o++[q]):=h0;have fp:=RQ out o.length (by omega);have acW:out.getD o.length (0,0,0)=q:=by rw[h0];simp
  rw[acW]at fp;rcases hown.2 with⟨_,h9⟩|⟨g,acX,cur,vC,fS,hh,h1,h2,h4,h5⟩
  .omega
  have jK:=hown;rw[vC,Ih]at jK;have uN:=jK.lt g rfl;have TB:w.cell? ⟨g,o.length*3,η⟩=θ (.int .i64 q.1):=by rw[jK.cellAt (o.length*3) (by omega)];simp[bV,fp.1]
  have TC:w.cell? ⟨g,o.length*3+1,η⟩=θ (.int .i64 q.2.1):=by rw[jK.cellAt (o.length*3+1) (by omega)];simp[bV,fp.2.1]
  have TD:w.cell? ⟨g,o.length*3+2,η⟩=θ (.int .i64 q.2.2):=by rw[jK.cellAt (o.length*3+2) (by omega)];simp[bV,fp.2.2]
  have asc:Hid (out.length=o.length+1):=Ih;rw[vC,Ih];rw[Ih]at hlen;have kU:Hid (w.ownsRow base 176 3 (.slice (θ ⟨g,0,η⟩) (o.length+1) acX) (o.length+1) (bV out)):=jK;have hfz:=λW (h:Below w.heap.size w W)=>(cE jK h).frozenAt (o.length*3+1);have acY:Hid (∀W,Below w.heap.size w W->W.frozen? ⟨g,o.length*3+1,η⟩=ο):=hfz;clear vC h0 acW fp hh h4 h5 Ih hown jK yf hfz h1 h2;generalize hm:o.length=m at*;have fG:Hid (o.length=m):=hm;clear hm;have o7:(0:Int)<=(m:Int):=by omega
  have hm2:(m:Int)<(m:Int)+1:=by omega
  have cy:Hid (∀w1,Below (w.alloc (.cells #[.int .i64 p.1,.int .i64 p.2.1,.int .i64 p.2.2] 176)).heap.size (w.alloc (.cells #[.int .i64 p.1,.int .i64 p.2.1,.int .i64 p.2.2] 176)) w1->qj w w w1 g (m*3) p q):=λw1 h=>TA (Below.refl _ _) uN.2 TB TC TD h;have qM:Hid (∀W,Ξ ah 189 #[.agg #[.int .i64 q.1,.int .i64 q.2.1,.int .i64 q.2.2],.agg #[.int .i64 p.1,.int .i64 p.2.1,.int .i64 p.2.2]] W λe w'=>e=.returned (.bool (vP q p))/\Below W.heap.size W w'):=λW=>acT q.1 q.2.1 q.2.2 p.1 p.2.1 p.2.2 W;cases hf:vP q p with
  |true=>
   (have bx:Hid (ext out p=out++[p]):=by show _=_;rw[ck.out,acU hf]);rw[hf]at qM;clear hf;go_enter QY,ntmps195;go_wp2_with fail;generalize w.alloc (.cells #[.int .i64 p.1,.int .i64 p.2.1,.int .i64 p.2.2] 176)=bF at cy ⊢;have f0:∀s:bf bF,s.w.cell? ⟨w.heap.size,0,η⟩=θ (.int .i64 p.1):=λs=>(cy.out _ s.h).k0;have f1:∀s:bf bF,s.w.cell? ⟨w.heap.size,1,η⟩=θ (.int .i64 p.2.1):=λs=>(cy.out _ s.h).k1;have f2:∀s:bf bF,s.w.cell? ⟨w.heap.size,2,η⟩=θ (.int .i64 p.2.2):=λs=>(cy.out _ s.h).k2;have q0:∀s:bf bF,s.w.cell? ⟨g,m*3,η⟩=θ (.int .i64 q.1):=λs=>(cy.out _ s.h).q0;have q1:∀s:bf bF,s.w.cell? ⟨g,m*3+1,η⟩=θ (.int .i64 q.2.1):=λs=>(cy.out _ s.h).q1;have q2:∀s:bf bF,s.w.cell? ⟨g,m*3+2,η⟩=θ (.int .i64 q.2.2):=λs=>(cy.out _ s.h).q2;have hne:Nonempty (bf bF):=⟨⟨bF,Below.refl _ _⟩⟩;refine wp_region_held bF (Below.refl _ _) (by kernel_rfl) (by kernel_rfl) ?_;(repeat (go_big_quiet_step ((go_at_call 189;exact mI (qM.out _)))));refine pq ?_;rintro _ ⟨s,rfl⟩;have KK:=cy.out _ s.h;have fS:=KK.aQ;have k0:=KK.k0;have k1:=KK.k1;have k2:=KK.k2;generalize s.w=w1 at fS k0 k1 k2 ⊢;have EN:=cE kU.out fS;have hsz:=fS.size;clear f0 f1 f2 q0 q1 q2 KK hne TB TC TD cy qM acY;go_wp2_with(at_builtin;refine x7 _ rfl _ _ 127 rfl base 176 i0 (.agg #[.int .i64 0,.int .i64 0,.int .i64 0]) 3 24 ((cD 127).trans underlying127) hi cg hz1 bX rfl (by decide) _ _ _ rfl (fW (w:=w1) EN _) ⟨w1.heap.size,0,η⟩ 1 1 [.int .i64 p.1,.int .i64 p.2.1,.int .i64 p.2.2] rfl rfl ?c1 ?c2 ?c3 ?c4 ?c5 ?_)
   case c1=>exact RR _ _ _ _ _ _ (by simp)
   case c2=>intro u hu;simp at hu;rcases hu with rfl|rfl|rfl<;>rfl
   case c3=>unfold maxLen;omega
   case c4=>omega
   case c5=>simp;omega
   (intro v' w2 j5 hgrow _;have R:w2.ownsRow base 176 3 v' (ext out p).length (bV (ext out p)):=by rw[bx.out,Ed,List.length_append,asc.out];exact j5);have hb':Below base w w2:=((fS.mono hbase).alloc (by omega) _).grown hgrow (by simp;omega) (λj hj=>(EN.lt j hj).1);clear EN j5 hgrow;go_wp2;go_ret;exact⟨_,rfl,R,hb'⟩
  |false=>
   ((have bx:Hid (ext out p=o++[(q.1,p.2.1,q.2.2)]):=by show _=_;rw[ck.out,acV hf]);rw[hf]at qM;clear hf;go_enter QY,ntmps195;go_wp2_with fail;generalize w.alloc (.cells #[.int .i64 p.1,.int .i64 p.2.1,.int .i64 p.2.2] 176)=bF at cy ⊢;have f0:∀s:bf bF,s.w.cell? ⟨w.heap.size,0,η⟩=θ (.int .i64 p.1):=λs=>(cy.out _ s.h).k0;have f1:∀s:bf bF,s.w.cell? ⟨w.heap.size,1,η⟩=θ (.int .i64 p.2.1):=λs=>(cy.out _ s.h).k1;have f2:∀s:bf bF,s.w.cell? ⟨w.heap.size,2,η⟩=θ (.int .i64 p.2.2):=λs=>(cy.out _ s.h).k2;have q0:∀s:bf bF,s.w.cell? ⟨g,m*3,η⟩=θ (.int .i64 q.1):=λs=>(cy.out _ s.h).q0;have q1:∀s:bf bF,s.w.cell? ⟨g,m*3+1,η⟩=θ (.int .i64 q.2.1):=λs=>(cy.out _ s.h).q1;have q2:∀s:bf bF,s.w.cell? ⟨g,m*3+2,η⟩=θ (.int .i64 q.2.2):=λs=>(cy.out _ s.h).q2;have hne:Nonempty (bf bF):=⟨⟨bF,Below.refl _ _⟩⟩;refine wp_region_held bF (Below.refl _ _) (by kernel_rfl) (by kernel_rfl) ?_;(repeat (go_big_quiet_step ((go_at_call 189;exact mI (qM.out _)))));refine pq ?_;rintro _ ⟨s,rfl⟩;have KK:=cy.out _ s.h;have fS:=KK.aQ;have k1:=KK.k1;have c1:=KK.q1;generalize s.w=w1 at fS k1 c1 ⊢;have EN:=cE kU.out fS;have fz:=acY.out w1 fS;have hsz:=fS.size;have bI:Hid ((w1.setCell ⟨g,m*3+1,η⟩ (.int .i64 p.2.1)).ownsRow base 176 3 (.slice (θ ⟨g,0,η⟩) (m+1) acX) (ext out p).length (bV (ext out p))/\Below base w (w1.setCell ⟨g,m*3+1,η⟩ (.int .i64 p.2.1))):=by(have hst:=(EN.stored (m*3+1) (.int .i64 p.2.1)).1;have he:(bV out).set (m*3+1) (.int .i64 p.2.1)=bV (o++[(q.1,p.2.1,q.2.2)]):=by rw[ck.out,Ed,Ed,List.set_append_right _ _ (by rw[xH,fG.out];omega),xH,fG.out,show m*3+1-m*3=1 by omega];rfl);rw[he]at hst;(have hlen':(o++[(q.1,p.2.1,q.2.2)]).length=m+1:=by simp[fG.out]);rw[bx.out,hlen'];exact⟨hst,(fS.mono hbase).setCell uN.1 _⟩);clear f0 f1 f2 q0 q1 q2 KK hne TB TC TD cy qM EN;go_wp2;go_ret;exact⟨_,rfl,bI.out.1,bI.out.2⟩
def Ae(out:List (Int×Int×Int))(n:Int)(r:List (Int×Int×Int)):Prop:=
 (¬(∀q∈out,dW q)/\n=5/\r=[])\/((∀q∈out,dW q)/\200<out.length/\n=2/\r=[])\/((∀q∈out,dW q)/\out.length<=200/\n=0/\r=out)
theorem ase(hk:k<m.length)(h:∀q∈m.take k,dW q)(h1:dW m[k]):∀q∈m.take (k+1),dW q:=by
 intro q hq;rw[jZ m k hk,List.mem_append,List.mem_singleton]at hq;rcases hq with hq|rfl
 .exact h q hq
 .exact h1
theorem asf base v out w(hown:w.ownsRow base 176 3 v out.length (bV out))(hlen:out.length<=1000):Ξ ah 196 #[v] w λe w'=>∃n r v',Ae out n r/\e=.returned (.tuple #[v',.int .i64 n])/\w'.ownsRow base 176 3 v' r.length (bV r)/\Below w.heap.size w w':=by
 obtain⟨fX,vc,yf,hl⟩:=j6 hown;subst yf;have kU:Hid (w.ownsRow base 176 3 (.slice fX out.length vc) out.length (bV out)):=hown;have Ii:Hid (∀W:υ,W.ownsRow base 176 3 (.slice η 0 0) ([]:List (Int×Int×Int)).length (bV [])):=λW=>dJ _ _ _ _;clear hown;go_enter alF,ntmps196;go_wp2;go_loopw [8] (λi wr=>∃k:Nat,k<=out.length/\i=.int .i64 k/\(∀q∈out.take k,dW q)/\Below w.heap.size w wr) (λi _=>out.length-(intOf i).toNat)
 case atStart=>exact⟨0,Nat.zero_le _,rfl,λq hq=>by simp at hq,Below.refl _ _⟩
 case round=>
  obtain⟨k,hk,rfl,hn,hb⟩:=hrel;have aR:Hid (∀q∈out.take k,dW q):=hn;clear hn;by_cases hlt:k<out.length
  .rcases hl.below hb with h0|⟨b,off,rfl,bQ,hc⟩
   .subst h0;simp at hlt
   obtain⟨c0,c1,c2⟩:=cm.get hlt hc;have hnr:=λW=>Ty out[k].1 out[k].2.1 out[k].2.2 W;have aD:Hid (∀o w1,Below (wr.alloc o).heap.size (wr.alloc o) w1->Below w.heap.size w w1):=λo w1 h=>bJ (bJ hb (cw _ _)) h;clear hc hl hb;by_cases n1:dW out[k]
   .have aU:Hid (∀q∈out.take (k+1),dW q):=ase hlt aR.out n1;rw[(Ad _).2 n1]at hnr;clear n1;go_wp2_with fail;refine(hnr _).mono ?_;rintro e w1 ⟨rfl,aj⟩;have hb':=aD.out _ _ aj;clear aj;go_wp2;go_roundw
    case rel=>exact⟨k+1,by omega,by go_num,aU.out,hb'⟩
    case measure=>simp[intOf];omega
   .have ak:Hid (Ae out 5 []):=.inl ⟨λh=>n1 (h _ (List.getElem_mem hlt)),rfl,rfl⟩;rw[show Ac out[k].1 out[k].2.1 out[k].2.2=ο from by rw[<-Bool.not_eq_true,Ad];exact n1]at hnr;clear n1;go_wp2_with fail;refine(hnr _).mono ?_;rintro e w1 ⟨rfl,aj⟩;have hb':=aD.out _ _ aj;clear aj;go_wp2;go_ret2;exact⟨_,_,_,ak.out,rfl,Ii.out _,hb'⟩
  ·(have bp:k=out.length:=by omega);(have hall:∀q∈out,dW q:=by have:=aR.out;rwa[bp,List.take_length]at this);have cu:Hid (∀q∈out,dW q):=hall;clear hall;subst bp;by_cases TE:200<out.length
   .have ak:Hid (Ae out 2 []):=.inr (.inl ⟨cu.out,TE,rfl,rfl⟩);go_wp2;go_ret2;exact⟨_,_,_,ak.out,rfl,Ii.out _,hb⟩
   .have ak:Hid (Ae out 0 out):=.inr (.inr ⟨cu.out,by omega,rfl,rfl⟩);have bI:Hid (wr.ownsRow base 176 3 (.slice fX out.length vc) out.length (bV out)):=cE kU.out hb;go_wp2;go_ret2;exact⟨_,_,_,ak.out,rfl,bI.out,hb⟩
theorem asg{base g}{A}(h:w.ownsRow base e 1 (.slice (θ ⟨g,0,η⟩) A.length cap) A.length (A.map (bM .i64)))(hlen:A.length<4611686018427387904):Ξ ah 200 #[.slice (θ ⟨g,0,η⟩) A.length cap] w λen w'=>en=.returned (.tuple #[])/\∃Z:List Int,Z.Perm A/\Z.Pairwise (· <= ·)/\w'.ownsRow base e 1 (.slice (θ ⟨g,0,η⟩) A.length cap) A.length (Z.map (bM .i64))/\w.grownBy w' (θ g):=by
 have hg:=h.lt g rfl;rcases h.2 with⟨h0,_⟩|⟨g',cap',cur,hv,hbase,hh,h1,h2,h3,h4⟩
 .cases h0
 simp only[jU,Γ,GV,CS,yE]at hv;obtain⟨rfl,rfl⟩:=hv;have Af:=Any.slices_Sort_int SQsortInt g 0 cap A w (abj hh (by rw[Nat.mul_one]at h4;exact h4)) hg.2 hlen;change Ξ ah 200 _ _ _ at Af;refine Af.mono ?_;rintro en w' ⟨rfl,n,os,rfl⟩;refine⟨rfl,A.mergeSort λx y=>decide (x<=y),List.mergeSort_perm _ _,?_,abk (by simp) hbase hh h1 h2 h3,abl _⟩;have:=List.pairwise_mergeSort (le:=λx y:Int=>decide (x<=y)) (λa b c h1 h2=>by simp only[kC]at *; omega) (λa b=>by simp only[Bool.or_eq_true,kC];omega) A;exact this.imp (λh=>by simpa using h)
theorem Ij{Z:List Int}{m}(hm:m<Z.length):Z.toArray[m]! =Z[m]:=by simp[hm]
theorem ash{Z:List Int}(hZ:Z.Pairwise (· <= ·))m(hm:m<=Z.length):(Et Z.toArray m).Pairwise (·<·)/\(∀x,x∈Et Z.toArray m↔x∈Z.take m)/\(Et Z.toArray m).length<=m:=by
 induction m with
 |zero=>exact⟨List.Pairwise.nil,λx=>by simp[Et],Nat.le_refl _⟩
 |succ m ih=>
  obtain⟨h1,h2,h3⟩:=ih (by omega);have hlt:m<Z.length:=by omega
  rw[Lib.compactUpTo_succ,Ij hlt];have TF:=hZ;rw[List.pairwise_iff_getElem]at TF;by_cases hk:Lib.keeps Z.toArray m=ν
  .rw[χ hk];refine⟨?_,λx=>?_,by simp only[List.length_append,List.length_singleton];omega⟩
   .rw[List.pairwise_append];refine⟨h1,List.pairwise_singleton _ _,λa ha b hb=>?_⟩;simp only[List.mem_singleton]at hb;subst hb;obtain⟨j,hj,e⟩:=anX ((h2 a).1 ha);obtain⟨hjl,e⟩:=List.getElem?_eq_some_iff.1 e;subst e;have hne:Z[m]≠Z[m- 1]:=by
     unfold Lib.keeps at hk;simp only[kC]at hk;rcases hk with hk|hk
     .omega
     .rwa[Ij hlt,Ij (by omega:m- 1<Z.length)]at hk
    have h4:=TF (m- 1) m (by omega) hlt (by omega);have h5:Z[j]<=Z[m- 1]:=by
     by_cases e:j=m- 1
     .subst e;exact Int.le_refl _
     .exact TF j (m- 1) hjl (by omega) (by omega)
    omega
   .rw[jZ Z m hlt,List.mem_append,List.mem_append,h2 x]
  .rw[ς hk,List.append_nil];refine⟨h1,λx=>?_,by omega⟩;have h0:0<m:=by
    rcases Nat.eq_zero_or_pos m with e|e
    .subst e;exact absurd (Lib.keeps_lt_one _ 0 (by omega)) hk
    .exact e
   have he:Z[m]=Z[m- 1]:=by
    rcases Decidable.em (Z[m]=Z[m- 1])with e|e
    .exact e
    .exact absurd (Lib.keeps_pos (by rw[Ij hlt,Ij (by omega:m- 1<Z.length)];exact e)) hk
   rw[jZ Z m hlt,List.mem_append,h2 x];constructor
   .exact .inl
   .rintro(h|h)
    .exact h
    .simp only[List.mem_singleton]at h;rw[h,he];(have:(Z.take m)[m- 1]?=θ Z[m- 1]:=by rw[List.getElem?_take_of_lt (by omega),List.getElem?_eq_getElem (by omega)]);exact List.mem_of_getElem? this
theorem asi(Z:List Int):(pW Z).length<=Z.length:=by unfold pW Et;rw[List.length_map];exact Nat.le_trans (List.length_filter_le _ _) (by simp)
theorem asj{A Z:List Int}(hp:Z.Perm A)(hZ:Z.Pairwise (· <= ·)):Ordered A (pW Z):=by obtain⟨h1,h2,h3⟩:=ash hZ Z.length (Nat.le_refl _);exact⟨h1,λx=>by rw[show pW Z=Et Z.toArray Z.length from rfl,h2 x,List.take_length];exact hp.mem_iff,by have:=hp.length_eq;unfold pW;omega⟩
theorem asl{base g}{Z}(hn:Z.length=n)(h:w.ownsRow base e 1 (.slice (θ ⟨g,0,η⟩) n cap) n (Z.map (bM .i64)))(hlen:n<4611686018427387904):Ξ ah 201 #[.slice (θ ⟨g,0,η⟩) n cap] w λen w'=>en=.returned (.slice (θ ⟨g,0,η⟩) (pW Z).length cap)/\jC w' (θ ⟨g,0,η⟩) (pW Z)/\w.grownBy w' (θ g):=by
 subst hn;rcases h.2 with⟨h0,_⟩|⟨g',cap',cur,hv,hbase,hh,h1,h2,h3,h4⟩
 .cases h0
 simp only[jU,Γ,GV,CS,yE]at hv;obtain⟨rfl,rfl⟩:=hv;have Af:=Any.slices_Compact_int SQcompInt g 0 cap Z w (abj hh (by rw[Nat.mul_one]at h4;exact h4)) (by omega) h1;change Ξ ah 201 _ _ _ at Af;refine Af.mono ?_;rintro en w' ⟨rfl,q,rfl⟩;have hle:(pW Z).length<=Z.length:=asi Z;have ho:=abk (n:=q) (os:=#[]) (ss:=Z) (ts:=pW Z++List.replicate (Z.length-(pW Z).length) 0) (by simp;omega) hbase hh h1 h2 h3;have kH:=abl (w:=w) (g:=g) (n:=q) (os:=#[]) (pW Z++List.replicate (Z.length-(pW Z).length) 0).toArray;rw[Sort.grow_empty]at ho kH;refine⟨rfl,?_,kH⟩;by_cases h0:pW Z=[]
 .exact .inl h0
 refine .inr ⟨g,0,rfl,(ho.lt g rfl).2,λj hj=>?_⟩;rw[Nat.zero_add,ho.cellAt j (by omega),List.getElem?_map,List.getElem?_append_left hj,List.getElem?_eq_getElem hj,List.getD_eq_getElem?_getD,List.getElem?_eq_getElem hj];rfl
theorem asm w:Ξ ah 201 #[.slice η 0 0] w λen w'=>en=.returned (.slice η 0 0)/\w'=w:=by go_enter alG,ntmps201;go_wp2;go_ret;exact⟨rfl,rfl⟩
theorem asn w:Ξ ah 200 #[.slice η 0 0] w λen w'=>en=.returned (.tuple #[])/\w'=w:=by have Af:=Any.slices_Sort_int_none SQsortInt η 0 w;change Ξ ah 200 _ _ _ at Af;exact Af
theorem acZ{p:Prop}(h:p):Hid p:=h
theorem aso ao cap A w(hz:jC w ao A)(h8:A.length<=800):Ξ ah 199 #[.slice ao A.length cap] w λe w'=>∃v',e=.returned v'/\w'.ownsRow w.heap.size 3 1 v' A.length (A.map (bM .i64))/\Below w.heap.size w w':=by
 obtain⟨i0,hi,cg,hz1,bX⟩:=er Tryz.ua;have asp:∀(w:υ) (a:Option Addr) (n c n' c':Nat),(binOp .eql 50 (.slice a n c) (.slice η n' c')).run ah w=.ok (.bool a.isNone) w:=λw a n c n' c'=>Lib.run_eql_slice_nil w _ _ a n c n' c' ((cD 50).trans underlying50);cases ao with
 |none=>
  have h0:A=[]:=by
   rcases hz with h|⟨b,off,e,_⟩
   .exact h
   .cases e
  subst h0;clear hz;go_enter YH,ntmps199;go_wp2;go_ret;exact⟨_,rfl,dJ _ _ _ _,Below.refl _ _⟩
 |some a=>
  have hc:∀o,∀j u,(A.map (bM .i64))[j]?=θ u->(w.alloc o).cell? (a.add j)=θ u:=by
   intro o j u hu;(have hj:j<A.length:=by have:=(List.getElem?_eq_some_iff.1 hu).1;simpa using this);rcases hz.below (cw w o)with h|⟨b,off,e,_,hc⟩
   .rw[h]at hj;simp at hj
   .simp only[Γ]at e;subst e;rw[Go.WideShapes.add_plain,hc j hj];rw[List.getElem?_map,List.getElem?_eq_getElem hj]at hu;simp only[nK,Γ]at hu;rw[<-hu,List.getD_eq_getElem?_getD,List.getElem?_eq_getElem hj];rfl
  have ak:=acZ hc;have TG:Hid (∀u∈A.map (bM .i64),u.oneCell'=ν):=by intro u hu;rw[List.mem_map]at hu;obtain⟨z,_,rfl⟩:=hu;rfl
  have TH:Hid ((A.map (bM .i64)).length=A.length*1):=by show _=_;simp
  clear hc hz;go_enter YH,ntmps199;go_wp2_with(at_builtin;refine x7 _ rfl _ _ 50 rfl w.heap.size 3 i0 (.int .i64 0) 1 8 ((cD 50).trans underlying50) hi cg hz1 bX rfl (by decide) _ _ _ rfl (World.ownsRow_made w #[] 0 (Nat.le_refl _) (Nat.zero_le _) rfl) a A.length cap (A.map (bM .i64)) rfl TH.out (ak.out _) TG.out (by unfold maxLen;omega) (by omega) (by simp) ?_;intro v' w1 hown hgrow hnil);have hb:Below w.heap.size w w1:=((Below.refl _ w).alloc (Nat.le_refl _) _).grown hgrow (by simp) (λk hk=>by cases hk;exact Nat.le_refl _);have R:w1.ownsRow w.heap.size 3 1 v' A.length (A.map (bM .i64)):=by simpa using hown
  clear hown hgrow hnil;go_wp2;go_ret;exact⟨v',rfl,R,hb⟩
def oT(S:List Int)(j:Nat):List (Int×Int):=(List.range j).map λi=>(S.getD i 0,S.getD (i+1) 0)
theorem Ag S j:(oT S j).length=j:=by simp[oT]
theorem ac0 S j k(h:k<j)(hS:k+1<S.length):(oT S j).getD k (0,0)=(S[k],S[k+1]):=by simp[oT,List.getD_eq_getElem?_getD,h,hS,show k<S.length by omega]
theorem asq S j(h:j+1<S.length):gp (oT S (j+1))=gp (oT S j)++[.int .i64 S[j],.int .i64 S[j+1]]:=by unfold oT;rw[List.range_succ,List.map_append];unfold gp flat;rw[List.flatMap_append,List.map_append];simp[List.getD_eq_getElem?_getD,h,show j<S.length by omega]
theorem ac1 ao ca A w(hz:jC w ao A)(h8:A.length<=800):Ξ ah 192 #[.slice ao A.length ca] w λe w'=>∃S v,e=.returned v/\Ordered A S/\w'.ownsRow w.heap.size 109 2 v (S.length- 1) (gp (oT S (S.length- 1)))/\Below w.heap.size w w':=by
 obtain⟨i0,hi,cg,hz1,bX⟩:=er Tryz.Y7;have hcl:=aso ao ca A w hz h8;clear hz;go_enter alC,ntmps192;go_wp2_with fail;refine hcl.mono ?_;rintro e w0 ⟨v0,rfl,dL,hb0⟩;clear hcl;have hcase:=dL.2;rcases hcase with⟨rfl,h0⟩|⟨g,cap,cur,rfl,_⟩
 .have hA:A=[]:=List.eq_nil_of_length_eq_zero h0;have hs:=λW=>asn W;have hk:=λW=>asm W;have ck:Hid (Ordered A []):=by rw[hA];exact⟨List.Pairwise.nil,λx=>Iff.rfl,Nat.le_refl _⟩
  clear dL h0 hA;go_wp2_with(first|(go_at_call 200;refine(hs _).mono ?_;rintro e w' ⟨rfl,rfl⟩)|(go_at_call 201;refine(hk _).mono ?_;rintro e w' ⟨rfl,rfl⟩));refine wp_loop_rounds 1 ?_;rw[rounds_succ];go_wp2;go_ret;exact⟨[],_,rfl,ck.out,dJ _ _ _ _,by assumption⟩
 .have ac2:=(dL.lt g rfl).1;have hsort:=asg dL (by omega);clear dL;go_wp2_with fail;refine hsort.mono ?_;rintro e w1 ⟨rfl,Z,TI,hZ,fP,hg1⟩;have aj:Below w.heap.size w w1:=hb0.grown hg1 hb0.size (λk hk=>by cases hk;exact ac2);have hcomp:=asl TI.length_eq fP (by omega);have ck:Hid (Ordered A (pW Z)):=asj TI hZ;clear TI hZ fP hg1 hsort hb0;generalize pW Z=S at ck hcomp;have MG:S.length<=800:=Nat.le_trans ck.out.len h8;go_wp2_with fail;refine hcomp.mono ?_;rintro e w2 ⟨rfl,MH,hg2⟩;have aq:Below w.heap.size w w2:=aj.grown hg2 aj.size (λk hk=>by cases hk;exact ac2);clear hg2 aj hcomp;go_wp2_with fail;go_loopw [4,5] (λv vi wr=>∃(j:Nat),vi=.int .i64 ((j:Int)+1)/\(j=0\/j+1<=S.length)/\wr.ownsRow w2.heap.size 109 2 v j (gp (oT S j))/\Below w2.heap.size w2 wr) (λ_ vi _=>S.length+1-(intOf vi).toNat)
  case atStart=>exact⟨0,rfl,.inl rfl,dJ _ _ _ _,Below.refl _ _⟩
  case round=>
   obtain⟨j,rfl,hil,hown,hb⟩:=hrel;(have aAv:j<=800:=by omega);have hsz:=hb.size;by_cases hlt:j+1<S.length
   .rcases MH with h0|⟨b,off,e0,bQ,hc⟩
    .subst h0;simp at hlt
    (simp only[Γ,GV,CS]at e0;obtain⟨rfl,rfl⟩:=e0;have c0:wr.cell? ⟨g,j,η⟩=θ (.int .i64 S[j]):=by have:=hc j (by omega);rw[Nat.zero_add]at this;rw[hb.cell (p:=⟨g,j,η⟩) bQ,this,List.getD_eq_getElem?_getD,List.getElem?_eq_getElem (by omega)];rfl);(have c1:wr.cell? ⟨g,j+1,η⟩=θ (.int .i64 S[j+1]):=by have:=hc (j+1) (by omega);rw[Nat.zero_add]at this;rw[hb.cell (p:=⟨g,j+1,η⟩) bQ,this,List.getD_eq_getElem?_getD,List.getElem?_eq_getElem (by omega)];rfl);have bx:=acZ (asq S j hlt);(have hne:θ g≠u4.ownBlock:=λh=>by have:=(hown.lt g h.symm).1;omega);(have cp:g<wr.heap.size:=by omega);(have hi1:(j:Int)+1<(S.length:Int):=by omega);(have hi2:(j:Int)<(S.length:Int):=by omega);(have aAw:(0:Int)<=(j:Int):=by omega);(have hi4:(0:Int)<=(j:Int)+1:=by omega);(have hw1:IntKind.i64.wrap ((j:Int)+1- 1)=(j:Int):=by rw[Int.add_sub_cancel];exact uj _ (by omega) (by omega));have cc:IntKind.i64.wrap (j:Int)=(j:Int):=uj _ (by omega) (by omega);have aD:Hid (∀(o:Obj) (w1:υ),((wr.alloc o).drew).grownBy w1 u4.ownBlock->Below w2.heap.size w2 w1):=λo w1 kH=>((hb.alloc hsz o).drew).grown kH (by simp;omega) (λj hj=>(hown.lt j hj).1);clear hc;go_wp2
    go_region_held3 (λw'=>w'.cell? ⟨g, j, η⟩=θ (.int .i64 S[j])/\w'.cell? ⟨g, j+1, η⟩=θ (.int .i64 S[j+1]))
     (first
      |go_keep
      |(go_split_ands;refine⟨?_,?_⟩;(rw[hgrow.cell_far _ (by simp;omega) hne];assumption);(rw[hgrow.cell_far _ (by simp;omega) hne];assumption)))
     ((refine DY _ (by rfl) _ _ _ (by rfl) w2.heap.size 109 i0 _ 2 16 ((cD 56).trans underlying56) hi cg hz1 bX rfl (by omega) u4 j (gp (oT S j)) (by rfl) ((hown.alloc _).drew) ⟨wr.heap.size,0,η⟩ 1 1 [.int .i64 S[j],.int .i64 S[j+1]] (by rfl) (by rfl) (nR (cs:=#[.int .i64 S[j],.int .i64 S[j+1]]) (t:=109) (fr:=(0,0)) (heap_alloc_new wr _)) (by simp[zo]) (by omega) (by unfold maxLen;omega) (by omega) (by simp;omega) (wr.heap.size+1) (by simp) ?_;intro gg dm w3 fP hgrow hat jl))
    have hb':=aD.out _ _ hgrow;rw[<-bx.out]at fP;clear hgrow hown hat jl hne;go_wp2;go_roundw
    case rel=>exact⟨j+1,by go_num,.inr (by omega),fP,hb'⟩
    case measure=>simp[intOf];omega
   ·((have ac3 :j=S.length- 1:=by omega);have bI:Hid (wr.ownsRow w.heap.size 109 2 u4 (S.length- 1) (gp (oT S (S.length- 1)))):=by show x9 _ _ _ _ _ _ _;rw[<-ac3];exact gJ hown aq.size);have iq:=bJ aq hb;(have hi1:¬((j:Int)+1<(S.length:Int)):=by omega);clear hown ac3 MH;go_wp2;go_ret;exact⟨S,_,rfl,ck.out,bI.out,iq⟩
theorem asr{f}{y}{out}(hi:i+1<S.length)(hS:S.Pairwise (·<·))(T:oO S f i out)(hp:f S[i]=θ y):oO S f (i+1) (ext out (S[i],S[i+1],y)):=by
 rcases List.eq_nil_or_concat out with h0|⟨o,q,h0⟩
 .subst h0;exact Z2 hi hS T hp (λq h=>by simp at h)
 .rw[List.concat_eq_append]at h0;subst h0;have hle:=an9 hi hS T (q:=q) (by simp);cases hf:vP q (S[i],S[i+1],y)with
  |true=>
   rw[acU hf];exact Z2 hi hS T hp (λr h=>by simp at h;subst h;exact(Lx _ _).1 hf)
  |false=>
   rw[acV hf];(have hn:¬qv q (S[i],S[i+1],y):=by rw[<-Lx,hf];decide);unfold qv at hn;simp only[not_or,not_and,tq]at hn;(have h1:q.2.1=S[i]:=by omega);exact aoa hi hS T hp h1 (hn.2 h1)
theorem EO{base base' size}{v}(h:w.ownsRow base e size v n xs)(hb:base'<=base):w.ownsRow base' e size v n xs:=
 ⟨h.1,h.2.imp id (λ⟨g,c,cur,h1,h2,h3⟩=>⟨g,c,cur,h1,Nat.le_trans hb h2,h3⟩)⟩
theorem agM g caps f(oc:∀args w,(gX g args).run ah w=.ok (.enter g args) w)ef w(hW:Below ef.heap.size ef w)A(hp:∀t,t∈A->(∃u∈A,t<u)->∀cj,Below ef.heap.size ef cj->Ξ ah g (#[.int .i64 t]++caps) cj λe w'=>(∃x,e=.returned (.tuple #[.int .i64 x,.bool (f t).isSome])/\∀y,f t=θ y->x=y)/\Below cj.heap.size cj w')ao ca(hz:jC w ao A)(h8:A.length<=800):Ξ ah 175 #[.slice ao A.length ca,.func (.func g) #[] caps] w λe w'=>∃n r v',uy A f n r/\e=.returned (.tuple #[v',.int .i64 n])/\w'.ownsRow ef.heap.size 176 3 v' r.length (bV r)/\Below ef.heap.size ef w':=by
 have bU:Hid (∀t,t∈A->(∃u∈A,t<u)->∀cj,Below ef.heap.size ef cj->Ξ ah g (#[.int .i64 t]++caps) cj λe w'=>(∃x,e=.returned (.tuple #[.int .i64 x,.bool (f t).isSome])/\∀y,f t=θ y->x=y)/\Below cj.heap.size cj w'):=hp;have hsp:=ac1 ao ca A w hz h8;clear hp hz;go_enter alv,ntmps175;go_wp2_with fail;refine hsp.mono ?_;rintro e w2 ⟨S,v0,rfl,b8,dL,hb0⟩;have ck:Hid (Ordered A S):=b8;have MG:S.length<=800:=Nat.le_trans b8.len h8;have aq:Below ef.heap.size ef w2:=bJ hW hb0;obtain⟨N,hN⟩:∃N,N=S.length- 1:=⟨_,rfl⟩;rw[<-hN]at dL;have aR:Hid (N=S.length- 1):=hN;have Cj:N<=800:=by omega
 have fP:w2.ownsRow w.heap.size 109 2 v0 (oT S N).length (gp (oT S N)):=by rw[Ag];exact dL
 obtain⟨so,sc,hv0,Ik⟩:=GP fP;rw[Ag]at hv0;subst hv0;have Ck:Hid (eg w2 so (oT S N)):=Ik;clear b8 hsp hW hb0 dL fP Ik hN;go_wp2_with fail;go_loopw [6,9,10,14] (λv _ _ vi wr=>∃(j:Nat) (out:List (Int×Int×Int)),vi=.int .i64 j/\j<=N/\oO S f j out/\wr.ownsRow w2.heap.size 176 3 v out.length (bV out)/\Below w2.heap.size w2 wr) (λ_ _ _ vi _=>N-(intOf vi).toNat)
 case atStart=>exact⟨0,[],rfl,Nat.zero_le _,an7 S f,dJ _ _ _ _,Below.refl _ _⟩
 case round=>
  obtain⟨j,out,rfl,ass,hT,hown,hb⟩:=hrel;have aX:Hid (oO S f j out):=hT;have hol:=hT.len;clear hT;have iq:Below ef.heap.size ef wr:=aq.trans (hb.mono aq.size);by_cases hlt:j<N
  ·(have Ah:j+1<S.length:=by have:=aR.out;omega);rcases Ck.out.below hb with h0|⟨b,off,rfl,bQ,hc⟩
   .have:=Ag S N;rw[h0]at this;simp at this;omega
   have Il:=hc j (by rw[Ag];exact hlt);rw[ac0 S N j hlt Ah]at Il;obtain⟨c0,c1⟩:=Il;simp only at c0 c1;have hsz:=hb.size;have bS:Hid (∀o,Below wr.heap.size wr (wr.alloc o)):=λo=>cw wr o;have hcl:=bU.out S[j] ((ck.out.mem _).1 (List.getElem_mem _)) ⟨S[j+1],(ck.out.mem _).1 (List.getElem_mem Ah),List.pairwise_iff_getElem.1 ck.out.inc j (j+1) (by omega) Ah (by omega)⟩ (wr.alloc (.cells #[.int .i64 S[j],.int .i64 S[j+1]] 109)) (bJ iq (cw _ _));have kU:Hid (∀W,Below wr.heap.size wr W->W.ownsRow w2.heap.size 176 3 u6 out.length (bV out)/\Below w2.heap.size w2 W):=λW h=>⟨cE hown h,hb.trans (h.mono hb.size)⟩;clear hc hown hb Ck;cases rU:f S[j]with
   |none=>
    rw[rU]at hcl;simp only[ic]at hcl;have B8:Hid (oO S f (j+1) out):=an8 Ah aX.out rU;clear rU;go_wp2_with(go_at_fn g;refine hcl.mono ?_;rintro e w3 ⟨⟨x,rfl,_⟩,aB⟩);have F:=kU.out w3 (bJ (bS.out _) aB);go_roundw
    case rel=>exact⟨j+1,out,by go_num,by omega,B8.out,F.1,F.2⟩
    case measure=>simp[intOf];omega
   |some y=>
    (rw[rU]at hcl;simp only[gu]at hcl;have B8:Hid (oO S f (j+1) (ext out (S[j],S[j+1],y))):=asr Ah ck.out.inc aX.out rU;have kV:Hid (∀W,Below wr.heap.size wr W->Ξ ah 195 #[u6,.agg #[.int .i64 S[j],.int .i64 S[j+1],.int .i64 y]] W λe w'=>∃v',e=.returned v'/\w'.ownsRow w2.heap.size 176 3 v' (ext out (S[j],S[j+1],y)).length (bV (ext out (S[j],S[j+1],y)))/\Below w2.heap.size w2 w'):=by intro W h;obtain⟨o1,o2⟩:=kU.out W h;refine(asb w2.heap.size u6 out (S[j],S[j+1],y) W o1 o2.size (by omega)).mono ?_;rintro e w' ⟨v',rfl,a1,a2⟩;exact⟨v',rfl,a1,o2.trans a2⟩);clear rU;go_wp2_with fail;go_at_fn g;refine hcl.mono ?_;rintro e w3 ⟨⟨x,rfl,hx⟩,aB⟩;have hxy:=hx y rfl;subst hxy;have lX:=bJ (bS.out _) aB;have TJ:=kV.out w3 lX;(have d0:w3.cell? ⟨wr.heap.size,0,η⟩=θ (.int .i64 S[j]):=by rw[aB.cell (p:=⟨wr.heap.size,0,η⟩) (by simp)];simp);(have d1:w3.cell? ⟨wr.heap.size,1,η⟩=θ (.int .i64 S[j+1]):=by rw[aB.cell (p:=⟨wr.heap.size,1,η⟩) (by simp)];simp);clear hx hcl aB kU;go_wp2_with(go_at_call 195;refine TJ.mono ?_;rintro e w4 ⟨v4,rfl,rK,hb4⟩);go_roundw
    case rel=>exact⟨j+1,_,by go_num,by omega,B8.out,rK,hb4⟩
    case measure=>simp[intOf];omega
  ·((have hjn:j=N:=by omega);have hfit:=asf w2.heap.size u6 out wr hown (by omega);have fG:Hid (∀n r,Ae out n r->uy A f n r):=by intro n r h;have:=aX.out;rw[hjn,aR.out]at this;exact⟨S,out,ck.out,this,h⟩);have ast:=aq.size;subst hjn;clear hown Ck;go_wp2_with fail;refine hfit.mono ?_;rintro e aO ⟨n,r,v5,hF,rfl,iE,bT⟩;have aJ:=fG.out n r hF;have asu:Hid (uy A f n r):=aJ;have cz:Below ef.heap.size ef aO:=bJ iq bT;have R:=EO iE ast;clear hF aJ iE hfit;go_wp2;go_ret2;exact⟨n,r,v5,asu.out,rfl,R,cz⟩
theorem asv g caps f(oc:∀args w,(gX g args).run ah w=.ok (.enter g args) w)ef w(hW:Below ef.heap.size ef w)(hp:∀t cj,Below ef.heap.size ef cj->Ξ ah g (#[.int .i64 t]++caps) cj λe w'=>(∃x,e=.returned (.tuple #[.int .i64 x,.bool (f t).isSome])/\∀y,f t=θ y->x=y)/\Below cj.heap.size cj w')ao ca A(hz:jC w ao A)(h8:A.length<=800):Ξ ah 175 #[.slice ao A.length ca,.func (.func g) #[] caps] w λe w'=>∃n r v',uy A f n r/\e=.returned (.tuple #[v',.int .i64 n])/\w'.ownsRow ef.heap.size 176 3 v' r.length (bV r)/\Below ef.heap.size ef w':=
 agM g caps f oc ef w hW A (λt _ _=>hp t) ao ca hz h8
theorem TK g caps f(oc:∀args w,(gX g args).run ah w=.ok (.enter g args) w)ef w(hW:Below ef.heap.size ef w)(hp:∀t cj,Below ef.heap.size ef cj->Ξ ah g (#[.int .i64 t]++caps) cj λe w'=>(∃x,e=.returned (.tuple #[.int .i64 x,.bool (f t).isSome])/\∀y,f t=θ y->x=y)/\Below cj.heap.size cj w')aT ca A(hown:w.ownsRow ef.heap.size 3 1 (.slice (θ ⟨aT,0,η⟩) A.length ca) A.length (A.map (bM .i64)))(h8:A.length<=800):Ξ ah 175 #[.slice (θ ⟨aT,0,η⟩) A.length ca,.func (.func g) #[] caps] w λe w'=>∃n r v',uy A f n r/\e=.returned (.tuple #[v',.int .i64 n])/\w'.ownsRow ef.heap.size 176 3 v' r.length (bV r)/\Below ef.heap.size ef w':=by obtain⟨ao,cap,he,hz⟩:=GO hown;simp only[jU,yE]at he;obtain⟨rfl,rfl⟩:=he;exact asv g caps f oc ef w hW hp _ _ A hz h8
theorem nU ao cap m w(hl:cm w ao m)(h3:m.length<=200):Ξ ah 176 #[.slice ao m.length cap] w λe w'=>∃g,e=.returned (.slice (θ ⟨g,0,η⟩) (2*m.length) (2*m.length))/\w'.ownsRow w.heap.size 3 1 (.slice (θ ⟨g,0,η⟩) (2*m.length) (2*m.length)) (2*m.length) ((bO m).map (bM .i64))/\Below w.heap.size w w':=by
 obtain⟨i0,hi,cg,hz1,bX⟩:=er Tryz.ua;go_enter alw,ntmps176;go_wp2_with(at_make;refine wpList_make_own _ rfl _ _ 50 rfl w.heap.size 3 i0 (.int .i64 0) 1 ((cD 50).trans underlying50) hi cg hz1 .i64 .i64 _ (2*m.length) rfl rfl (by omega) (by rw[bX];omega) (by unfold maxLen;omega) (Nat.le_refl _) ?_;intro w0 dL j9);go_loopw [3,12] (λv i wr=>∃k:Nat,k<=m.length/\i=.int .i64 k/\v=.slice (θ ⟨w.heap.size,0,η⟩) (2*k) (2*m.length)/\wr.ownsRow w.heap.size 3 1 (.slice (θ ⟨w.heap.size,0,η⟩) (2*k) (2*m.length)) (2*k) ((bO (m.take k)).map (bM .i64))/\Below w.heap.size w wr) (λ_ i _=>m.length-(intOf i).toNat)
 case atStart=>exact⟨0,Nat.zero_le _,rfl,rfl,by assumption,(Below.refl _ _).grown (by assumption) (Nat.le_refl _) (λk hk=>by cases hk)⟩
 case round=>
  obtain⟨k,hk,rfl,rfl,hown,hb⟩:=hrel;by_cases hlt:k<m.length
  .rcases hl.below hb with h0|⟨b,off,rfl,bQ,hc⟩
   .subst h0;simp at hlt
   obtain⟨c0,c1,c2⟩:=cm.get hlt hc;have hsz:=hb.size;go_wp2_with(at_builtin;refine wpList_append_fits _ rfl _ _ 50 rfl w.heap.size 3 i0 1 ((cD 50).trans underlying50) hi hz1 w.heap.size (2*k) (2*m.length) _ rfl ((hown.alloc _).alloc _) ⟨wr.heap.size+1,0,η⟩ 2 2 [.int .i64 m[k].1,.int .i64 m[k].2.1] rfl rfl ?c1 ?c2 ?c3 ?_)
   case c1=>exact Lc _ _ _ _ _ (by simp)
   case c2=>intro u hu;simp at hu;rcases hu with rfl|rfl<;>rfl
   case c3=>omega
   (intro w1 jK hgrow;have R:w1.ownsRow w.heap.size 3 1 (.slice (θ ⟨w.heap.size,0,η⟩) (2*(k+1)) (2*m.length)) (2*(k+1)) ((bO (m.take (k+1))).map (bM .i64)):=by rw[RO m k hlt,List.map_append];exact jK);have hb':=((hb.alloc hsz _).alloc (by simp;omega) _).grown hgrow (by simp;omega) (λj hj=>(hown.lt j hj).1);go_wp2;go_roundw
   case rel=>exact⟨k+1,by omega,by go_num,rfl,R,hb'⟩
   case measure=>simp[intOf];omega
  ·(have bp:k=m.length:=by omega);subst bp;rw[List.take_length]at hown;go_wp2;go_ret;exact⟨_,rfl,hown,hb⟩
theorem Io ao cap m w(hl:cm w ao m):Ξ ah 170 #[.slice ao m.length cap] w λe w'=>e=.returned (.int .i64 (bZ m))/\Below w.heap.size w w':=by
 by_cases h2:200<m.length
 .have ak:Hid (bZ m=2):=anZ h2;go_enter YE,ntmps170;go_wp2;go_ret;exact⟨dS ak.out.symm,Below.refl _ _⟩
 .have h3:m.length<=200:=by omega
  go_enter YE,ntmps170;go_wp2;go_loopw [3,10] (λ_ i wr=>∃k:Nat,k<=m.length/\i=.int .i64 k/\oN m k/\Below w.heap.size w wr) (λ_ i _=>m.length-(intOf i).toNat)
  case atStart=>exact⟨0,Nat.zero_le _,rfl,λi hi=>absurd hi (Nat.not_lt_zero _),Below.refl _ _⟩
  case round=>
   obtain⟨k,hk,rfl,hn,hb⟩:=hrel;have aR:Hid (oN m k):=hn;clear hn;by_cases hlt:k<m.length
   .rcases hl.below hb with h0|⟨b,off,rfl,bQ,hc⟩
    .subst h0;simp at hlt
    obtain⟨c0,c1,c2⟩:=cm.get hlt hc;have cH:Hid (m.getD k (0,0,0)=m[k]):=Tz hlt;have Cl:Hid (∀W,Ξ ah 174 #[.agg #[.int .i64 m[k].1,.int .i64 m[k].2.1,.int .i64 m[k].2.2]] W λe w'=>e=.returned (.bool (Ac m[k].1 m[k].2.1 m[k].2.2))/\Below W.heap.size W w'):=λW=>Ty m[k].1 m[k].2.1 m[k].2.2 W;have cy:Hid (∀w1,Below (wr.alloc (.cells #[.int .i64 m[k].1,.int .i64 m[k].2.1,.int .i64 m[k].2.2] 176)).heap.size (wr.alloc (.cells #[.int .i64 m[k].1,.int .i64 m[k].2.1,.int .i64 m[k].2.2] 176)) w1->qj w wr w1 b (off+k*3) m[k] m[k]):=λw1 h=>TA hb bQ c0 c1 c2 h;by_cases n1:dW m[k]
    .have e1:=(Ad m[k]).2 n1;rw[e1]at Cl;by_cases g1:m[k].2.1<=m[k].1
     .have ak:Hid (bZ m=5):=RN (k:=k) h3 hlt (by unfold Sound;rw[cH.out];rintro⟨_,h,_⟩;omega);(have d1:decide (m[k].2.1<=m[k].1)=true:=by simpa using g1);clear hc hl n1 e1 hb;go_wp2_with fail;generalize wr.alloc (.cells #[.int .i64 m[k].1,.int .i64 m[k].2.1,.int .i64 m[k].2.2] 176)=bF at cy ⊢;have f0:∀s:bf bF,s.w.cell? ⟨wr.heap.size,0,η⟩=θ (.int .i64 m[k].1):=λs=>(cy.out _ s.h).k0;have f1:∀s:bf bF,s.w.cell? ⟨wr.heap.size,1,η⟩=θ (.int .i64 m[k].2.1):=λs=>(cy.out _ s.h).k1;have f2:∀s:bf bF,s.w.cell? ⟨wr.heap.size,2,η⟩=θ (.int .i64 m[k].2.2):=λs=>(cy.out _ s.h).k2;have hne:Nonempty (bf bF):=⟨⟨bF,Below.refl _ _⟩⟩;refine wp_region_held bF (Below.refl _ _) (by kernel_rfl) (by kernel_rfl) ?_;(repeat (go_big_quiet_step ((first|(go_at_call 174;exact mI (Cl.out _))|(go_at_call 189;exact mI (qM.out _))))));refine pq ?_;rintro _ ⟨s,rfl⟩;have fS:=(cy.out _ s.h).aQ;generalize s.w=w1 at fS ⊢;go_wp2;go_ret;exact⟨dS ak.out.symm,fS⟩
     ·(have d1:decide (m[k].2.1<=m[k].1)=false:=by simpa using g1);by_cases hk0:k=0
      .subst hk0;simp only[Nat.zero_mul,Nat.add_zero]at c0 c1 c2;have aU:Hid (oN m (0+1)):=ZW aR.out ⟨by rw[cH.out];exact n1,by rw[cH.out];omega,λh=>absurd h (Nat.lt_irrefl _)⟩;clear hc hl n1 e1 hb;go_wp2_with fail;generalize wr.alloc (.cells #[.int .i64 m[0].1,.int .i64 m[0].2.1,.int .i64 m[0].2.2] 176)=bF at cy ⊢;have f0:∀s:bf bF,s.w.cell? ⟨wr.heap.size,0,η⟩=θ (.int .i64 m[0].1):=λs=>(cy.out _ s.h).k0;have f1:∀s:bf bF,s.w.cell? ⟨wr.heap.size,1,η⟩=θ (.int .i64 m[0].2.1):=λs=>(cy.out _ s.h).k1;have f2:∀s:bf bF,s.w.cell? ⟨wr.heap.size,2,η⟩=θ (.int .i64 m[0].2.2):=λs=>(cy.out _ s.h).k2;have hne:Nonempty (bf bF):=⟨⟨bF,Below.refl _ _⟩⟩;refine wp_region_held bF (Below.refl _ _) (by kernel_rfl) (by kernel_rfl) ?_;(repeat (go_big_quiet_step ((first|(go_at_call 174;exact mI (Cl.out _))|(go_at_call 189;exact mI (qM.out _))))));refine pq ?_;rintro _ ⟨s,rfl⟩;have fS:=(cy.out _ s.h).aQ;generalize s.w=w1 at fS ⊢;go_wp2;go_roundw
       case rel=>exact⟨0+1,by omega,by go_num,aU.out,fS⟩
       case measure=>simp[intOf];omega
      .obtain⟨j,rfl⟩:∃j,k=j+1:=⟨k- 1,by omega⟩;(have hj:j<m.length:=by omega);obtain⟨p0,p1,p2⟩:=cm.get hj hc;(have ac4:Hid (m.getD (j+1- 1) (0,0,0)=m[j]):=by show _=_;rw[Nat.add_sub_cancel];exact Tz hj);clear cy;have cy:Hid (∀w1,Below (wr.alloc (.cells #[.int .i64 m[j+1].1,.int .i64 m[j+1].2.1,.int .i64 m[j+1].2.2] 176)).heap.size (wr.alloc (.cells #[.int .i64 m[j+1].1,.int .i64 m[j+1].2.1,.int .i64 m[j+1].2.2] 176)) w1->qj w wr w1 b (off+j*3) m[j+1] m[j]):=λw1 h=>TA hb bQ p0 p1 p2 h;have qM:Hid (∀W,Ξ ah 189 #[.agg #[.int .i64 m[j].1,.int .i64 m[j].2.1,.int .i64 m[j].2.2],.agg #[.int .i64 m[j+1].1,.int .i64 m[j+1].2.1,.int .i64 m[j+1].2.2]] W λe w'=>e=.returned (.bool (vP m[j] m[j+1]))/\Below W.heap.size W w'):=λW=>acT m[j].1 m[j].2.1 m[j].2.2 m[j+1].1 m[j+1].2.1 m[j+1].2.2 W;(have aAx:(0:Int)<=(j:Int):=by omega);(have hj2:(j:Int)<(m.length:Int):=by omega);by_cases g2:qv m[j] m[j+1]
       .have aU:Hid (oN m (j+1+1)):=ZW aR.out ⟨by rw[cH.out];exact n1,by rw[cH.out];omega,λ_=>by rw[cH.out,ac4.out];exact g2⟩;rw[(Lx _ _).2 g2]at qM;clear hc hl n1 e1 hb g2;go_wp2_with fail;generalize wr.alloc (.cells #[.int .i64 m[j+1].1,.int .i64 m[j+1].2.1,.int .i64 m[j+1].2.2] 176)=bF at cy ⊢;have f0:∀s:bf bF,s.w.cell? ⟨wr.heap.size,0,η⟩=θ (.int .i64 m[j+1].1):=λs=>(cy.out _ s.h).k0;have f1:∀s:bf bF,s.w.cell? ⟨wr.heap.size,1,η⟩=θ (.int .i64 m[j+1].2.1):=λs=>(cy.out _ s.h).k1;have f2:∀s:bf bF,s.w.cell? ⟨wr.heap.size,2,η⟩=θ (.int .i64 m[j+1].2.2):=λs=>(cy.out _ s.h).k2;have q0:∀s:bf bF,s.w.cell? ⟨b,off+j*3,η⟩=θ (.int .i64 m[j].1):=λs=>(cy.out _ s.h).q0;have q1:∀s:bf bF,s.w.cell? ⟨b,off+j*3+1,η⟩=θ (.int .i64 m[j].2.1):=λs=>(cy.out _ s.h).q1;have q2:∀s:bf bF,s.w.cell? ⟨b,off+j*3+2,η⟩=θ (.int .i64 m[j].2.2):=λs=>(cy.out _ s.h).q2;have hne:Nonempty (bf bF):=⟨⟨bF,Below.refl _ _⟩⟩;refine wp_region_held bF (Below.refl _ _) (by kernel_rfl) (by kernel_rfl) ?_;(repeat (go_big_quiet_step ((first|(go_at_call 174;exact mI (Cl.out _))|(go_at_call 189;exact mI (qM.out _))))));refine pq ?_;rintro _ ⟨s,rfl⟩;have fS:=(cy.out _ s.h).aQ;generalize s.w=w1 at fS ⊢;go_wp2;go_roundw
        case rel=>exact⟨j+1+1,by omega,by go_num,aU.out,fS⟩
        case measure=>simp[intOf];omega
       .have ak:Hid (bZ m=5):=RN (k:=j+1) h3 hlt (by unfold Sound;rw[cH.out,ac4.out];rintro⟨_,_,h⟩;exact g2 (h (by omega)));rw[show vP m[j] m[j+1]=ο from by rw[<-Bool.not_eq_true,Lx];exact g2]at qM;clear hc hl n1 e1 hb g2;go_wp2_with fail;generalize wr.alloc (.cells #[.int .i64 m[j+1].1,.int .i64 m[j+1].2.1,.int .i64 m[j+1].2.2] 176)=bF at cy ⊢;have f0:∀s:bf bF,s.w.cell? ⟨wr.heap.size,0,η⟩=θ (.int .i64 m[j+1].1):=λs=>(cy.out _ s.h).k0;have f1:∀s:bf bF,s.w.cell? ⟨wr.heap.size,1,η⟩=θ (.int .i64 m[j+1].2.1):=λs=>(cy.out _ s.h).k1;have f2:∀s:bf bF,s.w.cell? ⟨wr.heap.size,2,η⟩=θ (.int .i64 m[j+1].2.2):=λs=>(cy.out _ s.h).k2;have q0:∀s:bf bF,s.w.cell? ⟨b,off+j*3,η⟩=θ (.int .i64 m[j].1):=λs=>(cy.out _ s.h).q0;have q1:∀s:bf bF,s.w.cell? ⟨b,off+j*3+1,η⟩=θ (.int .i64 m[j].2.1):=λs=>(cy.out _ s.h).q1;have q2:∀s:bf bF,s.w.cell? ⟨b,off+j*3+2,η⟩=θ (.int .i64 m[j].2.2):=λs=>(cy.out _ s.h).q2;have hne:Nonempty (bf bF):=⟨⟨bF,Below.refl _ _⟩⟩;refine wp_region_held bF (Below.refl _ _) (by kernel_rfl) (by kernel_rfl) ?_;(repeat (go_big_quiet_step ((first|(go_at_call 174;exact mI (Cl.out _))|(go_at_call 189;exact mI (qM.out _))))));refine pq ?_;rintro _ ⟨s,rfl⟩;have fS:=(cy.out _ s.h).aQ;generalize s.w=w1 at fS ⊢;go_wp2;go_ret;exact⟨dS ak.out.symm,fS⟩
    .have ak:Hid (bZ m=5):=RN (k:=k) h3 hlt (by unfold Sound;rw[cH.out];rintro⟨h,_,_⟩;exact n1 h);rw[show Ac m[k].1 m[k].2.1 m[k].2.2=ο from by rw[<-Bool.not_eq_true,Ad];exact n1]at Cl;clear hc hl n1 hb;go_wp2_with fail;generalize wr.alloc (.cells #[.int .i64 m[k].1,.int .i64 m[k].2.1,.int .i64 m[k].2.2] 176)=bF at cy ⊢;have f0:∀s:bf bF,s.w.cell? ⟨wr.heap.size,0,η⟩=θ (.int .i64 m[k].1):=λs=>(cy.out _ s.h).k0;have f1:∀s:bf bF,s.w.cell? ⟨wr.heap.size,1,η⟩=θ (.int .i64 m[k].2.1):=λs=>(cy.out _ s.h).k1;have f2:∀s:bf bF,s.w.cell? ⟨wr.heap.size,2,η⟩=θ (.int .i64 m[k].2.2):=λs=>(cy.out _ s.h).k2;have hne:Nonempty (bf bF):=⟨⟨bF,Below.refl _ _⟩⟩;refine wp_region_held bF (Below.refl _ _) (by kernel_rfl) (by kernel_rfl) ?_;(repeat (go_big_quiet_step ((first|(go_at_call 174;exact mI (Cl.out _))|(go_at_call 189;exact mI (qM.out _))))));refine pq ?_;rintro _ ⟨s,rfl⟩;have fS:=(cy.out _ s.h).aQ;generalize s.w=w1 at fS ⊢;go_wp2;go_ret;exact⟨dS ak.out.symm,fS⟩
   ·(have bp:k=m.length:=by omega);subst bp;have ak:Hid (bZ m=0):=ZX h3 aR.out;go_wp2;go_ret;exact⟨dS ak.out.symm,hb⟩
structure Cm(w W:υ)(x y z:ay):Prop where
 c1:W.cell? ⟨w.heap.size,0,η⟩=θ x
 c2:W.cell? ⟨w.heap.size+1,0,η⟩=θ y
 c3:W.cell? ⟨w.heap.size+1+1,0,η⟩=θ z
 aQ:Below w.heap.size w W
 lt:w.heap.size+2<W.heap.size
theorem Ip w x y z (t1 t2 t3:Θ):Cm w (((w.alloc (.cells #[x] t1)).alloc (.cells #[y] t2)).alloc (.cells #[z] t3)) x y z:=by
 refine⟨?_,?_,?_,bJ (cw _ _) (bJ (cw _ _) (cw _ _)),by simp⟩
 .rw[L8 _ _ _ (by simp;omega),L8 _ _ _ (by simp),B1 _ _ _ _ rfl];rfl
 .rw[L8 _ _ _ (by simp),B1 _ _ _ _ (by simp)];rfl
 .rw[B1 _ _ _ _ (by simp)];rfl
theorem Cm.below{x y z}(h:Cm w W x y z)(hb:Below W.heap.size W W'):Cm w W' x y z:=by
 have l:=h.lt;refine⟨?_,?_,?_,bJ h.aQ hb,Nat.lt_of_lt_of_le l hb.size⟩
 .rw[hb.cell (p:=⟨w.heap.size,0,η⟩) (by show w.heap.size<_;omega)];exact h.c1
 .rw[hb.cell (p:=⟨w.heap.size+1,0,η⟩) (by show w.heap.size+1<_;omega)];exact h.c2
 .rw[hb.cell (p:=⟨w.heap.size+1+1,0,η⟩) (by show w.heap.size+1+1<_;omega)];exact h.c3
theorem TL w{a}{K}{Q}{E:Prop}(hgd:o.guard=η)s x (t:Θ)(ho:o.op=.call {callee:=.builtin .append,args:=#[s,x],argTypes:=#[t,t] })base (e:Θ)(i:TypeInfo)z size bytes(ht:P.underlying t=θ (.slice e))(hi:P.info? e=θ i)(hz:i.zero=θ z)(hsize:i.size=size)(hby:i.bytes=bytes)(hzs:z.cells.size=size)(hsz:0<size)g0 n c0 xs(hs:a.eval s=.slice (θ ⟨g0,0,η⟩) n c0)(hown:w.ownsRow base e size (.slice (θ ⟨g0,0,η⟩) n c0) n xs)ad m c news(hx:a.eval x=.slice (θ ad) m c)(hl:news.length=m*size)(hnews:∀j u,news[j]?=θ u->w.cell? (ad.add j)=θ u)(h1:∀u∈news,u.oneCell'=ν)(h63:n+m<=maxLen)(hbytes:(n+m)*bytes<=140737488355328)(hbase:base<=w.heap.size)(h:∀g cap w',w'.ownsRow base e size (.slice (θ ⟨g,0,η⟩) (n+m) cap) (n+m) (xs++news)->w.grownBy w' (θ g0)->K (a.put o.dst (.slice (θ ⟨g,0,η⟩) (n+m) cap)) w'):if cF o (yielded ops a.tmps)=ν then Oper.wp P o a w K Q else E:=by
 have hw:cF o (yielded ops a.tmps)=true:=by simp[cF,hgd]
 rw[χ hw];obtain⟨v',w',hr,h2,h3,h4⟩:=run_append_own (P:=P) w base t o.type e i z size bytes ht hi hz hsize hby hzs hsz _ n xs hown ad m c news hl hnews h1 h63 hbytes hbase;rcases h2.2 with⟨hv,_⟩|⟨g,cap,cur,hv,_⟩
 .exact absurd (h4.1 hv).1 (by simp)
 .subst hv;unfold Oper.wp execOp;simp only[ho,resolve,invoke,builtin,Sem.run_bind,Sem.run_pure,Result.andThen_ok,List.map_toArray,List.map_cons,List.map_nil,hs,hx,hr];exact h g cap w' h2 h3
theorem MI(h:¬bZ m=0):∃n,bZ m=n/\(n=2\/n=5):=by
 rcases Lz m with e|e|⟨e,_⟩
 .exact⟨2,e,.inl rfl⟩
 .exact⟨5,e,.inr rfl⟩
 .exact absurd e h
theorem MJ(h:bZ m=0):m.length<=200/\eo m/\∀p∈m,dW p:=by
 rcases Lz m with e|e|⟨_,h1,h2⟩
 .omega
 .omega
 .exact⟨h1,Z0 h2,Z1 h2⟩
theorem ac5(hn:∀p∈m,dW p)(h:aC m t=θ v):cT v:=by obtain⟨p,hp,_,rfl⟩:=ZY h;exact(hn p hp).2.2
theorem ac6 x y how w(hh:how=1\/how=2\/how=3)(hx:EM x)(hy:EM y):Ξ ah 182 #[.int .i64 x,.int .i64 y,.int .i64 how] w λe w'=>e=.returned (.int .i64 (both how x y))/\w'=w:=by
 unfold EM at hx hy;obtain⟨x1,x2⟩:=hx;obtain⟨y1,y2⟩:=hy;rcases hh with rfl|rfl|rfl
 .have ak:Hid (both 1 x y=min x y):=rfl;go_enter QX,ntmps182;go_wp2;all_goals go_ret
  all_goals exact⟨dS (by first|(rw[ak.out];done)|(rw[ak.out];omega)),rfl⟩
 .have ak:Hid (both 2 x y=max x y):=rfl;go_enter QX,ntmps182;go_wp2;all_goals go_ret
  all_goals exact⟨dS (by first|(rw[ak.out];done)|(rw[ak.out];omega)),rfl⟩
 .have ak:Hid (both 3 x y=x+y):=rfl;go_enter QX,ntmps182;go_wp2;all_goals go_ret
  all_goals exact⟨dS (by first|(rw[ak.out];done)|(rw[ak.out];omega)),rfl⟩
theorem TM how w:Ξ ah 180 #[.int .i64 how] w λe w'=>e=.returned (.bool (p6 how))/\w'=w:=by
 by_cases h1:how=1
 .have ak:Hid (p6 how=ν):=ME (.inl h1);subst h1;go_enter K4,ntmps180;go_wp2;go_ret;exact⟨gK ak.out.symm,rfl⟩
 .have d1:(how==1)=false:=by simpa using h1
  by_cases h2:how=2
  .have ak:Hid (p6 how=ν):=ME (.inr (.inl h2));subst h2;clear d1 h1;go_enter K4,ntmps180;go_wp2;go_ret;exact⟨gK ak.out.symm,rfl⟩
  ·(have d2:(how==2)=false:=by simpa using h2);by_cases h3:how=3
   .have ak:Hid (p6 how=ν):=ME (.inr (.inr h3));subst h3;clear d1 d2 h1 h2;go_enter K4,ntmps180;go_wp2;go_ret;exact⟨gK ak.out.symm,rfl⟩
   ·(have d3:(how==3)=false:=by simpa using h3);have ak:Hid (p6 how=ο):=acK (by omega);clear h1 h2 h3;go_enter K4,ntmps180;go_wp2;go_ret;exact⟨gK ak.out.symm,rfl⟩
theorem asw ac7 MK ML how(hh:how=1\/how=2\/how=3)ao bo ca cb a b t w(hA:cm w ao a)(hB:cm w bo b)(la:a.length<=200)(lb:b.length<=200)(na:∀p∈a,dW p)(nb:∀p∈b,dW p)(c1:w.cell? ⟨ac7,0,η⟩=θ (.slice ao a.length ca))(c2:w.cell? ⟨MK,0,η⟩=θ (.slice bo b.length cb))(c3:w.cell? ⟨ML,0,η⟩=θ (.int .i64 how)):Ξ ah 181 #[.int .i64 t,.pointer (θ ⟨ac7,0,η⟩),.pointer (θ ⟨MK,0,η⟩),.pointer (θ ⟨ML,0,η⟩)] w λe w'=>(∃x,e=.returned (.tuple #[.int .i64 x,.bool (tC a b how t).isSome])/\∀y,tC a b how t=θ y->x=y)/\Below w.heap.size w w':=by
 have uR:=Ig ao ca a t w hA (by omega);have Ai:Hid (∀W,Below w.heap.size w W->Ξ ah 179 #[.slice bo b.length cb,.int .i64 t] W λe w'=>e=.returned (.tuple #[.int .i64 ((aC b t).getD 0),.bool (aC b t).isSome])/\Below W.heap.size W w'):=λW h=>Ig bo cb b t W (hB.below h) (by omega);have l2:=Ev w _ c2;have l3:=Ev w _ c3;simp only at l2 l3;have oM:Hid (∀W,Below w.heap.size w W->W.cell? ⟨MK,0,η⟩=θ (.slice bo b.length cb)/\W.cell? ⟨ML,0,η⟩=θ (.int .i64 how)):=λW h=>⟨(h.cell (p:=⟨MK,0,η⟩) l2).trans c2,(h.cell (p:=⟨ML,0,η⟩) l3).trans c3⟩;have hna:∀x,aC a t=θ x->cT x:=λx h=>ac5 na h;have hnb:∀x,aC b t=θ x->cT x:=λx h=>ac5 nb h;have aJ:Hid (tC a b how t=iG how (aC a t) (aC b t)):=rfl;rw[aJ.out];clear hA hB na nb c2 c3 aJ;cases hx:aC a t with
 |none=>
  simp only[hx,jG,ic]at uR;cases hy:aC b t with
  |none=>
   simp only[hy,jG,ic]at Ai;clear hx hy hna hnb;go_enter GN,ntmps181;go_wp2_with fail;refine uR.mono ?_;rintro e w1 ⟨rfl,aj⟩;obtain⟨d2,d3⟩:=oM.out w1 aj;go_wp2_with fail;refine(Ai.out w1 aj).mono ?_;rintro e w2 ⟨rfl,aq⟩;have iq:=bJ aj aq;clear aj aq d2;go_wp2;go_ret2;exact⟨⟨0,rfl,λy h=>by cases h⟩,iq⟩
  |some y=>
   simp only[hy,Ω,gu]at Ai;clear hx hy hna hnb;go_enter GN,ntmps181;go_wp2_with fail;refine uR.mono ?_;rintro e w1 ⟨rfl,aj⟩;obtain⟨d2,d3⟩:=oM.out w1 aj;go_wp2_with fail;refine(Ai.out w1 aj).mono ?_;rintro e w2 ⟨rfl,aq⟩;have iq:=bJ aj aq;clear aj aq d2;go_wp2;go_ret2;exact⟨⟨y,rfl,λz h=>by cases h;rfl⟩,iq⟩
 |some x=>
  simp only[hx,Ω,gu]at uR;cases hy:aC b t with
  |none=>
   simp only[hy,jG,ic]at Ai;clear hx hy hna hnb;go_enter GN,ntmps181;go_wp2_with fail;refine uR.mono ?_;rintro e w1 ⟨rfl,aj⟩;obtain⟨d2,d3⟩:=oM.out w1 aj;go_wp2_with fail;refine(Ai.out w1 aj).mono ?_;rintro e w2 ⟨rfl,aq⟩;have iq:=bJ aj aq;clear aj aq d2;go_wp2;go_ret2;exact⟨⟨x,rfl,λz h=>by cases h;rfl⟩,iq⟩
  |some y=>
   simp only[hy,Ω,gu]at Ai;have hT:=λW=>ac6 x y how W hh (Tv (hna x hx)) (Tv (hnb y hy));have bI:Hid (iG how (θ x) (θ y)=θ (both how x y)):=rfl;rw[bI.out];clear hx hy hna hnb bI;generalize both how x y=q at hT ⊢;go_enter GN,ntmps181;go_wp2_with fail;refine uR.mono ?_;rintro e w1 ⟨rfl,aj⟩;obtain⟨d2,d3⟩:=oM.out w1 aj;go_wp2_with fail;refine(Ai.out w1 aj).mono ?_;rintro e w2 ⟨rfl,aq⟩;have iq:=bJ aj aq;have aAy:=(oM.out w2 iq).2;clear aj aq d2 d3;go_wp2_with(go_at_call 182;refine(hT _).mono ?_;rintro e w' ⟨rfl,rfl⟩);go_ret2;exact⟨⟨q,rfl,λz h=>by cases h;rfl⟩,iq⟩
def Aj(a b:List (Int×Int×Int))(how n:Int)(r:List (Int×Int×Int)):Prop:=
 (¬bZ a=0/\n=bZ a/\r=[])\/(bZ a=0/\¬bZ b=0/\n=bZ b/\r=[])\/(bZ a=0/\bZ b=0/\¬(how=1\/how=2\/how=3)/\n=1/\r=[]) \/
 (bZ a=0/\bZ b=0/\(how=1\/how=2\/how=3)/\uy (bO a++bO b) (tC a b how) n r)
theorem Cn{p:Prop}(h:p):Hid p:=h
theorem Co(w W:υ):W.ownsRow w.heap.size 176 3 (.slice η 0 0) ([]:List (Int×Int×Int)).length (bV []):=dJ _ _ _ _
theorem TN how ao bo ca cb a b w(hA:cm w ao a)(hB:cm w bo b):Ξ ah 148 #[.slice ao a.length ca,.slice bo b.length cb,.int .i64 how] w λe w'=>∃n r,Aj a b how n r/\LB w w' e n r:=by
 have h1:=λW (h:Below w.heap.size w W)=>Io ao ca a W (hA.below h);have h2:=λW (h:Below w.heap.size w W)=>Io bo cb b W (hB.below h);by_cases e1:¬bZ a=0
 .obtain⟨n,en,hn⟩:=MI e1;have ak:Hid (Aj a b how n []):=.inl ⟨e1,en.symm,rfl⟩;simp only[en]at h1;clear e1 h2 en;rcases hn with rfl|rfl;all_goals
   go_enter K2,ntmps148;go_wp2_with fail;have aA:=Ip w (.slice ao a.length ca) (.slice bo b.length cb) (.int .i64 how) 127 127 3;refine(h1 _ aA.aQ).mono ?_;rintro e w1 ⟨rfl,aj⟩;have g1:=bJ aA.aQ aj;clear aA aj;go_wp2;go_ret2;exact⟨_,_,ak.out,_,rfl,Co _ _,g1⟩
 rw[tq]at e1;simp only[e1]at h1;obtain⟨la,ma,na⟩:=MJ e1;have rV:Hid (bZ a=0):=e1;have ac8:Hid (∀p∈a,dW p):=na;clear e1 na ma;by_cases e2:¬bZ b=0
 .obtain⟨n,en,hn⟩:=MI e2;have ak:Hid (Aj a b how n []):=.inr (.inl ⟨rV.out,e2,en.symm,rfl⟩);simp only[en]at h2;clear e2 en;rcases hn with rfl|rfl;all_goals
   go_enter K2,ntmps148;go_wp2_with fail;have aA:=Ip w (.slice ao a.length ca) (.slice bo b.length cb) (.int .i64 how) 127 127 3;refine(h1 _ aA.aQ).mono ?_;rintro e w1 ⟨rfl,aj⟩;have bD:=aA.below aj;have lM:=bD.c2;have g1:=bD.aQ;clear aA aj bD;go_wp2_with fail;refine(h2 _ g1).mono ?_;rintro e w2 ⟨rfl,aq⟩;have g2:=bJ g1 aq;clear g1 aq lM;go_wp2;go_ret2;exact⟨_,_,ak.out,_,rfl,Co _ _,g2⟩
 rw[tq]at e2;simp only[e2]at h2;obtain⟨lb,asx,nb⟩:=MJ e2;have kg:Hid (bZ b=0):=e2;have MM:Hid (∀p∈b,dW p):=nb;clear e2 nb asx;by_cases hh:¬(how=1\/how=2\/how=3)
 .have ak:Hid (Aj a b how 1 []):=.inr (.inr (.inl ⟨rV.out,kg.out,hh,rfl,rfl⟩));have hJ:=λW=>TM how W;rw[acK hh]at hJ;clear hh;go_enter K2,ntmps148;go_wp2_with fail;have aA:=Ip w (.slice ao a.length ca) (.slice bo b.length cb) (.int .i64 how) 127 127 3;refine(h1 _ aA.aQ).mono ?_;rintro e w1 ⟨rfl,aj⟩;have bD:=aA.below aj;have lM:=bD.c2;have g1:=bD.aQ;clear aA aj;go_wp2_with fail;refine(h2 _ g1).mono ?_;rintro e w2 ⟨rfl,aq⟩;have bt:=bD.below aq;have asy:=bt.c3;have g2:=bt.aQ;clear g1 aq lM bD bt;go_wp2_with(go_at_call 180;refine(hJ _).mono ?_;rintro e w' ⟨rfl,rfl⟩);go_ret2;exact⟨_,_,ak.out,_,rfl,Co _ _,g2⟩
 rw[tq]at hh;have iB:Hid (how=1\/how=2\/how=3):=hh;obtain⟨i0,hi,cg,hz1,bX⟩:=er Tryz.ua;have ac9:∀(fn:Fn) (first cap:Array ay) (w:υ),(DD fn first cap).run ah w=.ok (.func fn first cap) w:=λ_ _ _ _=>rfl;have ada:(bO a).length=2*a.length:=zB a;have TP:(bO b).length=2*b.length:=zB b;have p7:Hid ((bO a++bO b).length=2*a.length+2*b.length):=by show _=_;rw[List.length_append,ada,TP]
 have asz:Hid (((bO b).map (bM .i64)).length=2*b.length*1):=by show _=_;rw[List.length_map,TP];omega
 have asA:Hid (∀u∈(bO b).map (bM .i64),u.oneCell'=ν):=by intro u hu;rw[List.mem_map]at hu;obtain⟨z,_,rfl⟩:=hu;rfl
 have asB:Hid (2*a.length+2*b.length<=maxLen):=by show _<=_;unfold maxLen;omega
 have asC:Hid ((2*a.length+2*b.length)*8<=140737488355328):=by show _<=_;omega
 clear ada TP;have hJ:=λW=>TM how W;rw[ME hh]at hJ;clear hh;have hgo:∀w2,Cm w w2 (.slice ao a.length ca) (.slice bo b.length cb) (.int .i64 how)->∀W gg dm,W.ownsRow w2.heap.size 3 1 (.slice (θ ⟨gg,0,η⟩) (2*a.length+2*b.length) dm) (2*a.length+2*b.length) ((bO a).map (bM .i64)++(bO b).map (bM .i64))->Below w2.heap.size w2 W ->
   Ξ ah 175 #[.slice (θ ⟨gg,0,η⟩) (2*a.length+2*b.length) dm,.func (.func 181) #[] #[.pointer (θ ⟨w.heap.size,0,η⟩),.pointer (θ ⟨w.heap.size+1,0,η⟩),.pointer (θ ⟨w.heap.size+1+1,0,η⟩)]] W λe w'=>∃n r v',Aj a b how n r/\e=.returned (.tuple #[v',.int .i64 n])/\w'.ownsRow w.heap.size 176 3 v' r.length (bV r)/\Below w2.heap.size w2 w':=by
  intro w2 bt W gg dm hv Iq;have hp:∀t cj,Below w2.heap.size w2 cj->Ξ ah 181 (#[.int .i64 t]++#[.pointer (θ ⟨w.heap.size,0,η⟩),.pointer (θ ⟨w.heap.size+1,0,η⟩),.pointer (θ ⟨w.heap.size+1+1,0,η⟩)]) cj λe w'=>(∃x,e=.returned (.tuple #[.int .i64 x,.bool (tC a b how t).isSome])/\∀y,tC a b how t=θ y->x=y)/\Below cj.heap.size cj w':=by intro t cj hq;have ot:=bt.below hq;exact asw w.heap.size (w.heap.size+1) (w.heap.size+1+1) how iB.out ao bo ca cb a b t cj (hA.below ot.aQ) (hB.below ot.aQ) la lb ac8.out MM.out ot.c1 ot.c2 ot.c3
  have fM:=TK 181 _ (tC a b how) (enters_of GN (by kernel_rfl) rfl) w2 W Iq hp gg dm (bO a++bO b) (by rw[p7.out,List.map_append];exact hv) (by rw[p7.out];omega);rw[p7.out]at fM;refine fM.mono ?_;rintro e w' ⟨n,r,v',hM,rfl,ho,hb⟩;exact⟨n,r,v',.inr (.inr (.inr ⟨rV.out,kg.out,iB.out,hM⟩)),rfl,EO ho bt.aQ.size,hb⟩
 have asD:=hgo;have adb:Hid (∀w2,Cm w w2 (.slice ao a.length ca) (.slice bo b.length cb) (.int .i64 how)->∀W gg dm,W.ownsRow w2.heap.size 3 1 (.slice (θ ⟨gg,0,η⟩) (2*a.length+2*b.length) dm) (2*a.length+2*b.length) ((bO a).map (bM .i64)++(bO b).map (bM .i64))->Below w2.heap.size w2 W ->
   Ξ ah 175 #[.slice (θ ⟨gg,0,η⟩) (2*a.length+2*b.length) dm,.func (.func 181) #[] #[.pointer (θ ⟨w.heap.size,0,η⟩),.pointer (θ ⟨w.heap.size+1,0,η⟩),.pointer (θ ⟨w.heap.size+1+1,0,η⟩)]] W λe w'=>∃n r v',Aj a b how n r/\e=.returned (.tuple #[v',.int .i64 n])/\w'.ownsRow w.heap.size 176 3 v' r.length (bV r)/\Below w2.heap.size w2 w'):=hgo
 have wD:Hid (∀W,Below w.heap.size w W->cm W ao a/\cm W bo b):=λW h=>⟨hA.below h,hB.below h⟩;clear hgo asD hA hB;have aA:=Ip w (.slice ao a.length ca) (.slice bo b.length cb) (.int .i64 how) 127 127 3;all_goals
  go_enter K2,ntmps148;go_wp2_with fail;refine(h1 _ aA.aQ).mono ?_;rintro e w1 ⟨rfl,aj⟩;have bD:=aA.below aj;have lM:=bD.c2;have g1:=bD.aQ;clear aA aj;go_wp2_with fail;refine(h2 _ g1).mono ?_;rintro e w2 ⟨rfl,aq⟩;have bt:=bD.below aq;clear g1 aq lM bD h1 h2;have ir:=bt.c1;have lM:=bt.c2;have asy:=bt.c3;have TQ:=adb.out w2 bt;have HM:=TQ;have cA:=bt.lt;have Ir:Hid (Below w.heap.size w w2):=bt.aQ;have TR:Hid (∀W,Below w2.heap.size w2 W->Ξ ah 176 #[.slice ao a.length ca] W λe w'=>∃g,e=.returned (.slice (θ ⟨g,0,η⟩) (2*a.length) (2*a.length))/\w'.ownsRow w2.heap.size 3 1 (.slice (θ ⟨g,0,η⟩) (2*a.length) (2*a.length)) (2*a.length) ((bO a).map (bM .i64))/\Below W.heap.size W w'):=λW h=>
   (nU ao ca a W (wD.out W (bJ bt.aQ h)).1 la).mono λe w' ⟨g,he,ho,hb⟩=>⟨g,he,EO ho h.size,hb⟩
  have asE:Hid (∀W,Below w2.heap.size w2 W->Ξ ah 176 #[.slice bo b.length cb] W λe w'=>∃g,e=.returned (.slice (θ ⟨g,0,η⟩) (2*b.length) (2*b.length))/\w'.ownsRow W.heap.size 3 1 (.slice (θ ⟨g,0,η⟩) (2*b.length) (2*b.length)) (2*b.length) ((bO b).map (bM .i64))/\Below W.heap.size W w'):=λW h=>
   nU bo cb b W (wD.out W (bJ bt.aQ h)).2 lb
  have hl1:w.heap.size<w2.heap.size:=by omega
  have lF:w.heap.size+1<w2.heap.size:=by omega
  have Iu:=Cn TQ;clear bt TQ HM adb wD;go_wp2_with fail;refine(hJ _).mono ?_;rintro e aAz ⟨rfl,cc⟩;have BS:=cc.symm;subst BS;clear hJ cc;go_wp2_with fail
  go_region_held3 (λw'=>w'.cell? ⟨w.heap.size, 0, η⟩=θ (.slice ao a.length ca)/\w'.cell? ⟨w.heap.size+1, 0, η⟩=θ (.slice bo b.length cb))
   (first|go_keep|(refine⟨?_,?_⟩<;>assumption))
   (first
    |(go_at_call_of 176 (j4 ao a.length ca);refine(TR.out _ (Below.refl _ _).drew).mono ?_;rintro e w3 ⟨g1,rfl,Cp,aB⟩;have lX :Below w2.heap.size w2 w3:=bJ (Below.refl _ _).drew aB;have aAA:=(lX.cell (p:=⟨w.heap.size,0,η⟩) hl1).trans ir;have aAB:=(lX.cell (p:=⟨w.heap.size+1,0,η⟩) lF).trans lM)
    |(go_at_call_of 176 (j4 bo b.length cb);refine(asE.out _ lX).mono ?_;rintro e w4 ⟨g2,rfl,asF,hb4⟩;have Cq :Below w2.heap.size w2 w4:=bJ lX hb4;have aAC:=(Cq.cell (p:=⟨w.heap.size,0,η⟩) hl1).trans ir;have aAD:=(Cq.cell (p:=⟨w.heap.size+1,0,η⟩) lF).trans lM)
    |(go_at_call 175;refine(Iu.out _ _ _ iE tD).mono ?_;rintro e bW ⟨Cr,Cs,v6,Ak,rfl,Iv,dD⟩;have asG:=(dD.cell (p:=⟨w.heap.size,0,η⟩) hl1).trans ir;have asH:=(dD.cell (p:=⟨w.heap.size+1,0,η⟩) lF).trans lM)
    |(revert hb4;intro hb4;refine TL _ (by rfl) _ _ _ (by rfl) w2.heap.size 3 i0 _ 1 8 ((cD 50).trans underlying50) hi cg hz1 bX rfl Nat.one_pos g1 (2*a.length) (2*a.length) ((bO a).map (bM .i64)) (by rfl) (cE Cp hb4) ⟨g2,0,η⟩ (2*b.length) (2*b.length) ((bO b).map (bM .i64)) (by rfl) asz.out (asF.cells (g:=g2) rfl) asA.out asB.out asC.out Cq.size ?_;intro gg dm aO iE hgrow;have tD :Below w2.heap.size w2 aO:=Cq.grown hgrow Cq.size (λj hj=>by cases hj;exact((cE Cp hb4).lt g1 rfl).1);have ade:=(tD.cell (p:=⟨w.heap.size,0,η⟩) hl1).trans ir;have adf:=(tD.cell (p:=⟨w.heap.size+1,0,η⟩) lF).trans lM))
  all_goals
   have Iw:Hid (Aj a b _ Cr Cs):=Ak;have cz:Below w.heap.size w bW:=bJ Ir.out dD;clear Ak dD;go_wp2;go_ret2;exact⟨Cr,Cs,Iw.out,v6,rfl,Iv,cz⟩
structure Ix(w W:υ)(x:ay)(p:Int×Int×Int):Prop where
 c1:W.cell? ⟨w.heap.size,0,η⟩=θ x
 p0:W.cell? ⟨w.heap.size+1,0,η⟩=θ (.int .i64 p.1)
 p1:W.cell? ⟨w.heap.size+1,1,η⟩=θ (.int .i64 p.2.1)
 p2:W.cell? ⟨w.heap.size+1,2,η⟩=θ (.int .i64 p.2.2)
 aQ:Below w.heap.size w W
 lt:w.heap.size+1<W.heap.size
theorem asI w x p (t1 t2:Θ):Ix w ((w.alloc (.cells #[x] t1)).alloc (.cells #[.int .i64 p.1,.int .i64 p.2.1,.int .i64 p.2.2] t2)) x p:=by
 refine⟨?_,?_,?_,?_,bJ (cw _ _) (cw _ _),by simp⟩
 .rw[L8 _ _ _ (by simp),B1 _ _ _ _ rfl];rfl
 .rw[B1 _ _ _ _ (by simp)];rfl
 .rw[B1 _ _ _ _ (by simp)];rfl
 .rw[B1 _ _ _ _ (by simp)];rfl
theorem Ix.below{x}{p}(h:Ix w W x p)(hb:Below W.heap.size W W'):Ix w W' x p:=by
 have l:=h.lt;refine⟨?_,?_,?_,?_,bJ h.aQ hb,Nat.lt_of_lt_of_le l hb.size⟩
 .rw[hb.cell (p:=⟨w.heap.size,0,η⟩) (by show w.heap.size<_;omega)];exact h.c1
 .rw[hb.cell (p:=⟨w.heap.size+1,0,η⟩) (by show w.heap.size+1<_;omega)];exact h.p0
 .rw[hb.cell (p:=⟨w.heap.size+1,1,η⟩) (by show w.heap.size+1<_;omega)];exact h.p1
 .rw[hb.cell (p:=⟨w.heap.size+1,2,η⟩) (by show w.heap.size+1<_;omega)];exact h.p2
theorem asJ Ct EP ao ca m p t w(hA:cm w ao m)(la:m.length<=200)(c1:w.cell? ⟨Ct,0,η⟩=θ (.slice ao m.length ca))(p0:w.cell? ⟨EP,0,η⟩=θ (.int .i64 p.1))(p1:w.cell? ⟨EP,1,η⟩=θ (.int .i64 p.2.1))(p2:w.cell? ⟨EP,2,η⟩=θ (.int .i64 p.2.2)):Ξ ah 177 #[.int .i64 t,.pointer (θ ⟨EP,0,η⟩),.pointer (θ ⟨Ct,0,η⟩)] w λe w'=>(∃x,e=.returned (.tuple #[.int .i64 x,.bool (nB m p t).isSome])/\∀y,nB m p t=θ y->x=y)/\Below w.heap.size w w':=by
 have hhas:=λW=>acS p.1 p.2.1 p.2.2 t W;have l1:=Ev w _ c1;have l2:=Ev w _ p2;simp only at l1 l2;have ak:Hid (∀W,Below w.heap.size w W->W.cell? ⟨Ct,0,η⟩=θ (.slice ao m.length ca)/\W.cell? ⟨EP,2,η⟩=θ (.int .i64 p.2.2)/\Ξ ah 179 #[.slice ao m.length ca,.int .i64 t] W λe w'=>e=.returned (.tuple #[.int .i64 ((aC m t).getD 0),.bool (aC m t).isSome])/\Below W.heap.size W w'):=λW h=>
  ⟨(h.cell (p:=⟨Ct,0,η⟩) l1).trans c1,(h.cell (p:=⟨EP,2,η⟩) l2).trans p2,Ig ao ca m t W (hA.below h) (by omega)⟩
 clear hA;cases hp:dh p t with
 |true=>
  have e1:uQ p.1 p.2.1 t=true:=hp;have aJ:Hid (nB m p t=θ p.2.2):=by show _=_;unfold nB;rw[hp];rfl
  rw[aJ.out];rw[e1]at hhas;clear hp e1 aJ;go_enter QV,ntmps177;go_wp2_with fail;refine(hhas _).mono ?_;rintro e w1 ⟨rfl,aj⟩;have d2:=(ak.out w1 aj).2.1;go_wp2;go_ret2;exact⟨⟨_,rfl,λy h=>by cases h;rfl⟩,aj⟩
 |false=>
  have e1:uQ p.1 p.2.1 t=false:=hp;have aJ:Hid (nB m p t=aC m t):=by show _=_;unfold nB;rw[hp];rfl
  rw[aJ.out];rw[e1]at hhas;clear hp e1 aJ;have kV:Hid (∀y,aC m t=θ y->(aC m t).getD 0=y):=λy h=>by rw[h];rfl
  generalize aC m t=q at ak kV ⊢;go_enter QV,ntmps177;go_wp2_with fail;refine(hhas _).mono ?_;rintro e w1 ⟨rfl,aj⟩;have d1:=(ak.out w1 aj).1;have Iy:=(ak.out w1 aj).2.2;go_wp2_with fail;refine Iy.mono ?_;rintro e w2 ⟨rfl,aq⟩;have iq:=bJ aj aq;clear aj aq Iy d1;go_wp2;go_ret2;exact⟨⟨_,rfl,kV.out⟩,iq⟩
def ER(m:List (Int×Int×Int))(p:Int×Int×Int)(n:Int)(r:List (Int×Int×Int)):Prop:=
 (¬bZ m=0/\n=bZ m/\r=[])\/(bZ m=0/\¬dW p/\n=5/\r=[])\/(bZ m=0/\dW p/\uy (bO m++[p.1,p.2.1]) (nB m p) n r)
theorem asK ao ca m p w(hA:cm w ao m):Ξ ah 147 #[.slice ao m.length ca,.agg #[.int .i64 p.1,.int .i64 p.2.1,.int .i64 p.2.2]] w λe w'=>∃n r,ER m p n r/\LB w w' e n r:=by
 have h1:=λW (h:Below w.heap.size w W)=>Io ao ca m W (hA.below h);have h2:=λW=>Ty p.1 p.2.1 p.2.2 W;have aA:=asI w (.slice ao m.length ca) p 127 176;by_cases e1:¬bZ m=0
 .obtain⟨n,en,hn⟩:=MI e1;have ak:Hid (ER m p n []):=.inl ⟨e1,en.symm,rfl⟩;simp only[en]at h1;clear e1 en h2;rcases hn with rfl|rfl;all_goals
   go_enter QU,ntmps147;go_wp2_with fail;refine(h1 _ aA.aQ).mono ?_;rintro e w1 ⟨rfl,aj⟩;have g1:=bJ aA.aQ aj;clear aA aj;go_wp2;go_ret2;exact⟨_,_,ak.out,_,rfl,Co _ _,g1⟩
 rw[tq]at e1;simp only[e1]at h1;obtain⟨la,_,na⟩:=MJ e1;have rV:Hid (bZ m=0):=e1;have ac8:Hid (∀p∈m,dW p):=na;clear e1 na;by_cases e2:¬dW p
 .have ak:Hid (ER m p 5 []):=.inr (.inl ⟨rV.out,e2,rfl,rfl⟩);rw[show Ac p.1 p.2.1 p.2.2=ο from by rw[<-Bool.not_eq_true,Ad];exact e2]at h2;clear e2;go_enter QU,ntmps147;go_wp2_with fail;refine(h1 _ aA.aQ).mono ?_;rintro e w1 ⟨rfl,aj⟩;have bD:=aA.below aj;have d0:=bD.p0;have d1:=bD.p1;have d2:=bD.p2;have g1:=bD.aQ;clear aA aj bD;go_wp2_with fail;refine(h2 _).mono ?_;rintro e w2 ⟨rfl,aq⟩;have g2:=bJ g1 aq;clear g1 aq d0 d1 d2;go_wp2;go_ret2;exact⟨_,_,ak.out,_,rfl,Co _ _,g2⟩
 rw[Classical.not_not]at e2;rw[(Ad _).2 e2]at h2;have kg:Hid (dW p):=e2;clear e2;obtain⟨i0,hi,cg,hz1,bX⟩:=er Tryz.ua;have ac9:∀(fn:Fn) (first cap:Array ay) (w:υ),(DD fn first cap).run ah w=.ok (.func fn first cap) w:=λ_ _ _ _=>rfl;have p7:Hid ((bO m++[p.1,p.2.1]).length=2*m.length+2):=by show _=_;rw[List.length_append,zB];rfl
 have hgo:Hid (∀w2,Ix w w2 (.slice ao m.length ca) p->∀W gg dm,W.ownsRow w2.heap.size 3 1 (.slice (θ ⟨gg,0,η⟩) (2*m.length+2) dm) (2*m.length+2) ((bO m).map (bM .i64)++[.int .i64 p.1,.int .i64 p.2.1])->Below w2.heap.size w2 W ->
   Ξ ah 175 #[.slice (θ ⟨gg,0,η⟩) (2*m.length+2) dm,.func (.func 177) #[] #[.pointer (θ ⟨w.heap.size+1,0,η⟩),.pointer (θ ⟨w.heap.size,0,η⟩)]] W λe w'=>∃n r v',ER m p n r/\e=.returned (.tuple #[v',.int .i64 n])/\w'.ownsRow w.heap.size 176 3 v' r.length (bV r)/\Below w2.heap.size w2 w'):=by
  intro w2 bt W gg dm hv Iq;have hp:∀t cj,Below w2.heap.size w2 cj->Ξ ah 177 (#[.int .i64 t]++#[.pointer (θ ⟨w.heap.size+1,0,η⟩),.pointer (θ ⟨w.heap.size,0,η⟩)]) cj λe w'=>(∃x,e=.returned (.tuple #[.int .i64 x,.bool (nB m p t).isSome])/\∀y,nB m p t=θ y->x=y)/\Below cj.heap.size cj w':=by intro t cj hq;have ot:=bt.below hq;exact asJ w.heap.size (w.heap.size+1) ao ca m p t cj (hA.below ot.aQ) la ot.c1 ot.p0 ot.p1 ot.p2
  have fM:=TK 177 _ (nB m p) (enters_of QV (by kernel_rfl) rfl) w2 W Iq hp gg dm (bO m++[p.1,p.2.1]) (by rw[p7.out,List.map_append];exact hv) (by rw[p7.out];omega);rw[p7.out]at fM;refine fM.mono ?_;rintro e w' ⟨n,r,v',hM,rfl,ho,hb⟩;exact⟨n,r,v',.inr (.inr ⟨rV.out,kg.out,hM⟩),rfl,EO ho bt.aQ.size,hb⟩
 have wD:Hid (∀W,Below w.heap.size w W->cm W ao m):=λW h=>hA.below h;clear hA;go_enter QU,ntmps147;go_wp2_with fail;refine(h1 _ aA.aQ).mono ?_;rintro e w1 ⟨rfl,aj⟩;have bD:=aA.below aj;have d0:=bD.p0;have d1:=bD.p1;have d2:=bD.p2;clear aA aj;go_wp2_with fail;refine(h2 _).mono ?_;rintro e w2 ⟨rfl,aq⟩;have bt:=bD.below aq;clear aq bD h1 h2 d0 d1 d2;have ir:=bt.c1;have d0:=bt.p0;have d1:=bt.p1;have cA:=bt.lt;have Ir:Hid (Below w.heap.size w w2):=bt.aQ;have TR:Hid (∀W,Below w2.heap.size w2 W->Ξ ah 176 #[.slice ao m.length ca] W λe w'=>∃g,e=.returned (.slice (θ ⟨g,0,η⟩) (2*m.length) (2*m.length))/\w'.ownsRow w2.heap.size 3 1 (.slice (θ ⟨g,0,η⟩) (2*m.length) (2*m.length)) (2*m.length) ((bO m).map (bM .i64))/\Below W.heap.size W w'):=λW h=>
  (nU ao ca m W (wD.out W (bJ bt.aQ h)) la).mono λe w' ⟨g,he,ho,hb⟩=>⟨g,he,EO ho h.size,hb⟩
 have hl1:w.heap.size<w2.heap.size:=by omega
 have Iu:=Cn (hgo.out w2 bt);clear bt hgo wD;go_wp2_with fail
 go_region_held3 (λw'=>w'.cell? ⟨w.heap.size, 0, η⟩=θ (.slice ao m.length ca)/\w'.cell? ⟨w.heap.size+1, 0, η⟩=θ (.int .i64 p.1)/\w'.cell? ⟨w.heap.size+1, 1, η⟩=θ (.int .i64 p.2.1))
  (first|go_keep|(refine⟨?_,?_,?_⟩<;>assumption))
  (first
   |(go_at_call 176;refine(TR.out _ (by first|exact(Below.refl _ _).drew|exact((Below.refl _ _).alloc (Nat.le_refl _) _).drew)).mono ?_;rintro e w3 ⟨g1,rfl,Cp,aB⟩;have lX :Below w2.heap.size w2 w3:=(by first|exact bJ (Below.refl _ _).drew aB|exact bJ ((cw w2 _).drew) aB);have k1:=(lX.cell (p:=⟨w.heap.size,0,η⟩) hl1).trans ir;have k2:=(lX.cell (p:=⟨w.heap.size+1,0,η⟩) cA).trans d0;have bz:=(lX.cell (p:=⟨w.heap.size+1,1,η⟩) cA).trans d1)
   |(go_at_call 175;refine(Iu.out _ _ _ iE tD).mono ?_;rintro e bW ⟨Cr,Cs,v6,Ak,rfl,Iv,dD⟩;have asG:=(dD.cell (p:=⟨w.heap.size,0,η⟩) hl1).trans ir;have asH:=(dD.cell (p:=⟨w.heap.size+1,0,η⟩) cA).trans d0;have aAE:=(dD.cell (p:=⟨w.heap.size+1,1,η⟩) cA).trans d1)
   |(revert aB;intro aB;refine TL _ (by rfl) _ _ _ (by rfl) w2.heap.size 3 i0 _ 1 8 ((cD 50).trans underlying50) hi cg hz1 bX rfl Nat.one_pos g1 (2*m.length) (2*m.length) ((bO m).map (bM .i64)) (by rfl) (fW (w:=w3) Cp _) ⟨w3.heap.size,0,η⟩ 2 2 [.int .i64 p.1,.int .i64 p.2.1] (by rfl) (by rfl) (nR (cs:=#[.int .i64 p.1,.int .i64 p.2.1]) (t:=3) (fr:=(0,0)) (heap_alloc_new w3 _)) (by simp[zo]) (by unfold maxLen;omega) (by omega) (by have:=lX.size;simp;omega) ?_;intro gg dm aO iE hgrow;have tD :Below w2.heap.size w2 aO:=(lX.alloc lX.size _).grown hgrow (by have:=lX.size;simp;omega) (λj hj=>by cases hj;exact(Cp.lt g1 rfl).1);have ade:=(tD.cell (p:=⟨w.heap.size,0,η⟩) hl1).trans ir;have adf:=(tD.cell (p:=⟨w.heap.size+1,0,η⟩) cA).trans d0;have asL:=(tD.cell (p:=⟨w.heap.size+1,1,η⟩) cA).trans d1)
   |(revert aB;intro aB;refine TL _ (by rfl) _ _ _ (by rfl) w2.heap.size 3 i0 _ 1 8 ((cD 50).trans underlying50) hi cg hz1 bX rfl Nat.one_pos g1 (2*m.length) (2*m.length) ((bO m).map (bM .i64)) (by rfl) Cp ⟨w2.heap.size,0,η⟩ 2 2 [.int .i64 p.1,.int .i64 p.2.1] (by rfl) (by rfl) (nR (cs:=#[.int .i64 p.1,.int .i64 p.2.1]) (t:=3) (fr:=(0,0)) ((aB.block w2.heap.size (by simp)).trans (heap_alloc_new w2 _))) (by simp[zo]) (by unfold maxLen;omega) (by omega) lX.size ?_;intro gg dm aO iE hgrow;have tD :Below w2.heap.size w2 aO:=lX.grown hgrow lX.size (λj hj=>by cases hj;exact(Cp.lt g1 rfl).1);have ade:=(tD.cell (p:=⟨w.heap.size,0,η⟩) hl1).trans ir;have adf:=(tD.cell (p:=⟨w.heap.size+1,0,η⟩) cA).trans d0;have asL:=(tD.cell (p:=⟨w.heap.size+1,1,η⟩) cA).trans d1))
 all_goals
  have Iw:Hid (ER m p Cr Cs):=Ak;have cz:Below w.heap.size w bW:=bJ Ir.out dD;clear Ak dD;go_wp2;go_ret2;exact⟨Cr,Cs,Iw.out,v6,rfl,Iv,cz⟩
theorem adg{R:List Int}(hR:R.Pairwise (·<·))(h:∀x∈R,x∈T):R.length<=T.length:=by
 induction R generalizing T with
 |nil=>simp
 |cons x R ih=>
  rw[List.pairwise_cons]at hR;have hx:x∈T:=h x (by simp);have:=ih (T:=T.erase x) hR.2 λy hy=>(List.mem_erase_of_ne (by have:=hR.1 y hy;omega)).2 (h y (by simp[hy]));rw[List.length_erase_of_mem hx]at this;have hp:0<T.length:=List.length_pos_of_mem hx;simp only[List.length_cons];omega
theorem asM(h:eo m):(m.map (λq=>q.1)).Pairwise (·<·):=by
 induction m with
 |nil=>exact List.Pairwise.nil
 |cons p m ih=>
  rw[List.map_cons,List.pairwise_cons];refine⟨λx hx=>?_,ih h.2.2⟩;rw[List.mem_map]at hx;obtain⟨q,hq,rfl⟩:=hx;have:=BM h q hq;have:=h.1;omega
theorem asN(h:eo m)(hT:∀q∈m,q.1∈T):m.length<=T.length:=by have:=adg (asM h) (T:=T) (λx hx=>by rw[List.mem_map]at hx;obtain⟨q,hq,rfl⟩:=hx;exact hT q hq);simpa using this
structure yo(T:List Int)(m:List (Int×Int×Int)):Prop where
 canon:eo m
 near:∀p∈m,dW p
 mem:∀q∈m,q.1∈T/\q.2.1∈T
theorem yo.len(h:yo T m):m.length<=T.length:=asN h.canon λq hq=>(h.mem q hq).1
theorem yo.dY(h:yo T m)(hT:T.length<=200):bZ m=0:=an5 h.canon h.near (by have:=h.len;omega)
theorem yo.turns(h:yo T m):∀x∈bO m,x∈T:=by
 intro x hx;obtain⟨p,hp,e|e⟩:=an6 hx
 .rw[e];exact(h.mem p hp).1
 .rw[e];exact(h.mem p hp).2
theorem asO{A}{f}{n}{r}(h:uy A f n r)(hf:∀S,(∀x,x∈S↔x∈A)->wB S f):∃out,eo out/\(∀t,aC out t=f t)/\(∀q∈out,q.1∈A/\q.2.1∈A/\∃s,f s=θ q.2.2)/\Ae out n r:=by obtain⟨S,out,b8,hT,h⟩:=h;refine⟨out,hT.canon,ar7 b8 (hf S b8.mem) hT,λq hq=>?_,h⟩;obtain⟨h1,h2,s,_,h3⟩:=hT.mem q hq;exact⟨(b8.mem _).1 h1,(b8.mem _).1 h2,s,h3⟩
theorem asP{out}{n n'}{r r'}(h:Ae out n r)(h':Ae out n' r'):n=n'/\r=r':=by
 rcases h with⟨a,h1,h2⟩|⟨a,b,h1,h2⟩|⟨a,b,h1,h2⟩
 .rcases h' with⟨a',h1',jS⟩|⟨a',b',h1',jS⟩|⟨a',b',h1',jS⟩
  .exact⟨h1.trans h1'.symm,h2.trans jS.symm⟩
  .exact absurd a' a
  .exact absurd a' a
 .rcases h' with⟨a',h1',jS⟩|⟨a',b',h1',jS⟩|⟨a',b',h1',jS⟩
  .exact absurd a a'
  .exact⟨h1.trans h1'.symm,h2.trans jS.symm⟩
  .omega
 .rcases h' with⟨a',h1',jS⟩|⟨a',b',h1',jS⟩|⟨a',b',h1',jS⟩
  .exact absurd a a'
  .omega
  .exact⟨h1.trans h1'.symm,h2.trans jS.symm⟩
theorem asQ{A}{f}{n}{r}(h:uy A f n r)(hf:∀S,(∀x,x∈S↔x∈A)->wB S f)(hv:∀s v,f s=θ v->cT v)(hA:∀x∈A,cT x)(hT:∀x∈A,x∈T)(h2:T.length<=200):n=0/\yo T r/\∀t,aC r t=f t:=by
 obtain⟨o,c,t,hm,F⟩:=asO h hf;have hn:∀q∈o,dW q:=λq hq=>by obtain⟨a1,a2,s,a3⟩:=hm q hq;exact⟨hA _ a1,hA _ a2,hv s _ a3⟩
 have M:yo T o:=⟨c,hn,λq hq=>⟨hT _ (hm q hq).1,hT _ (hm q hq).2.1⟩⟩;obtain⟨e1,e2⟩:=asP F (.inr (.inr ⟨hn,by have:=M.len;omega,rfl,rfl⟩));subst e2;exact⟨e1,M,t⟩
theorem asR g bb(oc:∀args w,(gX g args).run ah w=.ok (.enter g args) w)(hg:∀x w,Ξ ah g #[.bool x] w λe w'=>e=.returned (.bool (x==bb))/\w'=w)Ct ES ET ao lo ca cl m l t w(hA:cm w ao m)(hL:eg w lo l)(la:m.length<=200)(ll:l.length<=200)(c1:w.cell? ⟨Ct,0,η⟩=θ (.slice ao m.length ca))(c2:w.cell? ⟨ES,0,η⟩=θ (.slice lo l.length cl))(c3:w.cell? ⟨ET,0,η⟩=θ (.func (.func g) #[] #[])):Ξ ah 203 #[.int .i64 t,.pointer (θ ⟨Ct,0,η⟩),.pointer (θ ⟨ET,0,η⟩),.pointer (θ ⟨ES,0,η⟩)] w λe w'=>(∃x,e=.returned (.tuple #[.int .i64 x,.bool (oR m l bb t).isSome])/\∀y,oR m l bb t=θ y->x=y)/\Below w.heap.size w w':=by
 have uR:=Ig ao ca m t w hA (by omega);have l2:=Ev w _ c2;have l3:=Ev w _ c3;simp only at l2 l3;have ak:Hid (∀W,Below w.heap.size w W->W.cell? ⟨ES,0,η⟩=θ (.slice lo l.length cl)/\W.cell? ⟨ET,0,η⟩=θ (.func (.func g) #[] #[])/\Ξ ah 107 #[.slice lo l.length cl,.int .i64 t] W λe w'=>e=.returned (.bool (has l t))/\Below W.heap.size W w'):=λW h=>
  ⟨(h.cell (p:=⟨ES,0,η⟩) l2).trans c2,(h.cell (p:=⟨ET,0,η⟩) l3).trans c3,Zh lo cl l t W (hL.below h) (by omega)⟩
 clear hA hL c2 c3;cases hx:aC m t with
 |none=>
  simp only[hx,jG,ic]at uR;have aJ:Hid (oR m l bb t=η):=by show _=_;unfold oR;rw[hx];split<;>rfl
  rw[aJ.out];clear hx aJ;go_enter Q1,ntmps203;go_wp2_with fail;refine uR.mono ?_;rintro e w1 ⟨rfl,aj⟩;go_wp2_with fail
  go_quiet (fail)
  go_wp2;go_ret2;exact⟨⟨0,rfl,λy h=>by cases h⟩,below_drewN aj _⟩
 |some x=>
  simp only[hx,Ω,gu]at uR;have aJ:Hid (oR m l bb t=if has l t=bb then θ x else η):=by show _=_;unfold oR;rw[hx]
  rw[aJ.out];clear hx aJ;generalize has l t=h at ak ⊢;have adh:=λW=>hg h W;have bI:Hid ((if h=bb then θ x else none:Option Int).isSome=(h==bb)):=by show _=_;cases h<;>cases bb<;>rfl
  have uD:Hid (∀y,(if h=bb then θ x else none:Option Int)=θ y->x=y):=by
   intro y hy;split at hy
   .cases hy;rfl
   .cases hy
  generalize (if h=bb then θ x else none:Option Int)=o at bI uD ⊢;rw[bI.out];clear bI;generalize (h==bb)=q at adh ⊢;go_enter Q1,ntmps203;go_wp2_with fail;refine uR.mono ?_;rintro e bF ⟨rfl,aj⟩;have oM:Hid (∀s:bf bF,s.w.cell? ⟨ES,0,η⟩=θ (.slice lo l.length cl)/\s.w.cell? ⟨ET,0,η⟩=θ (.func (.func g) #[] #[])/\Ξ ah 107 #[.slice lo l.length cl,.int .i64 t] s.w λe w'=>e=.returned (.bool h)/\Below s.w.heap.size s.w w'):=λs=>ak.out s.w (bJ aj s.h);have f1:∀s:bf bF,s.w.cell? ⟨ES,0,η⟩=θ (.slice lo l.length cl):=λs=>(oM.out s).1;have f2:∀s:bf bF,s.w.cell? ⟨ET,0,η⟩=θ (.func (.func g) #[] #[]):=λs=>(oM.out s).2.1;have hne:Nonempty (bf bF):=⟨⟨bF,Below.refl _ _⟩⟩;go_wp2_with fail;refine wp_region_held bF (Below.refl _ _) (by kernel_rfl) (by kernel_rfl) ?_;repeat (go_big_quiet_step ((first|(go_at_call 107;exact mI (oM.out _).2.2)|(go_at_fn g;exact Dl (adh _)))))
  refine pq ?_;rintro _ ⟨s,rfl⟩;have fS:=bJ aj s.h;generalize s.w=w1 at fS ⊢;clear f1 f2 hne oM;go_wp2;go_ret2;exact⟨⟨x,rfl,uD.out⟩,fS⟩
def EU(m:List (Int×Int×Int))(l:List (Int×Int))(bb:Bool)(n:Int)(r:List (Int×Int×Int)):Prop:=
 (¬bZ m=0/\n=bZ m/\r=[])\/(bZ m=0/\¬dY l=0/\n=dY l/\r=[])\/(bZ m=0/\dY l=0/\uy (bO m++flat l) (oR m l bb) n r)
theorem asS(h:¬dY l=0):∃n,dY l=n/\(n=2\/n=5):=by
 rcases Y4 l with e|e|⟨e,_⟩
 .exact⟨2,e,.inl rfl⟩
 .exact⟨5,e,.inr rfl⟩
 .exact absurd e h
theorem asT(h:dY l=0):l.length<=200/\Canon l/\∀x∈flat l,cT x:=by
 rcases Y4 l with e|e|⟨_,h1,h2,h3⟩
 .omega
 .omega
 .exact⟨h1,amm h3,amq h2⟩
theorem asU g bb(oc:∀args w,(gX g args).run ah w=.ok (.enter g args) w)(hg:∀x w,Ξ ah g #[.bool x] w λe w'=>e=.returned (.bool (x==bb))/\w'=w)ao lo ca cl m l w(hA:cm w ao m)(hL:eg w lo l):Ξ ah 197 #[.slice ao m.length ca,.slice lo l.length cl,.func (.func g) #[] #[]] w λe w'=>∃n r,EU m l bb n r/\LB w w' e n r:=by
 have h1:=λW (h:Below w.heap.size w W)=>Io ao ca m W (hA.below h);have h2:=λW (h:Below w.heap.size w W)=>amL lo cl l W (hL.below h);have aA:=Ip w (.slice ao m.length ca) (.slice lo l.length cl) (.func (.func g) #[] #[]) 127 56 277;by_cases e1:¬bZ m=0
 .obtain⟨n,en,hn⟩:=MI e1;have ak:Hid (EU m l bb n []):=.inl ⟨e1,en.symm,rfl⟩;simp only[en]at h1;clear e1 en h2;rcases hn with rfl|rfl;all_goals
   go_enter QZ,ntmps197;go_wp2_with fail;refine(h1 _ aA.aQ).mono ?_;rintro e w1 ⟨rfl,aj⟩;have g1:=bJ aA.aQ aj;clear aA aj;go_wp2;go_ret2;exact⟨_,_,ak.out,_,rfl,Co _ _,g1⟩
 rw[tq]at e1;simp only[e1]at h1;obtain⟨la,_,na⟩:=MJ e1;have rV:Hid (bZ m=0):=e1;clear e1 na;by_cases e2:¬dY l=0
 .obtain⟨n,en,hn⟩:=asS e2;have ak:Hid (EU m l bb n []):=.inr (.inl ⟨rV.out,e2,en.symm,rfl⟩);simp only[en]at h2;clear e2 en;rcases hn with rfl|rfl;all_goals
   go_enter QZ,ntmps197;go_wp2_with fail;refine(h1 _ aA.aQ).mono ?_;rintro e w1 ⟨rfl,aj⟩;have bD:=aA.below aj;have lM:=bD.c2;have g1:=bD.aQ;clear aA aj bD;go_wp2_with fail;refine(h2 _ g1).mono ?_;rintro e w2 ⟨rfl,aq⟩;have g2:=bJ g1 aq;clear g1 aq lM;go_wp2;go_ret2;exact⟨_,_,ak.out,_,rfl,Co _ _,g2⟩
 rw[tq]at e2;simp only[e2]at h2;obtain⟨ll,_,nl⟩:=asT e2;have kg:Hid (dY l=0):=e2;clear e2 nl;obtain⟨i0,hi,cg,hz1,bX⟩:=er Tryz.ua;have ac9:∀(fn:Fn) (first cap:Array ay) (w:υ),(DD fn first cap).run ah w=.ok (.func fn first cap) w:=λ_ _ _ _=>rfl;have p7:Hid ((bO m++flat l).length=2*m.length+2*l.length):=by show _=_;rw[List.length_append,zB,K9]
 have hgo:Hid (∀w2,Cm w w2 (.slice ao m.length ca) (.slice lo l.length cl) (.func (.func g) #[] #[])->∀W gg dm,W.ownsRow w2.heap.size 3 1 (.slice (θ ⟨gg,0,η⟩) (2*m.length+2*l.length) dm) (2*m.length+2*l.length) ((bO m++flat l).map (bM .i64))->Below w2.heap.size w2 W ->
   Ξ ah 175 #[.slice (θ ⟨gg,0,η⟩) (2*m.length+2*l.length) dm,.func (.func 203) #[] #[.pointer (θ ⟨w.heap.size,0,η⟩),.pointer (θ ⟨w.heap.size+1+1,0,η⟩),.pointer (θ ⟨w.heap.size+1,0,η⟩)]] W λe w'=>∃n r v',EU m l bb n r/\e=.returned (.tuple #[v',.int .i64 n])/\w'.ownsRow w.heap.size 176 3 v' r.length (bV r)/\Below w2.heap.size w2 w'):=by
  intro w2 bt W gg dm hv Iq;have hp:∀t cj,Below w2.heap.size w2 cj->Ξ ah 203 (#[.int .i64 t]++#[.pointer (θ ⟨w.heap.size,0,η⟩),.pointer (θ ⟨w.heap.size+1+1,0,η⟩),.pointer (θ ⟨w.heap.size+1,0,η⟩)]) cj λe w'=>(∃x,e=.returned (.tuple #[.int .i64 x,.bool (oR m l bb t).isSome])/\∀y,oR m l bb t=θ y->x=y)/\Below cj.heap.size cj w':=by intro t cj hq;have ot:=bt.below hq;exact asR g bb oc hg w.heap.size (w.heap.size+1) (w.heap.size+1+1) ao lo ca cl m l t cj (hA.below ot.aQ) (hL.below ot.aQ) la ll ot.c1 ot.c2 ot.c3
  have fM:=TK 203 _ (oR m l bb) (enters_of Q1 (by kernel_rfl) rfl) w2 W Iq hp gg dm (bO m++flat l) (by rw[p7.out];exact hv) (by rw[p7.out];omega);rw[p7.out]at fM;refine fM.mono ?_;rintro e w' ⟨n,r,v',hM,rfl,ho,hb⟩;exact⟨n,r,v',.inr (.inr ⟨rV.out,kg.out,hM⟩),rfl,EO ho bt.aQ.size,hb⟩
 have wD:Hid (∀W,Below w.heap.size w W->cm W ao m/\eg W lo l):=λW h=>⟨hA.below h,hL.below h⟩;clear hA hL hg;go_enter QZ,ntmps197;go_wp2_with fail;refine(h1 _ aA.aQ).mono ?_;rintro e w1 ⟨rfl,aj⟩;have bD:=aA.below aj;have lM:=bD.c2;have g1:=bD.aQ;clear aA aj;go_wp2_with fail;refine(h2 _ g1).mono ?_;rintro e w2 ⟨rfl,aq⟩;have bt:=bD.below aq;clear g1 aq lM bD h1 h2;have ir:=bt.c1;have aN:=Cn bt;have Iu:=Cn (hgo.out w2 bt);clear hgo;go_wp2_with fail;refine(nU ao ca m w2 (wD.out w2 bt.aQ).1 la).mono ?_;rintro e w3 ⟨g3,rfl,qJ,aB⟩;have lM:=(bt.below aB).c2;have asV:=Cn (λW (h:Below w2.heap.size w2 W)=>(wD.out W (bJ bt.aQ h)).2);have Ir:=Cn bt.aQ;clear bt ir wD;go_wp2_with fail;go_loopw [10,27] (λv i wr=>∃(k gg fI:Nat),k<=l.length/\i=.int .i64 k/\v=.slice (θ ⟨gg,0,η⟩) (2*m.length+2*k) fI/\wr.ownsRow w2.heap.size 3 1 (.slice (θ ⟨gg,0,η⟩) (2*m.length+2*k) fI) (2*m.length+2*k) ((bO m++flat (l.take k)).map (bM .i64))/\Below w2.heap.size w2 wr) (λ_ i _=>l.length-(intOf i).toNat)
 case atStart=>exact⟨0,g3,2*m.length,Nat.zero_le _,rfl,rfl,by simpa[flat]using qJ,aB⟩
 case round=>
  obtain⟨k,gg,fI,hk,rfl,rfl,hown,hb⟩:=hrel;have hsz:=hb.size;by_cases hlt:k<l.length
  .rcases asV.out wr hb with h0|⟨b,off,rfl,bQ,hc⟩
   .subst h0;simp at hlt
   obtain⟨c0,c1⟩:=hc k hlt;(have hg:l.getD k (0,0)=l[k]:=by simp[List.getD_eq_getElem?_getD,List.getElem?_eq_getElem hlt]);rw[hg]at c0 c1;clear hc hg;go_wp2_with(at_builtin;refine zX _ rfl _ _ 50 rfl w2.heap.size 3 i0 (.int .i64 0) 1 8 ((cD 50).trans underlying50) hi cg hz1 bX rfl (by decide) _ (2*m.length+2*k) _ rfl ((hown.alloc _).alloc _) ⟨wr.heap.size+1,0,η⟩ 2 2 [.int .i64 l[k].1,.int .i64 l[k].2] rfl rfl ?c1 ?c2 ?c3 ?c4 ?c5 ?nS _ rfl ?_)
   case c1=>exact Lc _ _ _ _ _ (by simp)
   case c2=>intro u hu;simp at hu;rcases hu with rfl|rfl<;>rfl
   case c3=>omega
   case c4=>unfold maxLen;omega
   case c5=>omega
   case nS=>simp;omega
   (intro g5 adi aO iE hgrow hat jl;have R:aO.ownsRow w2.heap.size 3 1 (.slice (θ ⟨g5,0,η⟩) (2*m.length+2*(k+1)) adi) (2*m.length+2*(k+1)) ((bO m++flat (l.take (k+1))).map (bM .i64)):=by rw[ame l k hlt];simp only[List.map_append,List.map_cons,List.map_nil];exact iE);have hb':Below w2.heap.size w2 aO:=((hb.alloc hsz _).alloc (by simp;omega) _).grown hgrow (by simp;omega) (λj hj=>(hown.lt j hj).1);clear hown iE hgrow hat jl;go_wp2;go_roundw
   case rel=>exact⟨k+1,g5,adi,by omega,by go_num,rfl,R,hb'⟩
   case measure=>simp[intOf];omega
  ·(have bp:k=l.length:=by omega);subst bp;rw[List.take_length]at hown;have fM:=Iu.out wr gg fI hown hb;clear hown;go_wp2_with fail;refine fM.mono ?_;rintro e bW ⟨Cr,Cs,v6,Ak,rfl,Iv,dD⟩;have Iw:=Cn Ak;have cz:Below w.heap.size w bW:=bJ Ir.out dD;clear Ak dD fM;go_wp2;go_ret2;exact⟨Cr,Cs,Iw.out,v6,rfl,Iv,cz⟩
theorem asW x w:Ξ ah 198 #[.bool x] w λe w'=>e=.returned (.bool (x==ν))/\w'=w:=by
 cases x
 all_goals
  go_enter YG,ntmps198;go_wp2;go_ret;exact⟨rfl,rfl⟩
theorem asX ao lo ca cl m l w(hA:cm w ao m)(hL:eg w lo l):Ξ ah 187 #[.slice ao m.length ca,.slice lo l.length cl] w λe w'=>∃n r,EU m l ν n r/\LB w w' e n r:=by have hc:=asU 198 ν (enters_of YG (by kernel_rfl) rfl) asW ao lo ca cl m l w hA hL;go_enter aly,ntmps187;go_wp2_with fail;refine hc.mono ?_;rintro e w1 ⟨n,r,hC,v,rfl,ho,hb⟩;go_wp2;go_ret2;exact⟨_,_,hC,_,rfl,ho,hb⟩
def Cu:List Int:=(List.range 101).map λi:Nat=>(i:Int)
theorem Cv{x}:x∈Cu↔0<=x/\x<=100:=by
 unfold Cu;rw[List.mem_map];constructor
 .rintro⟨i,hi,rfl⟩;rw[List.mem_range]at hi;omega
 .intro h;exact⟨x.toNat,by rw[List.mem_range];omega,by omega⟩
theorem MN:Cu.length=101:=by simp[Cu]
structure aE(B:Int)(m:List (Int×Int×Int)):Prop where
 canon:eo m
 time:∀q∈m,0<=q.1/\q.2.1<=100
 vals:∀q∈m,0<=q.2.2/\q.2.2<=B
theorem MO B:aE B []:=⟨trivial,λq hq=>(by cases hq),λq hq=>(by cases hq)⟩
theorem aE.mono{B B'}(h:aE B m)(hB:B<=B'):aE B' m:=⟨h.canon,h.time,λq hq=>by have:=h.vals q hq;omega⟩
theorem aE.of{B}(h:aE B m)(hB:B<=1000000):yo Cu m:=by
 refine⟨h.canon,λq hq=>?_,λq hq=>?_⟩
 .have h1:=h.time q hq;have h2:=h.vals q hq;have h3:=G6 h.canon q hq;unfold dW cT;omega
 .have h1:=h.time q hq;have h3:=G6 h.canon q hq;exact⟨Cv.2 (by omega),Cv.2 (by omega)⟩
theorem aE.len{B}(h:aE B m)(hB:B<=1000000):m.length<=101:=by have:=(h.of hB).len;rw[MN]at this;exact this
theorem aE.dY{B}(h:aE B m)(hB:B<=1000000):bZ m=0:=(h.of hB).dY (by rw[MN];omega)
theorem aE.turns{B}(h:aE B m)(hB:B<=1000000):∀x∈bO m,0<=x/\x<=100:=λx hx=>Cv.1 ((h.of hB).turns x hx)
theorem TS:∀{m:List (Int×Int×Int)},eo m->∀q∈m,aC m q.1=θ q.2.2
 |[],_,q,hq=>by cases hq
 |p::m,h,q,hq=>by
  rcases List.mem_cons.1 hq with rfl|hq
  .exact xF (Int.le_refl _) h.1
  .rw[LA (BM h q hq)];exact TS h.2.2 q hq
theorem aE.aC{B}(h:aE B m)(e:aC m t=θ v):(0<=v/\v<=B)/\0<=t/\t<100:=by obtain⟨q,hq,h1,rfl⟩:=ZY e;unfold dh at h1;have:=h.time q hq;simp at h1;exact⟨h.vals q hq,by omega,by omega⟩
theorem TT{A}{f}{n B}{r}(h:uy A f n r)(hf:∀S,(∀x,x∈S↔x∈A)->wB S f)(hB:B<=1000000)(hv:∀s v,f s=θ v->0<=v/\v<=B)(hA:∀x∈A,0<=x/\x<=100):n=0/\aE B r/\∀t,Go.Proofs.YtfphigmeppdocaaGreatDoor.Q.aC r t=f t:=by obtain⟨h1,h2,h3⟩:=asQ (T:=Cu) h hf (λs v e=>by have:=hv s v e;unfold cT;omega) (λx hx=>by have:=hA x hx;unfold cT;omega) (λx hx=>Cv.2 (hA x hx)) (by rw[MN];omega);refine⟨h1,⟨h2.canon,λq hq=>⟨(Cv.1 (h2.mem q hq).1).1,(Cv.1 (h2.mem q hq).2).2⟩,λq hq=>?_⟩,h3⟩;exact hv q.1 _ (by rw[<-h3];exact TS h2.canon q hq)
theorem TU{a b r}{n B}(ha:aE B a)(hb:aE B b)(hB:B<=1000000)(h:Aj a b 1 n r):n=0/\aE B r/\∀t,aC r t=iG 1 (aC a t) (aC b t):=by
 rcases h with⟨e,_⟩|⟨_,e,_⟩|⟨_,_,e,_⟩|⟨_,_,_,h⟩
 .exact absurd (ha.dY hB) e
 .exact absurd (hb.dY hB) e
 .exact absurd (.inl rfl) e
 .refine TT h (λS hS=>ar6 hS) hB (λs v e=>?_) (λx hx=>?_)
  .unfold tC at e;cases e1:aC a s with
   |none=>
    rw[e1]at e;exact(hb.aC e).1
   |some x=>
    cases e2:aC b s with
    |none=>rw[e1,e2]at e;cases e;exact(ha.aC e1).1
    |some y=>
     rw[e1,e2]at e;have:=(ha.aC e1).1;have:=(hb.aC e2).1;have:v=min x y:=(jP e).symm;omega
  .rcases List.mem_append.1 hx with hx|hx
   .exact ha.turns hB x hx
   .exact hb.turns hB x hx
theorem asY{r}{p}{n B}(hm:aE B m)(h1:0<=p.1/\p.1<=100/\0<=p.2.1/\p.2.1<=100)(h2:0<=p.2.2/\p.2.2<=B)(hB:B<=1000000)(h:ER m p n r):n=0/\aE B r/\∀t,aC r t=nB m p t:=by
 rcases h with⟨e,_⟩|⟨_,e,_⟩|⟨_,_,h⟩
 .exact absurd (hm.dY hB) e
 .exact absurd (by unfold dW cT;omega) e
 .refine TT h (λS hS=>ar4 hS) hB (λs v e=>?_) (λx hx=>?_)
  .unfold nB at e;split at e
   .cases e;exact h2
   .exact(hm.aC e).1
  .rcases List.mem_append.1 hx with hx|hx
   .exact hm.turns hB x hx
   .simp at hx;omega
theorem asZ{r}{f n B}(hm:aE B m)(h1:0<=f/\f<t/\t<=100)(hB:B<=1000000)(h:EU m [(f,t)] ν n r):n=0/\aE B r/\∀s,aC r s=if f<=s/\s<t then aC m s else none:=by
 have hc:dY [(f,t)]=0:=ams (by unfold Canon;simp[flat];omega) (by intro x hx;simp[flat]at hx;unfold cT;omega) (by simp);rcases h with⟨e,_⟩|⟨_,e,_⟩|⟨_,_,h⟩
 .exact absurd (hm.dY hB) e
 .exact absurd hc e
 .obtain⟨g1,g2,g3⟩:=TT h (λS hS=>ar5 hS) hB (λs v e=>by unfold oR at e;split at e;exact(hm.aC e).1;cases e) (λx hx=>by
   rcases List.mem_append.1 hx with hx|hx
   .exact hm.turns hB x hx
   .simp[flat]at hx;omega)
  refine⟨g1,g2,λs=>?_⟩;rw[g3 s];unfold oR;by_cases hs:f<=s/\s<t
  .rw[χ hs,χ (by simp[has,hs])]
  .rw[ς hs,ς (by simp[has];omega)]
def p8(m:List (Int×Int×Int))(k:Int):List (Int×Int×Int):=m.map λq=>(q.1,q.2.1,q.2.2+k)
theorem adj k:∀{m:List (Int×Int×Int)},eo m->eo (p8 m k)
 |[],_=>trivial
 |p::m,h=>by
  refine⟨h.1,λq hq=>?_,adj k h.2.2⟩;cases m with
  |nil=>simp at hq
  |cons z m=>
   (have e:q=(z.1,z.2.1,z.2.2+k):=by simpa[eq_comm]using hq);subst e;have:=h.2.1 z (by simp);unfold qv at this ⊢;simp at this ⊢;omega
theorem adk k:∀(m:List (Int×Int×Int)) (t:Int),aC (p8 m k) t=(aC m t).map (·+k)
 |[],t=>rfl
 |p::m,t=>by show aC ((p.1,p.2.1,p.2.2+k)::p8 m k) t=_;rw[jm,jm,adk k m t];have:dh (p.1,p.2.1,p.2.2+k) t=dh p t:=rfl;rw[this];split<;>rfl
theorem as0{B k}(h:aE B m)(hk:0<=k):aE (B+k) (p8 m k):=by
 refine⟨adj k h.canon,λq hq=>?_,λq hq=>?_⟩;all_goals
  unfold p8 at hq;rw[List.mem_map]at hq;obtain⟨z,hz,rfl⟩:=hq
 .exact h.time z hz
 .have:=h.vals z hz;show 0<=z.2.2+k/\z.2.2+k<=B+k;omega
theorem adl(h0:aK g=0)(ht:t<0\/g.hor<=t)v:(cU t g.lives).getD v ο=false:=by
 have R:=ei h0;by_cases hv:v<g.lives.length
 .have h1:=pJ t g.lives v hv;unfold bl at h1;rw[Int.toNat_natCast]at h1;rw[h1];have:=R.life _ (List.getElem_mem hv);exact G5 (by omega)
 .rw[List.getD_eq_getElem?_getD,List.getElem?_eq_none (by rw[nh];omega)];rfl
theorem as1(h0:aK g=0)(ht:t<0\/g.hor<=t):dc t g.lives g.af=[]:=by rw[List.eq_nil_iff_forall_not_mem];intro a ha;obtain⟨e,_,l,_,_,_,h1,_⟩:=(Cf h0).1 ha;unfold bl at h1;rw[adl h0 ht]at h1;cases h1
theorem MP{g}(h0:aK g=0){t}(ht:t<0\/g.hor<=t)p fr:∀r,bH g p fr r t=bH g p fr 0 t
 |0=>rfl
 |r+1=>by have ih:=MP h0 ht p fr r;unfold bH at ih ⊢;rw[as1 h0 ht]at ih ⊢;show xJ [] (kQ p) (decide (p=3)) (xK [] (kQ p) (decide (p=3)) r (iO (cU t g.lives) (yj p fr)))=_;rw[ih];rfl
theorem as2(h0:aK g=0)(ht:t<0\/g.hor<=t)p fr r{v}(hv:v<g.lives.length):nA ((bH g p fr r t).getD v 0)=none:=by
 rw[MP h0 ht p fr r];have e:(bH g p fr 0 t).getD v 0=if(cU t g.lives).getD v ο=ν then yj p fr v else 1099511627776:=zD _ _ v (by rw[nh];exact hv)
 rw[e,adl h0 ht];rfl
theorem as3(h0:aK g=0){p}{fr}{T}(hT:yl g p fr r T)(hS:∀t:Int,bH g p fr (r+1) t=bH g p fr r t){v}(hv:v<g.lives.length):T v=fT g p fr v g.hor.toNat:=by
 have hh:=(ei h0).hor;obtain⟨a1,_,a3⟩:=Tq h0 p fr hv g.hor.toNat;refine an2 (hT v hv).1 a1 (λt=>?_);rw[(hT v hv).2 t,a3 t];show nA ((bH g p fr r t).getD v 0)=_;by_cases ht:0<=t/\t<g.hor
 .rw[χ (by omega)];obtain⟨k,e,k1,k2,bz⟩:=EK h0 p fr t.toNat;have et:((t.toNat:Nat):Int)=t:=by omega
  rw[et]at e k1 k2 bz;rw[e];have:bH g p fr r t=bH g p fr k t:=by
   by_cases hk:k<=r
   .have:=bz (r-k);rw[show k+(r-k)=r by omega]at this;exact this
   .exact absurd (hS t) (k2 r (by omega))
  rw[this]
 .rw[ς (by omega)];exact as2 h0 (by omega) p fr r hv
theorem as4(h0:aK g=0){p}{fr}{N'}(hN:wA g p fr (r+1) N'){v}(hv:v<g.lives.length)(he:N' v≠[]):∃t:Nat,(t:Int)<g.hor/\¬bH g p fr (r+1) t=bH g p fr r t:=by
 cases hm:N' v with
 |nil=>exact absurd hm he
 |cons q m=>
  have hc:=(hN v hv).1;rw[hm]at hc;have h1:=(hN v hv).2 q.1;rw[hm,jm,χ (by unfold dh;have:=hc.1;simp;omega)]at h1;have h2:om (bH g p fr r q.1) (bH g p fr (r+1) q.1) v=θ q.2.2:=h1.symm;have hne:¬bH g p fr (r+1) q.1=bH g p fr r q.1:=λe=>by unfold om at h2;rw[e,ς (by omega)]at h2;cases h2
  by_cases ht:q.1<0\/g.hor<=q.1
  .exact absurd ((MP h0 ht p fr (r+1)).trans (MP h0 ht p fr r).symm) hne
  .refine⟨q.1.toNat,by omega,?_⟩;rw[show ((q.1.toNat:Nat):Int)=q.1 by omega];exact hne
theorem as5 a b:iG 1 a b=Ib a b:=by cases a<;>cases b<;>first|rfl|(unfold iG Ib both;simp;omega)
theorem EV{α β:Type}(f:α->List β)c:∀l:List α,(∀a∈l,(f a).length<=c)->(l.flatMap f).length<=l.length*c
 |[],_=>by simp
 |a::l,h=>by have h1:=EV f c l (λb hb=>h b (List.mem_cons_of_mem _ hb));have h2:=h a (List.mem_cons_self ..);rw[List.flatMap_cons,List.length_append,List.length_cons,Nat.succ_mul];omega
theorem TV g p e l:(lW g p e l).length<=2:=by
 unfold lW;split
 .simp
 .split<;>simp
theorem as6(h0:aK g=0)p:(eR g p).length<=360:=by
 have R:=ei h0;have h1:=EV (λe:eF=>e.2.2.flatMap λl=>lW g p e l) 12 g.af (λe he=>by
  have h2:=EV (λl=>lW g p e l) 2 e.2.2 (λl _=>TV g p e l);have h3:=(R.ends e he).2.2;omega)
 have h4:=R.qm;unfold eR;omega
theorem as7(h0:aK g=0)p fr t:(ny g p fr t).2<=g.lives.length:=by
 obtain⟨k,e,h1,h2,_⟩:=EK h0 p fr t;rw[e];rcases Nat.lt_or_ge g.lives.length k with c|c
 .exfalso;have:=(wz h0 p fr (t:Int)).still (r:=g.lives.length) (by omega);exact h2 g.lives.length c this
 .exact c
theorem as8(h0:aK g=0){p}(hp:p=1\/p=2\/p=3)fr t{v}(hv:v<g.lives.length)(hl:(ny g p fr t).1.getD v 0<1099511627776):0<=(ny g p fr t).1.getD v 0/\(ny g p fr t).1.getD v 0<=100000:=by have S:=Tj (ei h0) (t:Int);have hk:=as7 h0 p fr t;have h12:=(ei h0).tF;obtain⟨k,e,h1,h2,_⟩:=EK h0 p fr t;have R:Ce g p fr t (bH g p fr k t) k:=acG.2 ⟨rfl,h1,h2⟩;rw[e]at hl hk ⊢;simp only at hl hk ⊢;unfold Ce at R;have F:=arB S fr hp;have B:=arA F.1 F.2 R;have lo:=B.mid.lo F.1 v (by rw[qz,nh];exact hv);have sm:=(wz h0 p fr (t:Int)).small (B:=12) (λv hv hlt=>(Cg h12 v hv).2 hlt) k v hv hl;exact⟨lo,by omega⟩
end Go.Proofs.YtfphigmeppdocaaGreatDoor.Q
