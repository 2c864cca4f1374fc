/-
  Several texts in one.
-/
import Derived.Lib.ItoaLen
import Derived.Test.YtfphigmeppdocaaGreatDoorPk4
open Array renaming getElem?_eq_some_iff->ξ,replicate->Δ,getElem?_eq_none->gx,length_toList->jk,getElem?_push->iV,getElem?_modify->q6,getElem?_setIfInBounds->wL,size_push->TW
open Bool renaming true->ν,false->ο
open Classical renaming byContradiction->wM
open Decidable renaming not_not->tq
open Go renaming World->υ,TypeId->Θ,Calls->Ξ,Value->ay,execOp->aL,bodyPost_ret->cR,info_parts->er,wpAnyH_done->gU,madeCells->fo,Addr->bP,wpList_append_lies->zX,wpList_append_own->x7,mem_ready->lz,yielded->jv,wpList_make_full->uh,wp_region_noPanic->BC,wrap_small->uj,wpOps->ju,getD_set_true->zj,wpAny->j3,wpList_append_own_at->TX,step_seq->EW,wp_region->TY
open Go.Act renaming put->dz
open Go.Addr renaming add->jT
open Go.Ending renaming returned->sH
open Go.Instr renaming extract->AM
open Go.Lib renaming cell_of_heap->eu,itoa->dK,frozen_of_heap->vH,itoa_length_le->Al,cut->uk
open Go.NoPanic renaming normal->rB
open Go.Region renaming wanted->cF,ready->dZ,schedule->kY,binds->k9,noSelect->GX,linearise->adm
open Go.Region.linearise renaming go->iA
open Go.Result renaming ok->qX
open Go.Value renaming int->bM,string->gV,slice->j4,agg->BF
open Go.Value.slice renaming injEq->jU
open Go.World renaming ownsRow_nil->dJ,cell?->c7,setCell->eV,news_of_block->nR,size_alloc->lC,frozen?->qY,ownsRow->x9
open Go.World.ownsRow renaming alloc->fW,frozenAt->mX,lt->kL,cellAt->qi,stored->xE
open Ne renaming symm->jx
open Option renaming none->η,some->θ,getD_some->Ω,isSome_some->gu,isSome_none->ic,map_eq_some_iff->kZ,getD_none->jG,isNone_iff_eq_none->AU
open Option.some renaming injEq->Γ,inj->jP
set_option linter.unusedSimpArgs false
set_option maxHeartbeats 8000000
set_option maxRecDepth 100000
namespace Go.Proofs.YtfphigmeppdocaaGreatDoor.Q
open Lo (ah)
variable{ops:Array Oper}{cs:Array ay}{d h how t t0 v v0:Int}{F:Int->Int->Option Int}{q:Int×Int×Int}{l:List (Int×Int)}{m:List (Int×Int×Int)}{al:List Bool}{S T ns x:List Int}{xs:List ay}{B cap e aT i j k n r:Nat}{val:Nat->ay}{o st:Oper}{ao:Option bP}{P:Program}{cO cG:ay}{W W' w w' w0:υ}
variable{M:kq}
variable{pr:b7->Int}
variable{g:bg}{L:List (eF×ay)}
variable{p:b9->Int}{ai:List b9}
def nT.a(o:nT):Int:=o.n.getD 0 0
def nT.b(o:nT):Int:=o.n.getD 1 0
def eT(g:bg)(o:nT)(l:List Int)(e:Int):Prop:=
 if o.name=lG\/o.name=rD\/o.name=ur then
  if ng g o.a≠0 then l=[]/\e=ng g o.a
  else if o.name=lG then wo (cU o.a g.lives) (dc o.a g.lives g.af) e l
  else if o.name=rD then nw (cU o.a g.lives) (dc o.a g.lives g.af) o.b (λ_=>1) e l
  else nw (cU o.a g.lives) (dc o.a g.lives g.af) o.b (λa=>a.2.2) e l
 else if o.name=sW then l=zT g o.a o.b/\e=dB g o.a o.b
 else if o.name=vL then l=zU g o.a o.b/\e=dB g o.a o.b
 else if o.name=vM then wj g Mh o.a o.b l/\e=dB g o.a o.b
 else if o.name=vN then wj g HR o.a o.b l/\e=dB g o.a o.b
 else if o.name=mZ then∃d x,l=[d,x]/\B6 g o.a o.b d x e
 else l=[(n5 g o.a o.b o.hops).1,(n5 g o.a o.b o.hops).2.1,(n5 g o.a o.b o.hops).2.2.1]/\e=(n5 g o.a o.b o.hops).2.2.2
def TZ(l:List Int)(e:Int):List UInt8:=if e=0 then pI l else ie e
def adn(g:bg)(o:nT)(r:List UInt8):Prop:=r=if gh g o.a o.b≠0 then ie (gh g o.a o.b)else vO ((List.range g.lives.length).map λv=>lI (fT g o.a.toNat o.b v g.hor.toNat))
def fe(g:bg)(o:nT)(r:List UInt8):Prop:=
 if o.name=gL then r=rA g++lH
 else if o.name=kO then adn g o r
 else∃l e,eT g o l e/\r=TZ l e
theorem ado{fr}{n n'}{r r'}(h:nw al ai fr p n r)(k:nw al ai fr p n' r'):n=n'/\r=r':=by
 rcases h with⟨h1,h2,h3⟩|⟨h1,h2,h3,h4⟩|⟨h1,h2,h3,h4⟩<;>rcases k with⟨k1,k2,bz⟩|⟨k1,k2,bz,eB⟩|⟨k1,k2,bz,eB⟩
 .exact⟨h2.trans k2.symm,h3.trans bz.symm⟩
 .exact absurd k1 h1
 .exact absurd k1 h1
 .exact absurd h1 k1
 .exact⟨h3.trans bz.symm,h4.trans eB.symm⟩
 .rw[h2]at k2;cases k2
 .exact absurd h1 k1
 .rw[h2]at k2;cases k2
 .exact⟨h3.trans bz.symm,Z5 h4 eB⟩
theorem as9{n n'}{r r'}(h:wo al ai n r)(k:wo al ai n' r'):n=n'/\r=r':=by
 rcases h with⟨h1,h2,h3⟩|⟨h1,h2,h3⟩<;>rcases k with⟨k1,k2,bz⟩|⟨k1,k2,bz⟩
 .exact⟨h2.trans k2.symm,h3.trans bz.symm⟩
 .exact absurd k1 h1
 .exact absurd h1 k1
 .exact⟨h2.trans k2.symm,Z5 h3 bz⟩
theorem adp(R:cQ g)(lR:uI g pr){L L'}(h:wj g pr v t L)(k:wj g pr v t L'):L=L':=by
 rcases h with⟨h1,h2⟩|⟨h1,h2⟩<;>rcases k with⟨k1,k2⟩|⟨k1,k2⟩
 .exact h2.trans k2.symm
 .exact absurd k1 h1
 .exact absurd h1 k1
 .exact apK R lR (uB h1).2.1.1 h2 k2
theorem ata{q a e d' a' e'}(h:B6 g v q d a e)(k:B6 g v q d' a' e'):d=d'/\a=a'/\e=e':=by
 rcases h with⟨h1,h2,h3,h4⟩|⟨h1,h2,h3,h4,h5⟩|⟨h1,h2,h3⟩<;>rcases k with⟨k1,k2,bz,eB⟩|⟨k1,k2,bz,eB,sM⟩|⟨k1,k2,bz⟩
 .omega
 .exact absurd k1 h1
 .exact absurd k1 h1
 .exact absurd h1 k1
 .omega
 .exact absurd k2 h2
 .exact absurd h1 k1
 .exact absurd h2 k2
 .exact aqt h3 bz
theorem atb(h0:aK g=0){o}{l l'}{e e'}(h:eT g o l e)(k:eT g o l' e'):l=l'/\e=e':=by
 have R:=ei h0;unfold eT at h k;split at h
 .rename_i c;rw[χ c]at k;split at h
  .rename_i c;rw[χ c]at k;exact⟨h.1.trans k.1.symm,h.2.trans k.2.symm⟩
  .rename_i c;rw[ς c]at k;split at h
   .rename_i c;rw[χ c]at k;exact(as9 h k).symm
   .rename_i c;rw[ς c]at k;split at h
    .rename_i c;rw[χ c]at k;exact(ado h k).symm
    .rename_i c;rw[ς c]at k;exact(ado h k).symm
 .rename_i c;rw[ς c]at k;split at h
  .rename_i c;rw[χ c]at k;exact⟨h.1.trans k.1.symm,h.2.trans k.2.symm⟩
  .rename_i c;rw[ς c]at k;split at h
   .rename_i c;rw[χ c]at k;exact⟨h.1.trans k.1.symm,h.2.trans k.2.symm⟩
   .rename_i c;rw[ς c]at k;split at h
    .rename_i c;rw[χ c]at k;exact⟨adp R (SY R) h.1 k.1,h.2.trans k.2.symm⟩
    .rename_i c;rw[ς c]at k;split at h
     .rename_i c;rw[χ c]at k;exact⟨adp R (SZ g) h.1 k.1,h.2.trans k.2.symm⟩
     .rename_i c;rw[ς c]at k;split at h
      .rename_i c;rw[χ c]at k;obtain⟨d,x,rfl,h⟩:=h;obtain⟨d',x',rfl,k⟩:=k;obtain⟨rfl,rfl,rfl⟩:=ata h k;exact⟨rfl,rfl⟩
      .rename_i c;rw[ς c]at k;exact⟨h.1.trans k.1.symm,h.2.trans k.2.symm⟩
theorem T3 g o a b(h0:aK g=0)(h:fe g o a)(k:fe g o b):a=b:=by
 unfold fe at h k;split at h
 .rename_i c;rw[χ c]at k;exact h.trans k.symm
 .rename_i c;rw[ς c]at k;split at h
  .rename_i c;rw[χ c]at k;exact h.trans k.symm
  .rename_i c;rw[ς c]at k;obtain⟨l,e,h1,rfl⟩:=h;obtain⟨l',e',k1,rfl⟩:=k;obtain⟨rfl,rfl⟩:=atb h0 h1 k1;rfl
def rW(l:List Int):Prop:=l.length<=12/\∀x∈l, -1<=x/\x<=1099511627776
theorem MQ{l}(h1:l.length=n)(h2:n<=12)(h3:∀v:Nat,v<n-> -1<=l.getD v 0/\l.getD v 0<=1099511627776):rW l:=by refine⟨by omega,λx hx=>?_⟩;obtain⟨v,hv,rfl⟩:=List.getElem_of_mem hx;have:=h3 v (by omega);rwa[List.getD_eq_getElem?_getD,List.getElem?_eq_getElem hv]at this
theorem adq{f}(h:uz (iO al f) ai p x)(hal:al.length<=12)(hf:∀v:Nat,v<al.length->0<=f v/\f v<=1099511627776)(hp:∀a∈ai,0<=p a):rW x:=by
 have hl:=h.mid.len;rw[qz]at hl;refine MQ hl hal λv hv=>?_;have h1:=h.mid.le v (by rw[qz];exact hv);have h2:=h.mid.most (λ_=>0) ⟨λu hu=>by
  rw[qz]at hu;rw[zD _ _ _ hu];split
  .exact(hf u hu).1
  .omega,λa ha=>by have:=hp a ha;omega⟩ v (by rw[qz];exact hv)
 rw[zD _ _ _ hv]at h1;have:=hf v hv;split at h1<;>omega
theorem adr(R:cQ g){aI}{l}(h:wo (cU t g.lives) (dc t g.lives g.af) aI l):rW l:=by
 have hal:(cU t g.lives).length<=12:=by rw[nh];exact R.tF
 rcases h with⟨_,_,rfl⟩|⟨_,_,h⟩
 .exact⟨by simp,λ_ h=>by cases h⟩
 .exact adq h hal (λv hv=>by omega) (λ_ _=>by omega)
theorem MR(R:cQ g){fr aI}{l}(hp:∀a∈dc t g.lives g.af,0<=p a)(h:nw (cU t g.lives) (dc t g.lives g.af) fr p aI l):rW l:=by
 have hal:(cU t g.lives).length<=12:=by rw[nh];exact R.tF
 rcases h with⟨_,_,rfl⟩|⟨_,_,_,rfl⟩|⟨_,_,_,h⟩
 .exact⟨by simp,λ_ h=>by cases h⟩
 .exact⟨by simp,λ_ h=>by cases h⟩
 .exact adq h hal (λv _=>by unfold nY;split<;>omega) hp
theorem MS(h0:aK g=0){o}{l}{e}(h:eT g o l e):rW l:=by
 have R:=ei h0;have hor:=R.hor;have hlv:=R.tF;have nil:rW []:=⟨by simp,λ_ h=>by cases h⟩;have S:=Tj R o.a;have le:∀{pr:b7->Int}{v t:Int},uI g pr->wj g pr v t l->rW l:=by
  intro pr v t lR h;rcases h with⟨_,rfl⟩|⟨h1,h⟩
  .exact nil
  .refine MQ h.len hlv λu hu=>?_;rcases h.is u hu with h2|⟨t,h2⟩
   .omega
   .have:=th.range R lR (uB h1).2.1.1 h2;omega
 unfold eT at h;split at h
 .split at h
  .rw[h.1];exact nil
  .split at h
   .exact adr R h
   .split at h
    .exact MR R (λ_ _=>by omega) h
    .exact MR R (λa ha=>(S.cost a ha).1) h
 .split at h
  .rw[h.1];unfold zT;split
   .rename_i h1;refine MQ (aaI g _ _).1 hlv λu hu=>?_;by_cases ha:bl o.b g.lives o.a=ν
    .rcases(ao0 R (uB h1).2.1.1 ha).1.is u hu with h2|h2
     .omega
     .have:=pL R (h2.alive R);omega
    .rw[ao1 ha,LQ _ _ _ hu];omega
   .exact nil
  .split at h
   .rw[h.1];unfold zU;split
    .rename_i h1;refine MQ (aaN g _ _) hlv λu hu=>?_;by_cases ha:bl o.b g.lives o.a=ν
     .rcases(ao7 R (uB h1).2.1.1 ha).1.is u hu with h2|h2
      .omega
      .have:=pL R h2.src;omega
     .rw[ao8 ha,LQ _ _ _ hu];omega
    .exact nil
   .split at h
    .exact le (SY R) h.1
    .split at h
     .exact le (SZ g) h.1
     .split at h
      .obtain⟨d,x,rfl,h⟩:=h;have key:(-1<=d/\d<=1099511627776)/\ -1<=x/\x<=1099511627776:=by
        rcases h with⟨_,_,rfl,rfl⟩|⟨_,_,_,rfl,rfl⟩|⟨_,_,h⟩
        .omega
        .omega
        .rcases h with⟨_,rfl,rfl,_⟩|⟨_,h,_⟩
         .omega
         .have h1:=pL R h.src;have h2:=pL R (h.alive R);have h3:=h.le R;omega
       exact⟨by simp,λy hy=>by
        simp only[List.mem_cons,List.not_mem_nil,Fq]at hy;rcases hy with rfl|rfl
        .exact key.1
        .exact key.2⟩
      .rw[h.1];have key:∀s:Int×Int×Int×Int,s=n5 g o.a o.b o.hops->(-1<=s.1/\s.1<=1099511627776)/\(-1<=s.2.1/\s.2.1<=1099511627776)/\ -1<=s.2.2.1/\s.2.2.1<=1099511627776:=by
        intro s hs;unfold n5 at hs;split at hs
        .rename_i h1;split at hs
         .subst hs;simp
         .rename_i h2;split at hs
          .subst hs;simp
          .rename_i s1 h3;(have h2:(o.hops.length:Int)<=500:=by omega);split at h3
           .rename_i ha;have hv:=(uB h1).2.1.1;obtain⟨k1,_,k2,bz⟩:=aoE R (s:=(o.a,o.b,0)) ⟨hv,(uB h1).2.1.2,ha⟩ h3;have eB:=pL R k1.al;have sM:=k1.v0;have vU:=k1.v1;subst hs;simp only at k2 bz ⊢;omega
           .rw[R4]at h3;cases h3
        .subst hs;simp
       obtain⟨k1,k2,bz⟩:=key _ rfl;exact⟨by simp,λy hy=>by
        simp only[List.mem_cons,List.not_mem_nil,Fq]at hy;rcases hy with rfl|rfl|rfl
        .exact k1
        .exact k2
        .exact bz⟩
theorem ads{x}(h: -1<=x/\x<=1099511627776):(nV x).length<=21:=by
 unfold nV;split
 .simp
 .exact Al x (by omega) (by omega)
theorem Iz c n:∀(l:List (List UInt8)),(∀x∈l,x.length<=n)->(jn c l).length<=l.length*(n+1)
 |[],_=>by simp[jn]
 |[x],h=>by have:=h x (by simp);simp[jn];omega
 |x::y::r,h=>by
  have h1:=h x (by simp);have h2:=Iz c n (y::r) λz hz=>h z (by simp[hz]);rw[jn,List.length_append,List.length_cons];have e:(x::y::r).length*(n+1)=(y::r).length*(n+1)+(n+1):=by rw[List.length_cons,Nat.add_mul,Nat.one_mul]
  omega
theorem atc n l(h:∀x∈l,x.length<=n):(vO l).length<=l.length*(n+1)+4:=by
 unfold vO;split
 .simp[RF]
 .have:=Iz 32 n l h;omega
theorem atd{l}(h:rW l):(pI l).length<=300:=by
 have h1:=atc 21 (l.map nV) λx hx=>by obtain⟨y,hy,rfl⟩:=List.mem_map.1 hx;exact ads (h.2 y hy)
 rw[List.length_map]at h1;have:=h.1;unfold pI;omega
open Go.Proofs.Tryz
open Go.RowKit
theorem iN.mono{B':Nat}(h:iN B w)(k:B<=B'):iN B' w:=⟨Nat.lt_of_lt_of_le h.low k,h.cell⟩
structure rX(B:Nat)(w:υ)(cG cO:ay)(lives:List (Int×Int))(L:List (eF×ay)):Prop where
 lv:w.ownsRow B 109 2 cG lives.length (gp lives)
 ed:w.ownsRow B 112 3 cO L.length (nQ L)
 lg:∀p∈L,w.ownsRow B 167 4 p.2 p.1.2.2.length (mC p.1.2.2)
theorem nu.rw{b:Nat}{hor:Int}{lives:List (Int×Int)}(h:nu B b w hor cG cO lives L):rX B w cG cO lives L:=⟨h.lv,h.ed,h.lg⟩
theorem rX.below{lives:List (Int×Int)}(h:rX B w cG cO lives L)(hb:Below w.heap.size w w'):rX B w' cG cO lives L:=
 ⟨cE h.lv hb,cE h.ed hb,λp hp=>cE (h.lg p hp) hb⟩
theorem rX.base{B B':Nat}{w:υ}{cG cO:ay}{lives:List (Int×Int)}{L:List (eF×ay)}(h:rX B w cG cO lives L)(hB:B'<=B):rX B' w cG cO lives L:=
 ⟨gJ h.lv hB,gJ h.ed hB,λp hp=>gJ (h.lg p hp) hB⟩
theorem rX.Am{lives:List (Int×Int)}(h:rX B w cG cO lives L){R:Nat}(hR:R<B)j u:rX B (w.setCell ⟨R,j,η⟩ u) cG cO lives L:=by
 have hne:∀{e size n:Nat}{v:ay}{xs:List ay},w.ownsRow B e size v n xs->v.ownBlock≠θ R:=λh k=>by have:=(h.lt R k).1;omega
 exact⟨j0 h.lv (hne h.lv),j0 h.ed (hne h.ed),λp hp=>j0 (h.lg p hp) (hne (h.lg p hp))⟩
theorem rX.sS{lives:List (Int×Int)}(h:rX B w cG cO lives L)(hor:Int):∃la lc ea ec,cG=.slice la lives.length lc/\cO=.slice ea L.length ec/\cL w la ea ⟨hor,lives,L.map (·.1)⟩/\lives.length<=lc/\lc<=9223372036854775807:=by
 obtain⟨la,lc,rfl,hlv⟩:=GP h.lv;obtain⟨_,_,e1,n1,n2⟩:=mD h.lv;simp only[jU]at e1;obtain⟨rfl,_,rfl⟩:=e1;obtain⟨ea,ec,rfl,n3,Gu⟩:=mD h.ed;refine⟨la,lc,ea,ec,rfl,rfl,⟨hlv,?_,by simp only;omega,by simp only[List.length_map];omega⟩,n1,n2⟩;rcases h.ed.2 with⟨_,h0⟩|⟨g,cap,cur,e2,hb,hh,_⟩
 .exact .inl (by simp only;rw[List.eq_nil_of_length_eq_zero h0];rfl)
 .simp only[jU]at e2;obtain⟨rfl,_,rfl⟩:=e2;refine .inr ⟨g,0,rfl,(ξ.1 hh).1,λj hj=>?_⟩;have hj':j<L.length:=by simpa using hj
  obtain⟨f0,f1,f2⟩:=GQ L j hj';obtain⟨a,c,hv,hl,m1,m2⟩:=Zs (h.lg L[j] (List.getElem_mem hj'));have ej:(L.map (·.1))[j]=L[j].1:=by simp
  unfold DU;simp only[ej];rw[Nat.zero_add,h.ed.cellAt (j*3) (by omega),h.ed.cellAt (j*3+1) (by omega),h.ed.cellAt (j*3+2) (by omega)];exact⟨f0,f1,a,c,by rw[f2,hv],hl,m1,m2⟩
def lY(B:Nat)(w':υ)(v:ay)(g:bg):Prop:=∃cG cO L,v=.agg #[.int .i64 g.hor,cG,cO]/\rX B w' cG cO g.lives L/\g.af=L.map (·.1)
theorem lY.sS{v:ay}(h:lY B w v g):∃la lc ea ec,v=.agg #[.int .i64 g.hor,.slice la g.lives.length lc,.slice ea g.af.length ec]/\cL w la ea g/\g.lives.length<=lc/\lc<=9223372036854775807:=by
 obtain⟨cG,cO,L,rfl,h,e⟩:=h;obtain⟨la,lc,ea,ec,rfl,rfl,hg,n1,n2⟩:=h.sS g.hor;have hel:L.length=g.af.length:=by rw[e];simp
 rw[<-e]at hg;exact⟨la,lc,ea,ec,by rw[hel],hg,n1,n2⟩
theorem lY.below{v:ay}(h:lY B w v g)(hb:Below w.heap.size w w'):lY B w' v g:=by obtain⟨cG,cO,L,rfl,h,e⟩:=h;exact⟨cG,cO,L,rfl,h.below hb,e⟩
theorem lY.base{B B':Nat}{w:υ}{v:ay}{g:bg}(h:lY B w v g)(hB:B'<=B):lY B' w v g:=by obtain⟨cG,cO,L,rfl,h,e⟩:=h;exact⟨cG,cO,L,rfl,h.base hB,e⟩
theorem lY.Am{v:ay}(h:lY B w v g){R:Nat}(hR:R<B)j u:lY B (w.setCell ⟨R,j,η⟩ u) v g:=by obtain⟨cG,cO,L,rfl,h,e⟩:=h;exact⟨cG,cO,L,rfl,h.Am hR j u,e⟩
theorem lY.none B w:lY B w (.agg #[.int .i64 0,.slice η 0 0,.slice η 0 0]) g0:=
 ⟨_,_,[],rfl,⟨dJ _ _ _ _,dJ _ _ _ _,λp hp=>by simp at hp⟩,rfl⟩
theorem adt(s:ByteArray)w(hs:s.size<=8192)(hM:iN B w)(a b:List UInt8)c(h:uk s.data.toList [10]=(a,b,c)):Ξ ah 62 #[.string s,.string ⟨#[10]⟩] w λe w'=>e=.returned (.tuple #[.string ⟨a.toArray⟩,.string ⟨b.toArray⟩,.bool c])/\Below w.heap.size w w':=by obtain⟨m,hm⟩:=hM.cell;refine(Tryz.strings_Cut s ⟨#[10]⟩ m w (by omega) hm).mono ?_;rintro e w' ⟨rfl,n,rfl⟩;have e1:(⟨#[10]⟩:ByteArray).data.toList=[10]:=rfl;rw[e1,h];exact⟨rfl,below_drewN (Below.refl _ _) n⟩
def strOf:ay->Nat
 | .string s=>s.size
 |_=>0
theorem ate{first:Bool}{l:List UInt8}(h:¬(first=ο/\l=[])):gT g n first [l]=.inr n:=by rw[gT,ς h]
theorem atf g n:gT g n ο [[]]=.inl g:=by rw[gT,χ ⟨rfl,rfl⟩]
theorem atg{first:Bool}{l m:List UInt8}{r:List (List UInt8)}(h:lu g l first=η):gT g n first (l::m::r)=.inr n:=by rw[gT,h]
theorem ath{g':bg}{first:Bool}{l m:List UInt8}{r:List (List UInt8)}(h:lu g l first=θ g'):gT g n first (l::m::r)=gT g' (n+1) ο (m::r):=by rw[gT,h]
theorem ati{wr:υ}(hG:sR (w.heap.size+1) (w.heap.size+1) wr g)(hb:Below (w.heap.size+1) (w.alloc (.cells #[.int .i64 0,.slice η 0 0,.slice η 0 0] 59)) wr):∃la lc ea ec,(wr.cell? ⟨w.heap.size+1,0,η⟩=θ (.int .i64 g.hor)/\wr.cell? ⟨w.heap.size+1,1,η⟩=θ (.slice la g.lives.length lc)/\wr.cell? ⟨w.heap.size+1,2,η⟩=θ (.slice ea g.af.length ec)) /\
   (wr.cell? ⟨w.heap.size,0,η⟩=θ (.int .i64 0)/\wr.cell? ⟨w.heap.size,1,η⟩=θ (.slice η 0 0)/\wr.cell? ⟨w.heap.size,2,η⟩=θ (.slice η 0 0))/\(∀j,wr.frozen? ⟨w.heap.size,j,η⟩=ο) /\
   ∀a b c,lY (w.heap.size+1) (((wr.setCell ⟨w.heap.size,0,η⟩ a).setCell ⟨w.heap.size,1,η⟩ b).setCell ⟨w.heap.size,2,η⟩ c) (.agg #[.int .i64 g.hor,.slice la g.lives.length lc,.slice ea g.af.length ec]) g/\Below w.heap.size w (((wr.setCell ⟨w.heap.size,0,η⟩ a).setCell ⟨w.heap.size,1,η⟩ b).setCell ⟨w.heap.size,2,η⟩ c):=by
 obtain⟨cG,cO,L,b8,hL⟩:=hG;obtain⟨la,lc,ea,ec,rfl,rfl,_,_,_⟩:=b8.sS;have hel:L.length=g.af.length:=by rw[hL];simp
 rw[hel]at b8;refine⟨la,lc,ea,ec,⟨by rw[eu b8.box];rfl,by rw[eu b8.box];rfl,by rw[eu b8.box];rfl⟩,⟨?_,?_,?_⟩,λj=>?_,λa b c=>⟨?_,?_⟩⟩
 .rw[hb.cell (p:=⟨w.heap.size,0,η⟩) (by simp)];simp
 .rw[hb.cell (p:=⟨w.heap.size,1,η⟩) (by simp)];simp
 .rw[hb.cell (p:=⟨w.heap.size,2,η⟩) (by simp)];simp
 .rw[hb.frozen (p:=⟨w.heap.size,j,η⟩) (by simp)];simp
 .exact⟨_,_,L,rfl,((b8.rw.Am (R:=w.heap.size) (by omega) 0 a).Am (R:=w.heap.size) (by omega) 1 b).Am (R:=w.heap.size) (by omega) 2 c,hL⟩
 .have h0:Below w.heap.size w wr:=bK (ax w _) (by simpa using hb);exact((h0.setCell (p:=⟨w.heap.size,0,η⟩) (Nat.le_refl _) a).setCell (p:=⟨w.heap.size,1,η⟩) (Nat.le_refl _) b).setCell (p:=⟨w.heap.size,2,η⟩) (Nat.le_refl _) c
theorem atj{r:ByteArray}{a m:List UInt8}{t:List (List UInt8)}(h:sp 10 r.data.toList=a::m::t):a.length+1+(jn 10 (m::t)).length=r.size:=by
 have h1:=DV 10 r.data.toList;rw[h,Zi _ _ (by simp)]at h1;have h2:=jM List.length h1;have h3:r.data.toList.length=r.size:=by rw[jk];rfl
 rw[h3,List.length_append,List.length_cons]at h2;omega
theorem adu(k:Nat):((k:Int)+1==1)=(k==0):=by
 by_cases e:k=0
 .subst e;rfl
 .have h1:((k:Int)+1==1)=false:=by rw[beq_eq_false_iff_ne];omega
  have h2:(k==0)=false:=by rw[beq_eq_false_iff_ne];exact e
  rw[h1,h2]
theorem T4(l:List UInt8):(⟨l.toArray⟩:ByteArray).size=l.length:=by show l.toArray.size=_;simp
theorem atk(s:ByteArray)(w:υ)(hM:iN w.heap.size w)(hs:s.size<=8192):Ξ ah 39 #[.string s] w λe w'=>∃(g:bg) (n:Nat) (v:ay),e=.returned (.tuple #[v,.int .i64 n])/\lY w.heap.size w' v g/\Below w.heap.size w w'/\(gT g0 1 ν (sp 10 s.data.toList)=.inr n/\1<=n/\n<=8193\/gT g0 1 ν (sp 10 s.data.toList)=.inl g/\n=0):=by
 have fG:=aa hM;clear hM;go_enter akH,ntmps39;go_wp2;go_loopw [0,5] (λsv i wr=>∃(k:Nat) (r:ByteArray) (g:bg),sv=.string r/\i=.int .i64 ((k:Int)+1)/\k+r.size<=8192/\sR (w.heap.size+1) (w.heap.size+1) wr g/\uq k g/\gT g0 1 ν (sp 10 s.data.toList)=gT g (k+1) (k==0) (sp 10 r.data.toList)/\Below (w.heap.size+1) (w.alloc (.cells #[.int .i64 0,.slice η 0 0,.slice η 0 0] 59)) wr) (λsv _ _=>strOf sv)
 case atStart=>
  refine⟨0,s,g0,rfl,rfl,by omega,⟨_,_,[],nu.first _ _ _ (by have:=heap_alloc_new (w.alloc (.cells #[.int .i64 0,.slice η 0 0,.slice η 0 0] 59)) (.cells #[.int .i64 0,.slice η 0 0,.slice η 0 0] 59);rwa[lC]at this) (Nat.le_refl _),rfl⟩,⟨by simp[g0],by simp[g0],by simp[g0]⟩,rfl,(Below.refl _ _).alloc (by simp) _⟩
 case round=>
  obtain⟨k,r,g,rfl,rfl,hk,hG,hS,hR,hb⟩:=hrel;have cH:=aa hG;have bI:=aa hR;have Ao:=aa hb;have aU:=aa (hS.mono (N':=10000) (by omega));have yg:=aa hS;have hsz:=hb.size;rw[lC]at hsz;have adv:iN (w.heap.size+1) wr:=by have:=fG.out.below (ax w (.cells #[.int .i64 0,.slice η 0 0,.slice η 0 0] 59));exact(iN.mono this (by omega)).below hb
  have T5:=aa adv;clear hG hR hb hS adv;have T6:Hid (∀wr g,sR (w.heap.size+1) (w.heap.size+1) wr g->Below (w.heap.size+1) (w.alloc (.cells #[.int .i64 0,.slice η 0 0,.slice η 0 0] 59)) wr->_):=λwr g h1 h2=>ati (w:=w) (wr:=wr) (g:=g) h1 h2;by_cases hend:k≠0/\r.size=0
  ·((have hE:r.toList=[]:=by rw[oK];exact List.eq_nil_of_length_eq_zero (by rw[jk];exact hend.2));have Cw:Hid (gT g0 1 ν (sp 10 s.data.toList)=.inl g):=by show _=_;rw[bI.out,show (k==0)=ο by simpa using hend.1,<- oK,hE];exact atf _ _);(have hk1:¬(k:Int)+1=1:=by omega);obtain⟨la,lc,ea,ec,⟨p0,p1,p2⟩,⟨r0,r1,r2⟩,f0,hF⟩:=T6.out wr g cH.out Ao.out;have aJ:=aa hF;clear hF;go_wp2;refine cR (v:=.tuple #[.agg #[.int .i64 g.hor,.slice la g.lives.length lc,.slice ea g.af.length ec],.int .i64 0]) (by simp[results,results39,go_sem,r0,r1,r2]) rfl ⟨g,0,_,rfl,(aJ.out _ _ _).1.base (by omega),(aJ.out _ _ _).2,.inr ⟨Cw.out,rfl⟩⟩
  .have hgo:k=0\/(k≠0/\r.toList.isEmpty=ο):=by
    by_cases e:k=0
    .exact .inl e
    .refine .inr ⟨e,?_⟩;have:r.size≠0:=λq=>hend ⟨e,q⟩;rw[oK];cases hl:r.data.toList with
     |nil=>
      (have h3:r.data.toList.length=r.size:=by rw[jk];rfl);rw[hl]at h3;simp at h3;omega
     |cons _ _=>rfl
   (have EH:Hid (∀l,sp 10 r.data.toList=[l]->¬((k==0)=ο/\l=[])):=by rintro l h ⟨h1,rfl⟩;have h2:=DV 10 r.data.toList;rw[h]at h2;(have h3:r.data.toList.length=r.size:=by rw[jk];rfl);rw[<-h2]at h3;simp[jn]at h3;exact hend ⟨by simpa using h1,by omega⟩);rcases am1 10 r.data.toList with⟨a,m,t,hsp,hcut,adw⟩|⟨hsp,hcut⟩
   ·(have ak:=aa (adt r wr (by omega) T5.out _ _ _ hcut);have T7:=atj hsp;have cA:Hid (∀fb,fb=(k==0)->∀w',Below wr.heap.size wr w'->Ξ ah 64 #[.pointer (θ ⟨w.heap.size+1,0,η⟩),.string ⟨a.toArray⟩,.bool fb] w' λe w2=>e=.returned (.bool (lu g a (k==0)).isSome)/\sR (w.heap.size+1) (w.heap.size+1) w2 ((lu g a (k==0)).getD g)/\Below (w.heap.size+1) (w.alloc (.cells #[.int .i64 0,.slice η 0 0,.slice η 0 0] 59)) w2):=by rintro fb rfl w' hb';refine(anq _ _ g ⟨a.toArray⟩ (k==0) w' (cH.out.below hb') (T5.out.below (hb'.mono hsz)) (by rw[T4];omega) aU.out (Nat.le_trans hsz hb'.size)).mono ?_;rintro e w2 ⟨h1,h2,h3⟩;exact⟨h1,h2,Ao.out.trans ((hb'.mono hsz).trans h3)⟩);have adx:=aa hsp;have atl:=aa adw;clear hsp hcut adw EH;cases hl:lu g a (k==0)with
    |none=>
     (have Cw:Hid (gT g0 1 ν (sp 10 s.data.toList)=.inr (k+1)):=by show _=_;rw[bI.out,adx.out];exact atg hl);simp only[hl,ic,jG]at cA;clear bI hl T7;rcases hgo with rfl|⟨hk0,ady⟩;all_goals
      (try have hk1:¬(k:Int)+1=1:=by omega);go_wp2_with fail;refine ak.out.mono ?_;rintro e w1 ⟨rfl,aj⟩;go_wp2_with fail;refine(cA.out _ (by first|rfl|exact adu k) _ aj).mono ?_;rintro e w2 ⟨rfl,hg2,aq⟩;obtain⟨la,lc,ea,ec,⟨p0,p1,p2⟩,⟨r0,r1,r2⟩,f0,hF⟩:=T6.out w2 g hg2 aq;have aJ:=aa hF;clear hF aj aq hg2;go_wp2;refine cR (v:=.tuple #[.agg #[.int .i64 g.hor,.slice la g.lives.length lc,.slice ea g.af.length ec],.int .i64 _]) (by simp[results,results39,go_sem,r0,r1,r2]) rfl ⟨g,_,_,rfl,(aJ.out _ _ _).1.base (by omega),(aJ.out _ _ _).2,.inl ⟨Cw.out,by omega,by omega⟩⟩
    |some g' =>
     (have Cw:Hid (gT g0 1 ν (sp 10 s.data.toList)=gT g' (k+1+1) (k+1==0) (sp 10 (⟨(jn 10 (m::t)).toArray⟩:ByteArray).data.toList)):=by show _=_;rw[bI.out,adx.out,ath hl];show _=gT g' (k+1+1) ο (sp 10 (jn 10 (m::t)));rw[atl.out]);have atm:=aa (yg.out.line hl);simp only[hl,gu,Ω]at cA;clear bI hl;rcases hgo with rfl|⟨hk0,ady⟩;all_goals
      (try have hk1:¬(k:Int)+1=1:=by omega);go_wp2_with fail;refine ak.out.mono ?_;rintro e w1 ⟨rfl,aj⟩;go_wp2_with fail;refine(cA.out _ (by first|rfl|exact adu k) _ aj).mono ?_;rintro e w2 ⟨rfl,hg2,aq⟩;clear aj;go_wp2;go_roundw
      case rel=>exact⟨_,_,g',rfl,by go_num,by rw[T4];omega,hg2,atm.out,Cw.out,aq⟩
      case measure=>simp only[strOf,T4];omega
   ·(have ak:=aa (adt r wr (by omega) T5.out _ _ _ hcut);have Cw:Hid (gT g0 1 ν (sp 10 s.data.toList)=.inr (k+1)):=by show _=_;rw[bI.out,hsp];exact ate (EH.out _ hsp));clear hsp hcut bI EH;have atn:=aa (λw' (h:Below wr.heap.size wr w')=>T6.out w' g (cH.out.below h) (Ao.out.trans (h.mono hsz)));rcases hgo with rfl|⟨hk0,ady⟩;all_goals
     (try have hk1:¬(k:Int)+1=1:=by omega);go_wp2_with fail;refine ak.out.mono ?_;rintro e w' ⟨rfl,hb'⟩;obtain⟨la,lc,ea,ec,⟨p0,p1,p2⟩,⟨r0,r1,r2⟩,f0,hF⟩:=atn.out w' hb';have aJ:=aa hF;clear hF hb';go_wp2;refine cR (v:=.tuple #[.agg #[.int .i64 g.hor,.slice la g.lives.length lc,.slice ea g.af.length ec],.int .i64 _]) (by simp[results,results39,go_sem,r0,r1,r2]) rfl ⟨g,_,_,rfl,(aJ.out _ _ _).1.base (by omega),(aJ.out _ _ _).2,.inl ⟨Cw.out,by omega,by omega⟩⟩
theorem ato s(w:υ)(hM:iN w.heap.size w):Ξ ah 28 #[.string s] w λe w'=>∃v,e=.returned (.tuple #[v,.int .i64 (parse s.data.toList).2.1,.int .i64 (parse s.data.toList).2.2])/\lY w.heap.size w' v (parse s.data.toList).1/\Below w.heap.size w w':=by
 have hsz:s.data.toList.length=s.size:=by rw[jk];rfl
 by_cases h8:8192<s.size
 .have bU:Hid (parse s.data.toList=(g0,0,2)):=by show _=_;unfold parse;rw[χ (by omega)]
  rw[bU.out];have atp:(8192:Int)<(s.size:Int):=by omega
  clear hsz;have aD:=aa (ax w);go_enter Yo,ntmps28;go_wp2;exact cR (v:=.tuple #[.agg #[.int .i64 0,.slice η 0 0,.slice η 0 0],.int .i64 0,.int .i64 2]) (by simp[results,results28,go_sem]) rfl ⟨_,rfl,lY.none _ _,aD.out _⟩
 .have atp:(s.size:Int)<=8192:=by omega
  have atq:Hid (∀n,gT g0 1 ν (sp 10 s.data.toList)=.inr n->parse s.data.toList=(g0,(n:Int),3)):=λn h=>by unfold parse;rw[ς (by omega),h]
  have atr:Hid (∀g,gT g0 1 ν (sp 10 s.data.toList)=.inl g->parse s.data.toList=if aK g=0 then(g,0,0)else(g0,0,aK g)):=λg h=>by unfold parse;rw[ς (by omega),h]
  have adz:Hid (∀o,Ξ ah 39 #[.string s] (w.alloc o) λe w'=>_):=λo=>atk s (w.alloc o) ((hM.below (ax w o)).mono (by simp)) (by omega);clear hM hsz;go_enter Yo,ntmps28;go_wp2_with fail;refine(adz.out _).mono ?_;rintro e w1 ⟨g,n,v,rfl,hv,aj,hrd⟩;have S6:=aa hrd;rw[lC]at hv;have e6:=aa hv;obtain⟨la,lc,ea,ec,rfl,adA,_,_⟩:=hv.sS;have att:=aa adA;clear adA;have r0:w1.cell? ⟨w.heap.size,0,η⟩=θ (.int .i64 0):=by rw[aj.cell (p:=⟨w.heap.size,0,η⟩) (by simp)];simp
  have r1:w1.cell? ⟨w.heap.size,1,η⟩=θ (.slice η 0 0):=by rw[aj.cell (p:=⟨w.heap.size,1,η⟩) (by simp)];simp
  have r2:w1.cell? ⟨w.heap.size,2,η⟩=θ (.slice η 0 0):=by rw[aj.cell (p:=⟨w.heap.size,2,η⟩) (by simp)];simp
  have f0:∀j,w1.frozen? ⟨w.heap.size,j,η⟩=false:=λj=>by rw[aj.frozen (p:=⟨w.heap.size,j,η⟩) (by simp)];simp
  have aS:=aa (bK (ax w _) aj);have hz1:w.heap.size<w1.heap.size:=by have:=aj.size;simp at this;omega
  clear hv aj adz hrd;have Cd:Hid (∀w2,Below w1.heap.size w1 w2->∀a b c,Below w.heap.size w (((w2.setCell ⟨w.heap.size,0,η⟩ a).setCell ⟨w.heap.size,1,η⟩ b).setCell ⟨w.heap.size,2,η⟩ c)):=λw2 h a b c=>
   (((bK aS.out h).setCell (p:=⟨w.heap.size,0,η⟩) (Nat.le_refl _) a).setCell (p:=⟨w.heap.size,1,η⟩) (Nat.le_refl _) b).setCell (p:=⟨w.heap.size,2,η⟩) (Nat.le_refl _) c
  rcases S6.out with⟨h,aAF,hn2⟩|⟨h,rfl⟩
  .have bU:=aa (atq.out n h);(have aAG:(0:Int)<(n:Int):=by omega);clear h;go_wp2;rw[bU.out];exact cR (v:=.tuple #[.agg #[.int .i64 0,.slice η 0 0,.slice η 0 0],.int .i64 n,.int .i64 3]) (by simp[results,results28,go_sem,r0,r1,r2,hz1]) rfl ⟨_,rfl,lY.none _ _,(Cd.out w1 (Below.refl _ _) _ _ _).alloc (by simp;omega) _⟩
  .have bU:=aa (atr.out g h);have hC:=λo=>Eb g la ea lc ec (w1.alloc o) (att.out.below (ax w1 o));clear h;go_wp2_with fail;refine(hC _).mono ?_;rintro e w2 ⟨rfl,aq⟩;have aN:=aa (bK (ax w1 _) aq);(have b0:w2.cell? ⟨w1.heap.size,0,η⟩=θ (.int .i64 g.hor):=by rw[aq.cell (p:=⟨w1.heap.size,0,η⟩) (by simp)];simp);(have b1:w2.cell? ⟨w1.heap.size,1,η⟩=θ (.slice la g.lives.length lc):=by rw[aq.cell (p:=⟨w1.heap.size,1,η⟩) (by simp)];simp);(have b2:w2.cell? ⟨w1.heap.size,2,η⟩=θ (.slice ea g.af.length ec):=by rw[aq.cell (p:=⟨w1.heap.size,2,η⟩) (by simp)];simp);have s0:=(aN.out.cell (p:=⟨w.heap.size,0,η⟩) hz1).trans r0;have s1:=(aN.out.cell (p:=⟨w.heap.size,1,η⟩) hz1).trans r1;have s2:=(aN.out.cell (p:=⟨w.heap.size,2,η⟩) hz1).trans r2;have YV :∀j,w2.frozen? ⟨w.heap.size,j,η⟩=false:=λj=>(aN.out.frozen (p:=⟨w.heap.size,j,η⟩) hz1).trans (f0 j);clear aq hC r0 r1 r2 f0;by_cases h0:aK g=0
   .rw[χ h0]at bU;have bI:Hid (∀a b c,lY (w.heap.size+1) (((w2.setCell ⟨w.heap.size,0,η⟩ a).setCell ⟨w.heap.size,1,η⟩ b).setCell ⟨w.heap.size,2,η⟩ c) (.agg #[.int .i64 g.hor,.slice la g.lives.length lc,.slice ea g.af.length ec]) g):=λa b c=>(((e6.out.below aN.out).Am (R:=w.heap.size) (by omega) 0 a).Am (R:=w.heap.size) (by omega) 1 b).Am (R:=w.heap.size) (by omega) 2 c;go_wp2;rw[bU.out];exact cR (v:=.tuple #[.agg #[.int .i64 g.hor,.slice la g.lives.length lc,.slice ea g.af.length ec],.int .i64 0,.int .i64 0]) (by simp[results,results28,go_sem,s0,s1,s2]) rfl ⟨_,rfl,(bI.out _ _ _).base (by omega),Cd.out w2 aN.out _ _ _⟩
   .rw[ς h0]at bU;go_wp2;rw[bU.out];exact cR (v:=.tuple #[.agg #[.int .i64 0,.slice η 0 0,.slice η 0 0],.int .i64 0,.int .i64 (aK g)]) (by simp[results,results28,go_sem,s0,s1,s2]) rfl ⟨_,rfl,lY.none _ _,Cd.out w2 aN.out _ _ _⟩
def kz(w:υ)(ao:Option bP)(L:List (List UInt8)):Prop:=
 L=[]\/∃b off,ao=θ ⟨b,off,η⟩/\b<w.heap.size/\∀j x,L[j]?=θ x->w.cell? ⟨b,off+j,η⟩=θ (.string ⟨x.toArray⟩)
theorem kz.below{L}(h:kz w ao L)(hb:Below w.heap.size w w'):kz w' ao L:=by
 rcases h with h|⟨b,off,rfl,hlt,hc⟩
 .exact .inl h
 .exact .inr ⟨b,off,rfl,Nat.lt_of_lt_of_le hlt hb.size,λj x hj=>by rw[hb.cell (p:=⟨b,off+j,η⟩) hlt];exact hc j x hj⟩
def kA(L:List (List UInt8)):List Value:=L.map λx=>.string ⟨x.toArray⟩
theorem IA{base}{v}{L}(h:w.ownsRow base 9 1 v n (kA L)):∃ao cap,v=.slice ao L.length cap/\L.length<=cap/\kz w ao L:=by
 have h1:=h.1;simp only[kA,List.length_map,Nat.mul_one]at h1;subst h1;rcases h.2 with⟨rfl,h0⟩|⟨g,cap,cur,rfl,hb,hh,h3,h4,h5,h6⟩
 .exact⟨η,0,by rw[h0],by omega,.inl (List.eq_nil_of_length_eq_zero h0)⟩
 .refine⟨_,cap,rfl,h3,.inr ⟨g,0,rfl,(ξ.1 hh).1,λj x hj=>?_⟩⟩;have hj':j<L.length:=(List.getElem?_eq_some_iff.1 hj).1;have:=h.cellAt j (by omega);rw[Nat.zero_add,this,kA,List.getElem?_map,hj];rfl
theorem T8 s:(⟨s.data.toList.toArray⟩:ByteArray)=s:=by cases s;simp
theorem uS(a b:List UInt8):(⟨a.toArray⟩:ByteArray)++⟨b.toArray⟩=⟨(a++b).toArray⟩:=by apply ByteArray.ext;rw[ByteArray.data_append];simp
theorem T9 c:∀L:List (List UInt8),Lib.join L [c]=jn c L
 |[]=>rfl
 |[x]=>Lib.join_one x [c]
 |x::y::r=>by have:=T9 c (y::r);rw[Lib.join_cons]at this ⊢;rw[jn,<- this];simp[Lib.joinTail]
theorem adB c s w(hs:s.size<=65536)(hM:iN B w):Ξ ah 24 #[.string s,.string ⟨#[c]⟩] w λe w'=>e=.returned (.slice (θ ⟨w.heap.size,0,η⟩) (sp c s.data.toList).length (sp c s.data.toList).length)/\(∀j x,(sp c s.data.toList)[j]?=θ x->w'.cell? ⟨w.heap.size,j,η⟩=θ (.string ⟨x.toArray⟩))/\w.heap.size<w'.heap.size/\Below w.heap.size w w':=by obtain⟨m,hm⟩:=hM.cell;refine(Tryz.strings_Split s ⟨#[c]⟩ m w (by omega) hm (Nat.le_refl 1)).mono ?_;rintro e w' ⟨rfl,rfl⟩;have h1:=Rm c s;have h2:=Zu c s;refine⟨by rw[h2],λj x hj=>?_,by simp,ax w _⟩;rw[<-h1,List.getElem?_map]at hj;obtain⟨y,hy,rfl⟩:=kZ.1 hj;rw[T8,eu (heap_alloc_new w _)];simp[hy]
theorem Ua c ao cap L w(hL:kz w ao L)(hcap:L.length<=cap)(hn:L.length<=140737488355328)(hlen:(jn c L).length<=140737488355328):Ξ ah 38 #[.slice ao L.length cap,.string ⟨#[c]⟩] w λe w'=>e=.returned (.string ⟨(jn c L).toArray⟩)/\Below w.heap.size w w':=by
 rcases hL with rfl|⟨b,off,rfl,hlt,hc⟩
 .exact(Any.strings_Join_none Tryz.lays156 Tryz.Builder_Extra_156 ao cap ⟨#[c]⟩ w).mono λe w' ⟨he,hw⟩=>⟨he,hw▸Below.refl _ _⟩
 .have e1:(L.map λx=>(⟨x.toArray⟩:ByteArray)).map (λs=>s.data.toList)=L:=by simp[List.map_map,Function.comp_def]
  have h:=Tryz.strings_Join b off cap (L.map λx=>⟨x.toArray⟩) ⟨#[c]⟩ w (λj x hj=>by
   rw[List.getElem?_map]at hj;obtain⟨y,hy,rfl⟩:=kZ.1 hj;exact hc j y hy) hlt (by simpa using hn) (by simpa using hcap) (by rw[e1];show (Lib.join L [c]).length<=_;rw[T9];exact hlen)
  rw[e1,List.length_map,show (⟨#[c]⟩:ByteArray).data.toList=[c]from rfl,T9]at h;exact h
theorem EX n(h: -1<=n/\n<=1099511627776)w(hT:gv w):Ξ ah 23 #[.int .i64 n] w λe w'=>e=.returned (.string ⟨(dK n).toArray⟩)/\Below w.heap.size w w':=
 (Tryz.strconv_Itoa n (by omega) (by omega) w hT).mono λ_ _ ⟨h1,k,os,h2⟩=>⟨h1,by rw[h2];exact ZJ _ w (Nat.le_refl _) k os⟩
theorem EY(n:Int)(h: -1<=n/\n<=1099511627776)w(hT:gv w):Ξ ah 10 #[.int .i64 n] w λe w'=>e=.returned (.string ⟨(ie n).toArray⟩)/\Below w.heap.size w w':=by
 have hI:=EX n h w hT;have hl:6+(dK n).length<=9223372036854775807:=by have:=Al n (by omega) (by omega);omega
 have ak:=aa (uS RG (dK n));go_enter akw,ntmps10;go_wp2_with fail;refine hI.mono ?_;rintro e w1 ⟨rfl,hb⟩;go_wp2;go_ret;exact⟨jM (λx=>sH (.string x)) ak.out,hb⟩
theorem atu n(h: -1<=n/\n<=1099511627776)w(hT:gv w):Ξ ah 82 #[.int .i64 n] w λe w'=>e=.returned (.string ⟨(nV n).toArray⟩)/\Below w.heap.size w w':=by
 have hI:=EX n h w hT;by_cases hn:n=1099511627776
 .have aR:Hid (nV n=[45]):=χ hn;have hb:=Below.refl w.heap.size w;subst hn;rw[aR.out];go_enter Yy,ntmps82;go_wp2;go_ret;exact⟨rfl,hb⟩
 .have aR:Hid (nV n=dK n):=ς hn;rw[aR.out];go_enter Yy,ntmps82;go_wp2_with fail;refine hI.mono ?_;rintro e w1 ⟨rfl,hb⟩;go_wp2;go_ret;exact⟨rfl,hb⟩
theorem adC ao cap L w(hL:kz w ao L)(hcap:L.length<=cap)(hn:L.length<=140737488355328)(hlen:(jn 32 L).length<=140737488355328):Ξ ah 81 #[.slice ao L.length cap] w λe w'=>e=.returned (.string ⟨(vO L).toArray⟩)/\Below w.heap.size w w':=by
 have hJ:=Ua 32 ao cap L w hL hcap hn hlen;have hb:=Below.refl w.heap.size w;by_cases h0:L=[]
 .subst h0;go_enter Yx,ntmps81;go_wp2;go_ret;exact⟨rfl,hb⟩
 .have aR:Hid (vO L=jn 32 L):=ς h0;have hl:¬(L.length:Int)=0:=λh=>h0 (List.eq_nil_of_length_eq_zero (by omega));rw[aR.out];clear h0 hL hcap hn hlen;go_enter Yx,ntmps81;go_wp2_with fail;refine hJ.mono ?_;rintro e w1 ⟨rfl,hb⟩;go_wp2;go_ret;exact⟨rfl,hb⟩
theorem Tryz.IB:(ah.info? 9).map (λi=>(i.zero,i.size,i.bytes))=θ (θ (.string ⟨#[]⟩),1,16):=by kernel_rfl
theorem atv(s:ByteArray)k(h:k<s.size):s.data.toList.take (k+1)=s.data.toList.take k++[s[k]]:=by
 have h':k<s.data.toList.length:=by rw[jk];exact h
 rw[List.take_succ_eq_append_getElem h',byte_at s k h h']
theorem one_byte(s:ByteArray)k(h:k<s.size)a:(a++s.extract k (k+1)).data.toList=a.data.toList++[s[k]]:=by
 rw[ByteArray.data_append,Array.toList_append,ByteArray.data_extract];congr 1;have h':k<s.data.toList.length:=by rw[jk];exact h
 rw[Array.toList_extract,<- byte_at s k h h',List.extract_eq_take_drop,show k+1-k=1 by omega,List.drop_eq_getElem_cons h'];rfl
theorem adD(s:ByteArray)c w(hs:s.size<=8796093022000):Ξ ah 18 #[.string s,.int .u8 (c.toNat:Nat)] w λe w'=>∃(aT cap:Nat) (ws:List ByteArray),ws.map (λs=>s.data.toList)=sp c s.data.toList/\e=.returned (.slice (θ ⟨aT,0,η⟩) ws.length cap)/\w'.ownsRow w.heap.size 9 1 (.slice (θ ⟨aT,0,η⟩) ws.length cap) ws.length (ws.map gV)/\Below w.heap.size w w':=by
 obtain⟨i0,hi,cg,hz1,bX⟩:=er Tryz.IB;have hsz:s.data.toList.length=s.size:=by rw[jk];rfl
 have BH:=aa hsz;clear hsz;go_enter akC,ntmps18;go_wp2;go_loopw [5,6] (λv i wr=>∃(k aT cap:Nat) (ws:List ByteArray),k<=s.size/\i=.int .i64 k/\ws.map (λs=>s.data.toList)=sp c (s.data.toList.take k)/\v=.slice (θ ⟨aT,0,η⟩) ws.length cap/\wr.ownsRow w.heap.size 9 1 (.slice (θ ⟨aT,0,η⟩) ws.length cap) ws.length (ws.map gV)/\Below w.heap.size w wr) (λ_ i _=>s.size-(intOf i).toNat)
 case atStart=>exact⟨0,w.heap.size,1,[⟨#[]⟩],Nat.zero_le _,rfl,rfl,rfl,World.ownsRow_lit w #[.string ⟨#[]⟩] 1 (Nat.le_refl _) (by unfold maxLen;omega) rfl,ax w _⟩
 case round=>
  obtain⟨k,aT,cap,ws,hk,rfl,ou,rfl,hown,hb⟩:=hrel;have fN:=aa ou;have hB:=hb.size;clear ou;have lN:ws.length<=8796093022001:=by have h1:=jM List.length fN.out;have h2:=zh c (s.data.toList.take k);rw[List.length_map]at h1;rw[List.length_take]at h2;omega
  by_cases hlt:k<s.size
  ·(have i1:(k:Int)<(s.size:Int):=by omega);have aX:=aa (atv s k hlt);by_cases hc:s[k]=c
   ·(have EZ:Hid ((ws++[ByteArray.mk #[]]).map (λs=>s.data.toList)=sp c (s.data.toList.take (k+1))):=by show _=_;rw[aX.out,hc,Ra,List.map_append,fN.out];rfl);(have dV:(s[k].toNat:Int)=(c.toNat:Int):=by rw[hc]);clear hc;go_wp2_with(at_builtin;refine zX _ rfl _ _ 23 rfl w.heap.size 9 i0 (.string ⟨#[]⟩) 1 16 ((cD 23).trans underlying23) hi cg hz1 bX rfl (by decide) _ _ _ rfl (fW (w:=wr) hown _) ⟨wr.heap.size,0,η⟩ 1 1 [.string ⟨#[]⟩] rfl rfl ?c1 ?c2 (by decide) ?c3 ?c4 ?c5 (wr.heap.size+1) ?nS ?_)
    case c1=>exact nR (cs:=#[.string ⟨#[]⟩]) (t:=9) (fr:=(0,0)) (heap_alloc_new wr _)
    case c2=>intro u hu;simp at hu;subst hu;rfl
    case c3=>unfold maxLen;omega
    case c4=>omega
    case c5=>simp;omega
    case nS=>simp
    (intro gg dm w3 j5 hgrow hat jl;have eA:Hid (w3.ownsRow w.heap.size 9 1 (.slice (θ ⟨gg,0,η⟩) (ws++[ByteArray.mk #[]]).length dm) (ws++[ByteArray.mk #[]]).length ((ws++[ByteArray.mk #[]]).map gV)):=by show x9 _ _ _ _ _ _ _;rw[List.length_append,List.map_append];exact j5);have aN:=aa ((hb.alloc hB (.cells #[.string ⟨#[]⟩] 9)).grown hgrow (by simp;omega) (λj hj=>(hown.lt j hj).1));clear hown j5 hgrow hat jl;go_wp2;go_roundw
    case rel=>exact⟨k+1,gg,dm,ws++[ByteArray.mk #[]],by omega,by go_num,EZ.out,by simp,eA.out,aN.out⟩
    case measure=>simp[intOf];omega
   .obtain⟨M,a,hM⟩:∃M a,ws=M++[a]:=by
     rcases List.eq_nil_or_concat ws with q|⟨M,a,q⟩
     .have:=fN.out;rw[q]at this;exact absurd this.symm (zg _ _)
     .exact⟨M,a,by rw[q,List.concat_eq_append]⟩
    (subst hM;(have hlm:(M++[a]).length=M.length+1:=by simp);have EZ:Hid ((M++[a++s.extract k (k+1)]).map (λs=>s.data.toList)=sp c (s.data.toList.take (k+1))):=by show _=_;rw[aX.out,Lg hc _ (M.map (λs=>s.data.toList)) a.data.toList (by rw[<-fN.out,List.map_append];rfl),List.map_append];simp only[List.map_cons,List.map_nil,one_byte s k hlt]);(have dV :¬(s[k].toNat:Int)=(c.toNat:Int):=λq=>hc (UInt8.toNat_inj.1 (by omega));rw[hlm]at hown lN ⊢;(have c0:wr.cell? ⟨aT,M.length,η⟩=θ (.string a):=by rw[hown.cellAt _ (by omega)];simp);have fz:=hown.frozenAt M.length;have hst:=(hown.stored M.length (.string (a++s.extract k (k+1))));have eA:Hid ((wr.setCell ⟨aT,M.length,η⟩ (.string (a++s.extract k (k+1)))).ownsRow w.heap.size 9 1 (.slice (θ ⟨aT,0,η⟩) (M++[a++s.extract k (k+1)]).length cap) (M++[a++s.extract k (k+1)]).length ((M++[a++s.extract k (k+1)]).map gV)):=by show x9 _ _ _ _ _ _ _;(have e1:(M++[a++s.extract k (k+1)]).length=M.length+1:=by simp);(have e2:((M++[a]).map gV).set M.length (.string (a++s.extract k (k+1)))=(M++[a++s.extract k (k+1)]).map Value.string:=by simp);rw[e1,<- e2];exact hst.1);(have aN:=aa (hb.grown hst.2 hB (λj hj=>(hown.lt j hj).1));(have j1:((M.length+1:Nat):Int)- 1=(M.length:Int):=by omega);(have j2:(M.length:Int)<((M.length+1:Nat):Int):=by omega);(have aAH:(M.length:Int)<(M.length:Int)+1:=by omega);(have anC:(0:Int)<=(M.length:Int):=by omega);have aAI:IntKind.i64.wrap (M.length:Int)=(M.length:Int):=uj _ (by omega) (by omega);have aAJ:IntKind.i64.wrap ((k:Int)+1)=(k:Int)+1:=uj _ (by omega) (by omega);(have aAK:((k:Int)+1).toNat=k+1:=by omega);(have aAL:(k:Int)+1<=(s.size:Int):=by omega);(have aAM:(k:Int)<=(k:Int)+1:=by omega);have aAN:¬9223372036854775807<a.size+(min (k+1) s.size-k):=by have h1:=Zj c (s.data.toList.take k) a.data.toList (by rw[<-fN.out,List.map_append];simp);rw[List.length_take]at h1;(have h2:a.data.toList.length=a.size:=by rw[jk];rfl);omega);clear hst hown hc hlm;go_wp2_with fail;refine BC ?_;refine D7 (S:=λw'=>w'.cell? ⟨aT,M.length,η⟩=θ (.string a)) (by kernel_rfl) (by simp) (by kernel_rfl) (by kernel_rfl) c0 (λhHeld=>?_);simp only[List.pop_toArray,List.dropLast,List.back!_toArray,List.getLast!];refine tk 0 ?_;refine tk 1 ?_;refine tk 2 ?_;refine tk 3 ?_;refine tk 4 ?_;refine tk 5 ?_;refine tk 6 ?_;refine tk 7 ?_;refine tk 8 ?_;refine tk 9 ?_;refine tk 10 ?_;refine tk 11 ?_;refine tk 12 ?_;refine gU (by kernel_rfl) ?_ _;refine pE (λK hK=>?_);clear hHeld;go_simp;refine hK.out _ _ (rB ?_);clear hK K c0 fz;go_wp2;go_roundw
    case rel=>exact⟨k+1,aT,cap,M++[a++s.extract k (k+1)],by omega,by go_num,EZ.out,by simp,eA.out.drew,aN.out.drew⟩
    case measure=>simp[intOf];omega
  ·(have c6:k=s.size:=by omega);subst c6;have ht:s.data.toList.take s.size=s.data.toList:=List.take_of_length_le (by rw[BH.out];exact Nat.le_refl _);rw[ht]at fN;clear ht;go_wp2;go_ret;exact⟨aT,cap,ws,fN.out,rfl,hown,hb⟩
theorem atw s w(hs:s.size<=65536)(hM:iN B w):Ξ ah 11 #[.string s] w λe w'=>∃aT cap,e=.returned (.slice (θ ⟨aT,0,η⟩) (ek s.data.toList).length cap)/\(∀j x,(ek s.data.toList)[j]?=θ x->w'.cell? ⟨aT,j,η⟩=θ (.string ⟨x.toArray⟩))/\aT<w'.heap.size/\Below w.heap.size w w':=by
 have h0:=adB 10 s w hs hM;have hl:=zh 10 s.data.toList;rw[show s.data.toList.length=s.size by rw[jk];rfl]at hl;obtain⟨M,a,hM⟩:∃M a,sp 10 s.data.toList=M++[a]:=by
  rcases List.eq_nil_or_concat (sp 10 s.data.toList)with q|⟨M,a,q⟩
  .exact absurd q (zg _ _)
  .exact⟨M,a,by rw[q,List.concat_eq_append]⟩
 have aJ:Hid (ek s.data.toList=if a=[]then M else M++[a]):=by show _=_;unfold ek;rw[hM];simp
 rw[hM]at h0 hl;have hlm:(M++[a]).length=M.length+1:=by simp
 rw[hlm]at h0 hl;clear hM hlm;go_enter akx,ntmps11;go_wp2_with fail;refine h0.mono ?_;rintro r w1 ⟨rfl,hc,hlt,hb⟩;have ca:=hc M.length a (by simp);have ak:=aa hc;have aD:=aa hb;have hE:(⟨a.toArray⟩:ByteArray).toList=a:=by rw[oK]
 generalize (⟨a.toArray⟩:ByteArray)=b at ca hE;clear h0 hc hb;by_cases hA:a=[]
 .have Cx:b.toList.isEmpty=true:=by rw[hE,hA];rfl
  rw[χ hA]at aJ;clear hA hE;go_wp2;go_ret;rw[aJ.out];exact⟨_,_,rfl,λj x hj=>ak.out j x (by rw[List.getElem?_append_left (List.getElem?_eq_some_iff.1 hj).1];exact hj),hlt,aD.out⟩
 .have Cx:b.toList.isEmpty=false:=by rw[hE];simpa using hA
  rw[ς hA]at aJ;clear hA hE;go_wp2;go_ret;rw[aJ.out];exact⟨_,_,by simp;rfl,ak.out,hlt,aD.out⟩
theorem atx s w(hs:s.size<=65536)(hM:iN B w):Ξ ah 12 #[.string s] w λe w'=>∃v,e=.returned v/\w'.ownsRow w.heap.size 9 1 v (ew s.data.toList).length (kA (ew s.data.toList))/\Below w.heap.size w w':=by
 obtain⟨i0,hi,cg,hz1,bX⟩:=er Tryz.IB;have h0:=adB 32 s w hs hM;have hl:=zh 32 s.data.toList;rw[show s.data.toList.length=s.size by rw[jk];rfl]at hl;have fN:Hid (ew s.data.toList=(sp 32 s.data.toList).filter λx=> !x.isEmpty):=rfl;generalize sp 32 s.data.toList=P at*;rw[fN.out];clear fN;go_enter aky,ntmps12;go_wp2_with fail;refine h0.mono ?_;rintro r w1 ⟨rfl,hc,BB,hb⟩;have aD:=aa hb;have hcells:∀j (h:j<P.length),w1.cell? ⟨w.heap.size,j,η⟩=θ (.string ⟨P[j].toArray⟩):=λj h=>hc j _ (List.getElem?_eq_getElem h);clear h0 hb hc;go_wp2;go_loopw [3,9] (λv i wr=>∃(k:Nat),k<=P.length/\i=.int .i64 k/\wr.ownsRow w1.heap.size 9 1 v ((P.take k).filter λx=> !x.isEmpty).length (kA ((P.take k).filter λx=> !x.isEmpty))/\Below w1.heap.size w1 wr) (λ_ i _=>P.length-(intOf i).toNat)
 case atStart=>exact⟨0,Nat.zero_le _,rfl,dJ _ _ _ _,Below.refl _ _⟩
 case round=>
  obtain⟨k,hk,rfl,hown,hb⟩:=hrel;have hB:=hb.size;by_cases hlt:k<P.length
  ·(have i1:(k:Int)<(P.length:Int):=by omega);(have oh:wr.cell? ⟨w.heap.size,k,η⟩=θ (.string ⟨P[k].toArray⟩):=by rw[hb.cell (p:=⟨w.heap.size,k,η⟩) BB];exact hcells k hlt);have aX:=aa (jZ P k hlt);have hfl:((P.take k).filter λx=> !x.isEmpty).length<=P.length:=Nat.le_trans (List.length_filter_le _ _) (by rw[List.length_take];omega);(have hE:(⟨P[k].toArray⟩:ByteArray).toList=P[k]:=by rw[oK]);generalize hQ:((P.take k).filter λx=> !x.isEmpty)=Q at*;by_cases hA:P[k]=[]
   ·(have gw:Hid ((P.take (k+1)).filter (λx=> !x.isEmpty)=Q):=by show _=_;rw[aX.out,List.filter_append,hQ];simp[hA]);(have Cx:(⟨P[k].toArray⟩:ByteArray).toList.isEmpty=true:=by rw[hE,hA];rfl);generalize (⟨P[k].toArray⟩:ByteArray)=a at*;clear hA aX hQ hE;go_wp2;go_roundw
    case rel=>exact⟨k+1,by omega,by go_num,by rw[gw.out];exact hown,hb⟩
    case measure=>simp[intOf];omega
   ·(have gw:Hid (kA ((P.take (k+1)).filter λx=> !x.isEmpty)=kA Q++[.string ⟨P[k].toArray⟩]/\((P.take (k+1)).filter λx=> !x.isEmpty).length=Q.length+1):=by show _/\_;rw[aX.out,List.filter_append,hQ];simp[hA,kA]);(have Cx:(⟨P[k].toArray⟩:ByteArray).toList.isEmpty=false:=by rw[hE];simpa using hA);generalize (⟨P[k].toArray⟩:ByteArray)=a at*;clear hA aX hQ hE;go_wp2_with(at_builtin;refine zX _ rfl _ _ 23 rfl w1.heap.size 9 i0 (.string ⟨#[]⟩) 1 16 ((cD 23).trans underlying23) hi cg hz1 bX rfl (by decide) _ _ _ rfl (fW (w:=wr) hown _) ⟨wr.heap.size,0,η⟩ 1 1 [.string a] rfl rfl ?c1 ?c2 (by decide) ?c3 ?c4 ?c5 (wr.heap.size+1) ?nS ?_)
    case c1=>exact nR (cs:=#[.string a]) (t:=9) (fr:=(0,0)) (heap_alloc_new wr _)
    case c2=>intro u hu;simp at hu;subst hu;rfl
    case c3=>unfold maxLen;omega
    case c4=>omega
    case c5=>simp;omega
    case nS=>simp
    intro gg dm w3 j5 hgrow hat jl;have eA:=aa j5;have aN:=aa ((hb.alloc hB (.cells #[.string a] 9)).grown hgrow (by simp;omega) (λj hj=>(hown.lt j hj).1));clear hown j5 hgrow hat jl;go_wp2;go_roundw
    case rel=>exact⟨k+1,by omega,by go_num,by rw[gw.out.1,gw.out.2];exact eA.out,aN.out⟩
    case measure=>simp[intOf];omega
  ·(have bp:k=P.length:=by omega);rw[bp,List.take_length]at hown;clear hcells;go_wp2;go_ret;exact⟨_,rfl,gJ hown aD.out.size,aD.out.trans (hb.mono aD.out.size)⟩
theorem aty ao cap L w(hL:kz w ao L)(hne:∀x∈L,x≠[]):Ξ ah 13 #[.slice ao L.length cap] w λe w'=>e=.returned (.bool (mY L))/\w'=w:=by
 cases L with
 |nil=>
  go_enter QF,ntmps13;go_wp2;go_ret;exact⟨rfl,rfl⟩
 |cons x r=>
  rcases hL with h|⟨b,off,rfl,hlt,hc⟩
  .simp at h
  have c0:=hc 0 x rfl;rw[Nat.add_zero]at c0;obtain⟨c,t,rfl⟩:∃c t,x=c::t:=by
   cases x with
   |nil=>exact absurd rfl (hne [] (by simp))
   |cons c t=>exact⟨c,t,rfl⟩
  have hs:(⟨(c::t).toArray⟩:ByteArray).size=t.length+1:=bsize _;have h0:(⟨(c::t).toArray⟩:ByteArray)[0]'(by rw[hs];omega)=c:=rfl;have cu:Hid (mY ((c::t)::r)=(c !=35)):=by show _=_;simp[mY];rfl
  have i1:(0:Int)<(r.length:Int)+1:=by omega
  rw[cu.out];rw[List.length_cons];generalize (⟨(c::t).toArray⟩:ByteArray)=s at*;clear hc hne cu;by_cases e:c=35
  .subst e;go_enter QF,ntmps13;go_wp2;go_ret;exact⟨rfl,rfl⟩
  ·(have e1:(c !=35)=true:=by simpa using e);have e2:¬(c.toNat:Int)=35:=λq=>e (UInt8.toNat_inj.1 (by have:(35:UInt8).toNat=35:=rfl;omega));(have e3:((c.toNat:Int) !=35)=true:=by simpa using e2);rw[e1];clear e e1;go_enter QF,ntmps13;go_wp2;go_ret;exact⟨rfl,rfl⟩
theorem rY{b}{P:Prop}(h:P):b=ν\/b=ο/\P:=by cases b<;>simp[h]
def Ub(o:Option (Nat×Bool)):Value:=.tuple #[.agg #[.int .i64 ((o.getD (0,ο)).1:Nat),.bool (o.getD (0,ο)).2],.bool o.isSome]
theorem atz s w:Ξ ah 34 #[.string s] w λe w'=>e=.returned (Ub (sX s.data.toList))/\Below w.heap.size w w':=by
 have hs:sX s.data.toList=if((s.toList==qs)||(s.toList==gL))=ν then θ (0,ο)else if(s.toList==pH)=ν then θ (0,ν)else if(s.toList==lG)=ν then θ (1,ο)
   else if((s.toList==rD)||((s.toList==ur)||((s.toList==kO)||((s.toList==sW)||((s.toList==vL)||((s.toList==vM)||((s.toList==vN)||(s.toList==mZ))))))))=ν then θ (2,ο)
   else if(s.toList==kP)=ν then θ (2,ν)else none:=by
  rw[oK];simp only[sX,Bool.or_eq_true,wK]
 have H:=rY (b:=s.toList==qs) (rY (b:=s.toList==gL) (rY (b:=s.toList==pH) (rY (b:=s.toList==lG) (rY (b:=s.toList==rD) (rY (b:=s.toList==ur) (rY (b:=s.toList==kO)
  (rY (b:=s.toList==sW) (rY (b:=s.toList==vL) (rY (b:=s.toList==vM) (rY (b:=s.toList==vN) (rY (b:=s.toList==mZ) (rY (b:=s.toList==kP) True.intro))))))))))))
 have hb0:=Below.refl w.heap.size w;rcases H with b|⟨a1,b|⟨a2,b|⟨a3,b|⟨a4,b|⟨a5,b|⟨a6,b|⟨a7,b|⟨a8,b|⟨a9,b|⟨aAO,b|⟨aAP,b|⟨a12,b|⟨aAQ,_⟩⟩⟩⟩⟩⟩⟩⟩⟩⟩⟩⟩⟩;all_goals
  simp only[*,Bool.or_true,Bool.or_false,Bool.true_or,Bool.false_or,dF,Bool.false_eq_true,fh]at hs;rw[hs];clear hs;simp only[qs,gL,pH,lG,rD,ur,kO,sW,vL,vM,vN,mZ,kP]at*;have aD:=aa (ax w);clear hb0;go_enter akF,ntmps34;go_wp2;exact cR (by simp[results,results34,go_sem];rfl) rfl ⟨rfl,aD.out _⟩
theorem atA n f k w:Ξ ah 35 #[.agg #[.int .i64 n,.bool f],.int .i64 k] w λe w'=>e=.returned (.bool (decide (k=n)||(f&&decide (n<k))))/\Below w.heap.size w w':=by
 have hb0:=aa (ax w);by_cases h:k=n
 .subst h;cases f
  all_goals
   go_enter QG,ntmps35;go_wp2;go_ret;exact⟨by simp,hb0.out _⟩
 .have h1:¬k=n:=h;have h2:(k==n)=false:=by simpa using h
  by_cases h3:n<k
  ·(cases f);all_goals
    go_enter QG,ntmps35;go_wp2;go_ret;exact⟨by simp[h1,h3],hb0.out _⟩
  ·(have h4:k<=n:=by omega);(cases f);all_goals
    go_enter QG,ntmps35;go_wp2;go_ret;exact⟨by simp[h1,h3],hb0.out _⟩
theorem atB s w(hs:s.size<=65536)(hM:iN B w):Ξ ah 62 #[.string s,.string ⟨#[64]⟩] w λe w'=>e=.returned (.tuple #[.string ⟨(uk s.data.toList [64]).1.toArray⟩,.string ⟨(uk s.data.toList [64]).2.1.toArray⟩,.bool (uk s.data.toList [64]).2.2])/\Below w.heap.size w w':=by obtain⟨m,hm⟩:=hM.cell;refine(Tryz.strings_Cut s ⟨#[64]⟩ m w (by omega) hm).mono ?_;rintro e w' ⟨rfl,n,rfl⟩;exact⟨rfl,below_drewN (Below.refl _ _) n⟩
theorem atC ao cap L w(hL:kz w ao L)(hn:L.length<=65536)(hx:∀x∈L,x.length<=65536)(hM:iN w.heap.size w):Ξ ah 37 #[.slice ao L.length cap] w λe w'=>∃v,e=.returned (.tuple #[v,.bool (fY L).isSome])/\w'.ownsRow w.heap.size 103 2 v ((fY L).getD []).length (gp ((fY L).getD []))/\Below w.heap.size w w':=by
 obtain⟨i0,hi,cg,hz1,bX⟩:=er Tryz.aqv;have cA:=aa hL;have kV:=aa hx;have fG:=aa hM;clear hL hx hM;go_enter akG,ntmps37;go_wp2;go_loopw [4,16] (λv i wr=>∃(k:Nat) (l:List (Int×Int)),k<=L.length/\i=.int .i64 k/\fY (L.take k)=θ l/\wr.ownsRow w.heap.size 103 2 v l.length (gp l)/\Below w.heap.size w wr) (λ_ i _=>L.length-(intOf i).toNat)
 case atStart=>exact⟨0,[],Nat.zero_le _,rfl,rfl,dJ _ _ _ _,Below.refl _ _⟩
 case round=>
  obtain⟨k,l,hk,rfl,hl,hown,hb⟩:=hrel;have hB:=hb.size;by_cases hlt:k<L.length
  ·(have i1:(k:Int)<(L.length:Int):=by omega);rcases cA.out with h|⟨b,off,rfl,hlb,hc⟩
   .subst h;simp at hlt
   (have oh:wr.cell? ⟨b,off+k,η⟩=θ (.string ⟨L[k].toArray⟩):=by rw[hb.cell (p:=⟨b,off+k,η⟩) hlb];exact hc k _ (List.getElem?_eq_getElem hlt));have aX:=aa (jZ L k hlt);have hC:=atB ⟨L[k].toArray⟩ wr (by rw[bsize];exact kV.out _ (List.getElem_mem hlt)) (fG.out.below hb);rw[show (⟨L[k].toArray⟩:ByteArray).data.toList=L[k]by simp]at hC;have bU:Hid (∀o,zx L[k]=o->fY (L.take (k+1))=(o.map λh=>l++[h])/\(o=η->fY L=η)):=by
    intro o ho;rw[aX.out];refine⟨?_,λh=>?_⟩
    .cases o with
     |none=>exact RH ho _ []
     |some h=>exact anF hl ho
    .subst h;have:=RH ho (L.take k) (L.drop (k+1));rwa[<-List.drop_eq_getElem_cons hlt,List.take_append_drop]at this
   have ak:=aa hC;(have uo:l.length=k:=by have:=ZO hl;rw[List.length_take]at this;omega);generalize (⟨L[k].toArray⟩:ByteArray)=x at*;unfold zx at bU;have hN:=λs W=>Rt s W;generalize (uk L[k] [64]).1=a1 at*;generalize (uk L[k] [64]).2.1=a2 at*;generalize (uk L[k] [64]).2.2=a3 at*;have hN1:=hN ⟨a1.toArray⟩;have MT:=hN ⟨a2.toArray⟩;rw[show (⟨a1.toArray⟩:ByteArray).data.toList=a1 by simp]at hN1;rw[show (⟨a2.toArray⟩:ByteArray).data.toList=a2 by simp]at MT;unfold D4 at hN1 MT;clear hN hC hc hl aX;go_wp2_with fail;refine ak.out.mono ?_;rintro e w1 ⟨rfl,aj⟩;have aS:=aa (hb.trans (aj.mono hB));have fP:=aa (cE hown aj);clear hown hb aj ak oh;go_wp2_with fail;refine(hN1 _).mono ?_;rintro e w2 ⟨rfl,rfl⟩;go_wp2_with fail;refine(MT _).mono ?_;rintro e w3 ⟨rfl,rfl⟩;clear hN1 MT;cases e1:nm a1 with
   |none=>
    have bx:Hid (fY L=η):=(bU.out η (by rw[e1])).2 rfl;simp only[e1,ic,jG];clear bU e1;go_wp2;go_ret2;rw[bx.out];exact⟨_,rfl,dJ _ _ _ _,aS.out⟩
   |some n1=>
    simp only[e1,gu,Ω];cases e2:nm a2 with
    |none=>
     have bx:Hid (fY L=η):=(bU.out η (by rw[e1,e2])).2 rfl;simp only[e2,ic,jG];clear bU e1 e2;go_wp2;go_ret2;rw[bx.out];exact⟨_,rfl,dJ _ _ _ _,aS.out⟩
    |some n2=>
     have bx:Hid (fY (L.take (k+1))=θ (l++[(n1,n2)])):=(bU.out (θ (n1,n2)) (by rw[e1,e2])).1;simp only[e2,gu,Ω];clear bU e1 e2;have hown:=fP.out;have jW:=aS.out.size;go_wp2_with(at_builtin;refine zX _ rfl _ _ 51 rfl w.heap.size 103 i0 (.agg #[.int .i64 0,.int .i64 0]) 2 16 ((cD 51).trans underlying51) hi cg hz1 bX rfl (by decide) _ _ _ rfl (fW (w:=w3) hown _) ⟨w3.heap.size,0,η⟩ 1 1 [.int .i64 n1,.int .i64 n2] rfl rfl ?c1 ?c2 (by decide) ?c3 ?c4 ?c5 (w3.heap.size+1) ?nS ?_)
     case c1=>exact nR (cs:=#[.int .i64 n1,.int .i64 n2]) (t:=103) (fr:=(0,0)) (heap_alloc_new w3 _)
     case c2=>intro u hu;simp at hu;rcases hu with rfl|rfl<;>rfl
     case c3=>unfold maxLen;omega
     case c4=>omega
     case c5=>simp;omega
     case nS=>simp
     (intro gg dm w4 j5 hgrow hat jl;have eA:Hid (w4.ownsRow w.heap.size 103 2 (.slice (θ ⟨gg,0,η⟩) (k+1) dm) (l++[(n1,n2)]).length (gp (l++[(n1,n2)]))):=by show x9 _ _ _ _ _ _ _;rw[List.length_append,aqw,uo];exact j5);have aN:=aa ((aS.out.alloc jW (.cells #[.int .i64 n1,.int .i64 n2] 103)).grown hgrow (by simp;omega) (λj hj=>(hown.lt j hj).1));clear hown fP j5 hgrow hat jl;go_wp2;go_roundw
     case rel=>exact⟨k+1,_,by omega,by go_num,bx.out,eA.out,aN.out⟩
     case measure=>simp[intOf];omega
  ·(have bp:k=L.length:=by omega);rw[bp,List.take_length]at hl;have bx:=aa hl;have ck:=aa hown;have aD:=aa hb;obtain⟨fX,vc,rfl,_,_⟩:=mD hown;clear hl hown hb;go_wp2;go_ret2;rw[bx.out];exact⟨_,rfl,ck.out,aD.out⟩
def atD(v:ay):Prop:=∃s na nn au fa fn eG ha hn hc,v=.agg #[.string s,.slice na nn au,.slice fa fn eG,.slice ha hn hc]
structure adE(w:υ)(v:ay)(o:nT):Prop where
 is:∃na au fa eG ha hc,v=.agg #[.string ⟨o.name.toArray⟩,.slice na o.n.length au,.slice fa o.further.length eG,.slice ha o.hops.length hc]/\jC w na o.n/\kz w fa o.further/\o.further.length<=eG/\eg w ha o.hops
theorem kz.drop{b qN}{L}(h:kz w (θ ⟨b,qN,η⟩) L)m:kz w (θ ⟨b,qN+m,η⟩) (L.drop m):=by
 rcases h with rfl|⟨b',o',e,hlt,hc⟩
 .exact .inl (by simp)
 .cases e
  exact .inr ⟨b,qN+m,rfl,hlt,λj x hj=>by rw[List.getElem?_drop]at hj;rw[show qN+m+j=qN+(m+j)by omega];exact hc _ _ hj⟩
structure Cy(w2 wr:υ)(x v y:ay)(l:List Int):Prop where
 box:wr.heap[w2.heap.size]?=θ (.cells #[x,v,y,.slice η 0 0] 53 (0,0))
 own:wr.ownsRow (w2.heap.size+1) 3 1 v l.length (l.map (bM .i64))
 aQ:Below w2.heap.size w2 wr
theorem Cy.lt{w2 wr}{x v y}{l}(h:Cy w2 wr x v y l):w2.heap.size<wr.heap.size:=xD h.box
theorem Cy.put{w2 wr w4}{x v y v'}{l}{n}{o}(h:Cy w2 wr x v y l)(hg:(wr.alloc o).grownBy w4 v.ownBlock)(ho:w4.ownsRow (w2.heap.size+1) 3 1 v' (l.length+1) (l.map (bM .i64)++[.int .i64 n])):w4.heap[w2.heap.size]?=θ (.cells #[x,v,y,.slice η 0 0] 53 (0,0))/\Cy w2 (w4.setCell ⟨w2.heap.size,1,η⟩ v') x v' y (l++[n]):=by
 have hl:=h.lt;have ha:(wr.alloc o).heap[w2.heap.size]?=θ (.cells #[x,v,y,.slice η 0 0] 53 (0,0)):=by rw[(ax wr o).block _ hl];exact h.box
 have hr:(wr.alloc o).ownsRow (w2.heap.size+1) 3 1 v l.length (l.map (bM .i64)):=cE h.own (ax wr o);have hb:w4.heap[w2.heap.size]?=θ (.cells #[x,v,y,.slice η 0 0] 53 (0,0)):=by rw[hg.block _ (xD ha) (λk=>kK hr ha (by decide) k.symm)];exact ha
 refine⟨hb,by rw[GS hb];rfl,?_,?_⟩
 .have:=j0 (b:=w2.heap.size) (j:=1) (u:=v') ho (kK ho hb (by decide));simpa using this
 .have h1:Below w2.heap.size w2 (wr.alloc o):=h.aQ.alloc (by omega) o;exact(h1.grown hg (by simp;omega) (λj hj=>by have:=(hr.lt j hj).1;omega)).setCell (p:=⟨w2.heap.size,1,η⟩) (Nat.le_refl _) _
theorem atE{k}{m}{f}(h:sX k=θ (m,f)):m<=2:=by
 unfold sX at h
 repeat' (split at h)
 all_goals first|(cases h;omega)|cases h
theorem adF{base size R}{v}(h:w.ownsRow base e size v n xs)(hR:R<base)a b c d:((((w.setCell ⟨R,0,η⟩ a).setCell ⟨R,1,η⟩ b).setCell ⟨R,2,η⟩ c).setCell ⟨R,3,η⟩ d).ownsRow base e size v n xs:=by
 have hne:v.ownBlock≠θ R:=λk=>by have:=(h.lt R k).1;omega
 exact j0 (j0 (j0 (j0 h hne) hne) hne) hne
theorem adG{R B'}{a b c d IC hv}{k}{l}{F}{H}{fa}{eG}(hn:W.ownsRow B 3 1 IC l.length (l.map (bM .i64)))(hR:R<B)(hh:W.ownsRow B' 103 2 hv H.length (gp H))(Gb:R<B')(hF:kz ((((W.setCell ⟨R,0,η⟩ a).setCell ⟨R,1,η⟩ b).setCell ⟨R,2,η⟩ c).setCell ⟨R,3,η⟩ d) fa F)(wE:F.length<=eG):adE ((((W.setCell ⟨R,0,η⟩ a).setCell ⟨R,1,η⟩ b).setCell ⟨R,2,η⟩ c).setCell ⟨R,3,η⟩ d) (.agg #[.string ⟨k.toArray⟩,IC,.slice fa F.length eG,hv]) ⟨k,l,F,H⟩:=by obtain⟨na,au,rfl,h1⟩:=GO (adF hn hR a b c d);obtain⟨ha,hc,rfl,h2⟩:=GP (adF hh Gb a b c d);exact⟨na,au,fa,eG,ha,hc,rfl,h1,hF,wE,h2⟩
theorem atF{ws:List (List UInt8)}{m}(h:j<m)(hj:j<ws.length)(hn:nm ws[j]=η):fD (ws.take m)=none:=by
 have e:ws.take m=ws.take (j+1)++(ws.take m).drop (j+1):=by have:=(List.take_append_drop (j+1) (ws.take m)).symm;rwa[List.take_take,Nat.min_eq_left (by omega)]at this
 rw[e];exact Rv _ (by rw[jZ ws j hj];exact Rw hn)
theorem adH f (m n:Nat):(decide ((n:Int)=m)||(f&&decide ((m:Int)<n)))=decide (n=m\/(f=ν/\m<n)):=by
 have h1:(n:Int)=m↔n=m:=by omega
 have h2:(m:Int)<n↔m<n:=by omega
 cases f<;>simp[h1,h2]
theorem Cz{R}(h:Below w.heap.size w W)(hR:w.heap.size<=R)a b c d:Below w.heap.size w ((((W.setCell ⟨R,0,η⟩ a).setCell ⟨R,1,η⟩ b).setCell ⟨R,2,η⟩ c).setCell ⟨R,3,η⟩ d):=
 (((h.setCell (p:=⟨R,0,η⟩) hR a).setCell (p:=⟨R,1,η⟩) hR b).setCell (p:=⟨R,2,η⟩) hR c).setCell (p:=⟨R,3,η⟩) hR d
theorem atG ao(cap:Nat)k ws w(hL:kz w ao (k::ws))(hcap:ws.length+1<=cap)(hcm:cap<=9223372036854775807)(hn:ws.length<=65536)(hx:∀x∈ws,x.length<=65536)(hM:iN w.heap.size w):Ξ ah 26 #[.slice ao (ws.length+1) cap] w λe w'=>∃v,e=.returned (.tuple #[v,.bool (nc (k::ws)).isSome])/\atD v/\(∀o,nc (k::ws)=θ o->adE w' v o)/\Below w.heap.size w w':=by
 obtain⟨i0,hi,cg,MU,MH⟩:=er Tryz.ua;have CB:=λW=>atz ⟨k.toArray⟩ W;rw[show (⟨k.toArray⟩:ByteArray).data.toList=k by simp]at CB;rcases hL with h|⟨b,off,rfl,hlt,hc⟩
 .simp at h
 have c0:=hc 0 k rfl;rw[Nat.add_zero]at c0;have ID:Hid (∀W,Below w.heap.size w W->kz W (θ ⟨b,off+1,η⟩) ws):=λW hb=>.inr ⟨b,off+1,rfl,Nat.lt_of_lt_of_le hlt hb.size,λj x hj=>by
  rw[hb.cell (p:=⟨b,off+1+j,η⟩) hlt,show off+1+j=off+(j+1)by omega];exact hc (j+1) x hj⟩
 have fG:=aa hM;have kV:=aa hx;have aU:=aa CB;have bS:=aa (ax w (.cells #[.string ⟨#[]⟩,.slice η 0 0,.slice η 0 0,.slice η 0 0] 53));have i1:(1:Int)<=(ws.length:Int)+1:=by omega
 clear hc hM hx CB;go_enter akD,ntmps26;go_wp2_with fail;go_region;go_wp2_with fail
 case' inl=>
  have aX:Hid (∀W,Below w.heap.size w W->kz W (θ ⟨b,off,η⟩) ws):=λW _=>.inl (List.eq_nil_of_length_eq_zero (by omega));obtain⟨fI,uM⟩:∃fI,fI=0:=⟨_,rfl⟩;have hcl:ws.length<=fI:=by omega
  rw[show j4 (θ ⟨b,off,η⟩) ws.length 0=.slice (θ ⟨b,off,η⟩) ws.length fI by rw[uM]];rename cap=1=>Uc;clear c0 ID Uc;generalize off=qN at*
 case' inr=>
  have aX:Hid (∀W,Below w.heap.size w W->kz W (θ ⟨b,off+1,η⟩) ws):=ID.out;obtain⟨fI,uM⟩:∃fI,fI=cap- 1:=⟨_,rfl⟩;have hcl:ws.length<=fI:=by omega
  rw[<-uM];rename ¬cap=1=>Uc;clear c0 ID Uc;generalize off+1=qN at*
 all_goals
  have aAR:fI<=9223372036854775807:=by omega
  clear uM i1;refine(aU.out _).mono ?_;rintro e w1 ⟨he,aj⟩;have jW:=bS.out.drew.trans (aj.mono (by simp));have hz1:w.heap.size<w1.heap.size:=by have:=aj.size;simp at this;omega
  have r0:w1.cell? ⟨w.heap.size,0,η⟩=θ (.string ⟨#[]⟩):=by rw[aj.cell (p:=⟨w.heap.size,0,η⟩) (by simp)];simp
  have r1:w1.cell? ⟨w.heap.size,1,η⟩=θ (.slice η 0 0):=by rw[aj.cell (p:=⟨w.heap.size,1,η⟩) (by simp)];simp
  have r2:w1.cell? ⟨w.heap.size,2,η⟩=θ (.slice η 0 0):=by rw[aj.cell (p:=⟨w.heap.size,2,η⟩) (by simp)];simp
  have r3:w1.cell? ⟨w.heap.size,3,η⟩=θ (.slice η 0 0):=by rw[aj.cell (p:=⟨w.heap.size,3,η⟩) (by simp)];simp
  have f0:∀j,w1.frozen? ⟨w.heap.size,j,η⟩=false:=λj=>by rw[aj.frozen (p:=⟨w.heap.size,j,η⟩) (by simp)];simp
  have aS:=aa jW;clear aj jW bS aU;cases hs:sX k with
  |none=>
   (have bx:Hid (nc (k::ws)=η):=by show _=_;simp only[nc,hs]);simp only[Ub,hs,ic,jG]at he;subst he;clear hs;go_wp2;exact cR (v:=.tuple #[.agg #[.string ⟨#[]⟩,.slice η 0 0,.slice η 0 0,.slice η 0 0],.bool ο]) (by simp[results,results26,go_sem,r0,r1,r2,r3,hz1]) rfl
    ⟨_,by rw[bx.out];rfl,⟨_,_,_,_,_,_,_,_,_,_,rfl⟩,(λo h=>by rw[bx.out]at h;cases h),(Cz aS.out (Nat.le_refl _) _ _ _ _).alloc (by simp;omega) _⟩
  |some s=>
   obtain⟨m,f⟩:=s;have hm2:=atE hs;(have bI:Hid (nc (k::ws)=if ws.length=m\/(f=ν/\m<ws.length)then BK k m ws else η):=by show _=_;simp only[nc,hs]);simp only[Ub,hs,gu,Ω]at he;subst he;have hF:=λW=>atA m f ws.length W;clear hs;by_cases hfit:ws.length=m\/(f=ν/\m<ws.length)
   .have w5:(decide ((ws.length:Int)=m)||(f&&decide ((m:Int)<ws.length)))=true:=(adH f m ws.length).trans (CR hfit);(have hml:m<=ws.length:=by rcases hfit with h|h<;>omega);rw[χ hfit]at bI;rw[w5]at hF;clear w5 hfit;go_wp2_with fail;refine(hF _).mono ?_;rintro e w2 ⟨rfl,aq⟩;(have bX:w1.heap.size<w2.heap.size:=by have:=aq.size;simp at this;omega);(have s0:w2.cell? ⟨w1.heap.size,0,η⟩=θ (.int .i64 m):=by rw[aq.cell (p:=⟨w1.heap.size,0,η⟩) (by simp)];simp);have gj:=aa (bK (ax w1 _) aq);clear aq hF;go_wp2_with fail
    case' inr=>
     have aJ:Hid (∀W,Below w.heap.size w W->kz W (θ ⟨b,qN+m,η⟩) (ws.drop m)):=λW hb=>(aX.out W hb).drop m;obtain⟨eG,wE⟩:∃eG,eG=fI-m:=⟨_,rfl⟩;(have hfl:ws.length-m<=eG:=by omega);rw[<-wE];obtain⟨oU,hfo⟩:∃oU,oU=qN+m:=⟨_,rfl⟩;rw[<-hfo]at aJ ⊢
    case' inl=>
     have aJ:Hid (∀W,Below w.heap.size w W->kz W (θ ⟨b,qN,η⟩) (ws.drop m)):=λW hb=>.inl (List.drop_eq_nil_of_le (by omega));obtain⟨eG,wE⟩:∃eG,eG=0:=⟨_,rfl⟩;(have hfl:ws.length-m<=eG:=by omega);rw[show j4 (θ ⟨b,qN,η⟩) (ws.length-m) 0=.slice (θ ⟨b,qN,η⟩) (ws.length-m) eG by rw[wE]];obtain⟨oU,hfo⟩:∃oU,oU=qN:=⟨_,rfl⟩;rw[show j4 (θ ⟨b,qN,η⟩) (ws.length-m) eG=.slice (θ ⟨b,oU,η⟩) (ws.length-m) eG by rw[hfo]];rw[<-hfo]at aJ
    all_goals
     have IE:Cy w2 (w2.alloc (.cells #[.string ⟨k.toArray⟩,.slice η 0 0,.slice (θ ⟨b,oU,η⟩) (ws.length-m) eG,.slice η 0 0] 53)) (.string ⟨k.toArray⟩) (.slice η 0 0) (.slice (θ ⟨b,oU,η⟩) (ws.length-m) eG) []:=⟨heap_alloc_new w2 _,dJ _ _ _ _,ax w2 _⟩;clear wE hfo;generalize w2.alloc (.cells #[.string ⟨k.toArray⟩,.slice η 0 0,.slice (θ ⟨b,oU,η⟩) (ws.length-m) eG,.slice η 0 0] 53)=w3 at*;clear s0;go_loopw [44] (λi wr=>∃(j:Nat) (l:List Int) (IC:ay),j<=m/\i=.int .i64 j/\fD (ws.take j)=θ l/\Cy w2 wr (.string ⟨k.toArray⟩) IC (.slice (θ ⟨b,oU,η⟩) (ws.length-m) eG) l) (λi _=>m-(intOf i).toNat)
     case atStart=>exact⟨0,[],_,Nat.zero_le _,rfl,rfl,IE⟩
     case round=>
      obtain⟨j,l,IC,hj,rfl,hl,b8⟩:=hrel;have IF:=bK (bK aS.out gj.out) b8.aQ;have ck:=aa b8;have qB:=bK gj.out b8.aQ;have q0:=(qB.cell (p:=⟨w.heap.size,0,η⟩) hz1).trans r0;have q1:=(qB.cell (p:=⟨w.heap.size,1,η⟩) hz1).trans r1;have q2:=(qB.cell (p:=⟨w.heap.size,2,η⟩) hz1).trans r2;have dR:=(qB.cell (p:=⟨w.heap.size,3,η⟩) hz1).trans r3;have g0:∀j,wr.frozen? ⟨w.heap.size,j,η⟩=false:=λj=>(qB.frozen (p:=⟨w.heap.size,j,η⟩) hz1).trans (f0 j);have bw:=aa IF;clear IF qB IE;by_cases hlj:j<m
      ·(have MV:j<ws.length:=by omega);(have i1:(j:Int)<(m:Int):=by omega);rcases aX.out wr bw.out with h|⟨b',o',e,fM,hc⟩
       .subst h;simp at MV
       (cases e);have oh:=hc j ws[j] (List.getElem?_eq_getElem MV);have hN:=Rt ⟨ws[j].toArray⟩ wr;rw[show (⟨ws[j].toArray⟩:ByteArray).data.toList=ws[j]by simp]at hN;have fN:=aa (jZ ws j MV);have Ud:Hid (nm ws[j]=η->fD (ws.take m)=η):=atF hlj MV;clear hc;unfold D4 at hN;cases e1:nm ws[j]with
       |none=>
        (have bx:Hid (BK k m ws=η):=by show _=_;unfold BK;rw[Ud.out e1]);simp only[e1,ic,jG]at hN;clear e1 Ud;go_wp2_with fail;refine hN.mono ?_;rintro e w4 ⟨rfl,rfl⟩;clear hN;go_wp2;exact cR (v:=.tuple #[.agg #[.string ⟨#[]⟩,.slice η 0 0,.slice η 0 0,.slice η 0 0],.bool ο]) (by simp[results,results26,go_sem,q0,q1,q2,dR]) rfl
         ⟨_,by rw[bI.out,bx.out];rfl,⟨_,_,_,_,_,_,_,_,_,_,rfl⟩,(λo h=>by rw[bI.out,bx.out]at h;cases h),Cz bw.out (Nat.le_refl _) _ _ _ _⟩
       |some n=>
        (have bx:Hid (fD (ws.take (j+1))=θ (l++[n])):=by show _=_;rw[fN.out];exact Rx hl e1);(have uo:l.length<=2:=by have:=Ry hl;rw[List.length_take]at this;omega);simp only[e1,gu,Ω]at hN;clear e1 Ud fN hl;obtain⟨va,vc,rfl,_,_⟩:=mD b8.own;(have b1:wr.cell? ⟨w2.heap.size,1,η⟩=θ (.slice va l.length vc):=by rw[eu b8.box];rfl);have hlt2:=b8.lt;go_wp2_with fail;refine hN.mono ?_;rintro e w4 ⟨rfl,rfl⟩;clear hN;go_wp2_with(at_builtin;refine zX _ rfl _ _ 50 rfl (w2.heap.size+1) 3 i0 (.int .i64 0) 1 8 ((cD 50).trans underlying50) hi cg MU MH rfl (by decide) _ _ _ rfl (fW (w:=w4) ck.out.own _) ⟨w4.heap.size,0,η⟩ 1 1 [.int .i64 n] rfl rfl ?c1 ?c2 (by decide) ?c3 ?c4 ?c5 (w4.heap.size+1) ?nS ?_)
        case c1=>exact nR (cs:=#[.int .i64 n]) (t:=3) (fr:=(0,0)) (heap_alloc_new w4 _)
        case c2=>intro u hu;simp at hu;subst hu;rfl
        case c3=>unfold maxLen;omega
        case c4=>omega
        case c5=>simp;omega
        case nS=>simp
        intro gg dm aO j5 hgrow hat jl;obtain⟨bT,adI⟩:=ck.out.put hgrow j5;(have d1:aO.cell? ⟨w2.heap.size,1,η⟩=θ (.slice va l.length vc):=by rw[eu bT];rfl);have d2:aO.frozen? ⟨w2.heap.size,1,η⟩=false:=vH bT 1;have E0:=aa adI;clear j5 hgrow hat jl bT adI b8 oh b1 q0 q1 q2 dR g0;go_wp2;go_roundw
        case rel=>exact⟨j+1,_,_,by omega,by go_num,bx.out,E0.out⟩
        case measure=>simp[intOf];omega
      ·(have hjm:j=m:=by omega);subst hjm;obtain⟨va,vc,rfl,_,_⟩:=mD b8.own;(have b0:wr.cell? ⟨w2.heap.size,0,η⟩=θ (.string ⟨k.toArray⟩):=by rw[eu b8.box];rfl);(have b1:wr.cell? ⟨w2.heap.size,1,η⟩=θ (.slice va l.length vc):=by rw[eu b8.box];rfl);(have b2:wr.cell? ⟨w2.heap.size,2,η⟩=θ (.slice (θ ⟨b,oU,η⟩) (ws.length-j) eG):=by rw[eu b8.box];rfl);(have b3:wr.cell? ⟨w2.heap.size,3,η⟩=θ (.slice η 0 0):=by rw[eu b8.box];rfl);(have adJ:w.heap.size<w2.heap.size+1:=by omega);have E1:w.heap.size<wr.heap.size:=Nat.lt_trans (by omega) b8.lt;have cA:=aa hl;by_cases hk:k=kP
       ·((have atH:(k==[103,111])=true:=by simpa[kP]using hk);have hH:=atC (θ ⟨b,oU,η⟩) eG (ws.drop j) wr (aJ.out wr bw.out) (by simp;omega) (λx hx=>kV.out x (List.mem_of_mem_drop hx)) ((fG.out.below bw.out).mono bw.out.size);rw[List.length_drop]at hH;have cy:=aa hk;clear hl hk b8;go_wp2_with fail;refine hH.mono ?_;rintro e aO ⟨hv,rfl,iE,bT⟩;(have iB:Hid (∀h,fY (ws.drop j)=θ h->(fY (ws.drop j)).getD []=h):=λh e=>by rw[e];rfl);generalize (fY (ws.drop j)).getD []=H at*;obtain⟨ha,hc,rfl,_,_⟩:=mD iE;have vp:=ck.out.lt;(have E2:aO.heap[w2.heap.size]?=θ (.cells #[.string ⟨k.toArray⟩,.slice va l.length vc,.slice (θ ⟨b,oU,η⟩) (ws.length-j) eG,.slice η 0 0] 53 (0,0)):=by rw[bT.block _ vp];exact ck.out.box);(have c0:aO.cell? ⟨w2.heap.size,0,η⟩=θ (.string ⟨k.toArray⟩):=by rw[eu E2];rfl);(have c1:aO.cell? ⟨w2.heap.size,1,η⟩=θ (.slice va l.length vc):=by rw[eu E2];rfl);(have c2:aO.cell? ⟨w2.heap.size,2,η⟩=θ (.slice (θ ⟨b,oU,η⟩) (ws.length-j) eG):=by rw[eu E2];rfl);(have c3:aO.cell? ⟨w2.heap.size,3,η⟩=θ (.slice η 0 0):=by rw[eu E2];rfl);have cf:∀j,aO.frozen? ⟨w2.heap.size,j,η⟩=false:=λj=>vH E2 j;(have hne:w.heap.size≠w2.heap.size:=by omega);have q0:=(bT.cell (p:=⟨w.heap.size,0,η⟩) E1).trans q0;have q1:=(bT.cell (p:=⟨w.heap.size,1,η⟩) E1).trans q1;have q2:=(bT.cell (p:=⟨w.heap.size,2,η⟩) E1).trans q2;have dR:=(bT.cell (p:=⟨w.heap.size,3,η⟩) E1).trans dR;have g0:∀j,aO.frozen? ⟨w.heap.size,j,η⟩=false:=λj=>(bT.frozen (p:=⟨w.heap.size,j,η⟩) E1).trans (g0 j);have E0:=aa iE;have IG:=aa (cE ck.out.own bT);have gb:=aa (bK bw.out bT);(have bx:Hid (nc (k::ws)=(fY (ws.drop j)).map λhs=>⟨k,l,ws.drop j,hs⟩):=by show _=_;rw[bI.out];unfold BK;rw[cA.out];simp only[cy.out,dF];cases fY (ws.drop j)<;>rfl);clear iE bT hH E2;have MW:Hid (∀o,nc (k::ws)=θ o->o=⟨k,l,ws.drop j,H⟩):=λo h=>by rw[bx.out]at h;obtain⟨h1,h2,rfl⟩:=kZ.1 h;rw[iB.out _ h2]);(have aU:Hid ((fY (ws.drop j)).isSome=(nc (k::ws)).isSome):=by show _=_;rw[bx.out,Option.isSome_map]);rw[aU.out];clear iB bx;go_wp2;refine cR (v:=.tuple #[.agg #[.string ⟨k.toArray⟩,.slice va l.length vc,.slice (θ ⟨b,oU,η⟩) (ws.length-j) eG,.slice ha H.length hc],.bool (nc (k::ws)).isSome]) (by simp[results,results26,go_sem,q0,q1,q2,dR,hne]) rfl
         ⟨_,rfl,⟨_,_,_,_,_,_,_,_,_,_,rfl⟩,λo h=>?_,Cz (gb.out.setCell (p:=⟨w2.heap.size,3,η⟩) (show w.heap.size<=w2.heap.size by omega) _) (Nat.le_refl _) _ _ _ _⟩
        rw[MW.out o h];rw[show ws.length-j=(ws.drop j).length by simp];exact adG (j0 IG.out (λe=>by have:=(IG.out.lt _ e).1;omega)) adJ (j0 E0.out (λe=>by have:=(E0.out.lt _ e).1;omega)) E1 (aJ.out _ (Cz (gb.out.setCell (p:=⟨w2.heap.size,3,η⟩) (show w.heap.size<=w2.heap.size by omega) _) (Nat.le_refl _) _ _ _ _)) (by simp;omega)
       ·(have atH:(k==[103,111])=false:=by simpa[kP]using hk);(have bx:Hid (nc (k::ws)=θ ⟨k,l,ws.drop j,[]⟩):=by show _=_;rw[bI.out];unfold BK;rw[hl];simp[hk]);clear hl hk b8;go_wp2;refine cR (v:=.tuple #[.agg #[.string ⟨k.toArray⟩,.slice va l.length vc,.slice (θ ⟨b,oU,η⟩) (ws.length-j) eG,.slice η 0 0],.bool ν]) (by simp[results,results26,go_sem,q0,q1,q2,dR]) rfl
         ⟨_,by rw[bx.out];rfl,⟨_,_,_,_,_,_,_,_,_,_,rfl⟩,λo h=>?_,Cz bw.out (Nat.le_refl _) _ _ _ _⟩
        rw[bx.out]at h;(cases h);rw[show ws.length-j=(ws.drop j).length by simp];exact adG ck.out.own adJ (dJ _ (w.heap.size+1) _ _) (by omega) (aJ.out _ (Cz bw.out (Nat.le_refl _) _ _ _ _)) (by simp;omega)
   .have w5:(decide ((ws.length:Int)=m)||(f&&decide ((m:Int)<ws.length)))=false:=(adH f m ws.length).trans (AG hfit);rw[ς hfit]at bI;rw[w5]at hF;clear w5 hfit;go_wp2_with fail;refine(hF _).mono ?_;rintro e w2 ⟨rfl,aq⟩;have gj:=bK (ax w1 _) aq;have q0:=(gj.cell (p:=⟨w.heap.size,0,η⟩) hz1).trans r0;have q1:=(gj.cell (p:=⟨w.heap.size,1,η⟩) hz1).trans r1;have q2:=(gj.cell (p:=⟨w.heap.size,2,η⟩) hz1).trans r2;have dR:=(gj.cell (p:=⟨w.heap.size,3,η⟩) hz1).trans r3;have g0:∀j,w2.frozen? ⟨w.heap.size,j,η⟩=false:=λj=>(gj.frozen (p:=⟨w.heap.size,j,η⟩) hz1).trans (f0 j);have aN:=aa (bK aS.out gj);clear aq gj hF r0 r1 r2 r3 f0;go_wp2;exact cR (v:=.tuple #[.agg #[.string ⟨#[]⟩,.slice η 0 0,.slice η 0 0,.slice η 0 0],.bool ο]) (by simp[results,results26,go_sem,q0,q1,q2,dR]) rfl
     ⟨_,by rw[bI.out];rfl,⟨_,_,_,_,_,_,_,_,_,_,rfl⟩,(λo h=>by rw[bI.out]at h;cases h),Cz aN.out (Nat.le_refl _) _ _ _ _⟩
theorem adK L y:kA (L++[y])=kA L++[.string ⟨y.toArray⟩]:=by simp[kA]
theorem adL{rest}{a}{Q}(hgd:o.guard=η)s x(ho:o.op=.call {callee:=.builtin .append,args:=#[s,x],argTypes:=#[23,23] })B L v(hs:a.eval s=v)w0 y(hown:w0.ownsRow B 9 1 v L.length (kA L))(hw:w0.alloc (.cells #[.string ⟨y.toArray⟩] 9)=w)(hx:a.eval x=.slice (θ ⟨w0.heap.size,0,η⟩) 1 1)(hB:B<=w0.heap.size)(hl:L.length<=100000)(h:∀g cap w',w'.ownsRow B 9 1 (.slice (θ ⟨g,0,η⟩) (L.length+1) cap) (L.length+1) (kA (L++[y]))->Below B w0 w'->wpList ah ops Q rest (a.put o.dst (.slice (θ ⟨g,0,η⟩) (L.length+1) cap)) w'):wpList ah ops Q (o::rest) a w:=by
 subst hw;obtain⟨i0,hi,cg,hz1,bX⟩:=er Tryz.IB;refine zX _ hgd s x _ ho B 9 i0 (.string ⟨#[]⟩) 1 16 ((cD 23).trans underlying23) hi cg hz1 bX rfl (by decide) v L.length (kA L) hs (fW hown _) ⟨w0.heap.size,0,η⟩ 1 1 [.string ⟨y.toArray⟩] hx rfl ?c1 ?c2 (by decide) ?c3 ?c4 ?c5 (w0.heap.size+1) (by simp) ?_
 case c1=>exact nR (cs:=#[.string ⟨y.toArray⟩]) (t:=9) (fr:=(0,0)) (heap_alloc_new w0 _)
 case c2=>intro u hu;simp at hu;subst hu;rfl
 case c3=>unfold maxLen;omega
 case c4=>omega
 case c5=>simp;omega
 intro g cap w' h1 h2 _ _;exact h g cap w' (by rw[adK];exact h1) (((Below.refl B w0).alloc hB _).grown h2 (by simp;omega) (λj hj=>(hown.lt j hj).1))
theorem MX ao cap l n w(hZ:jC w ao l)(hS:rW l)(hT:gv w):Ξ ah 49 #[.slice ao l.length cap,.int .i64 n] w λe w'=>e=.returned (.tuple #[.string ⟨(pI l).toArray⟩,.int .i64 n])/\Below w.heap.size w w':=by
 have mE:=aa hZ;have aX:=aa hT.low;have aU:=aa hS;have uo:=hS.1;clear hZ hT hS;go_enter akN,ntmps49;go_wp2;go_loopw [6,11] (λv i wr=>∃(k:Nat),k<=l.length/\i=.int .i64 k/\wr.ownsRow w.heap.size 9 1 v ((l.take k).map nV).length (kA ((l.take k).map nV))/\Below w.heap.size w wr) (λ_ i _=>l.length-(intOf i).toNat)
 case atStart=>exact⟨0,Nat.zero_le _,rfl,dJ _ _ _ _,Below.refl _ _⟩
 case round=>
  obtain⟨k,hk,rfl,hown,hb⟩:=hrel;have hB:=hb.size;have aD:=aa hb;by_cases hlt:k<l.length
  ·(have i1:(k:Int)<(l.length:Int):=by omega);rcases mE.out with h|⟨b,off,rfl,hlb,hc⟩
   .subst h;simp at hlt
   (have oh:wr.cell? ⟨b,off+k,η⟩=θ (.int .i64 (l.getD k 0)):=by rw[hb.cell (p:=⟨b,off+k,η⟩) hlb];exact hc k hlt);(have hg:l.getD k 0=l[k]:=by rw[List.getD_eq_getElem?_getD,List.getElem?_eq_getElem hlt];rfl);rw[hg]at oh;have hN:=atu l[k] (aU.out.2 _ (List.getElem_mem hlt)) wr (aX.out.below hb).tab;(have bx:Hid ((l.take (k+1)).map nV=(l.take k).map nV++[nV l[k]]):=by show _=_;rw[jZ l k hlt,List.map_append];rfl);(have hle:((l.take k).map nV).length<=12:=by simp;omega);generalize (l.take k).map nV=L at*;clear hg hc hb;go_wp2_with fail;refine hN.mono ?_;rintro e w2 ⟨rfl,aq⟩;have gj:=aq.size;go_wp2_with(at_builtin;refine adL rfl _ _ rfl w.heap.size L _ rfl w2 (nV l[k]) (cE hown aq) rfl rfl (by omega) (by omega) ?_);intro gg dm w3 qJ aB;have atI:=aa qJ;have bw:=aa ((aD.out.trans (aq.mono hB)).trans aB);clear hown qJ aB aq hN;go_wp2;go_roundw
   case rel=>exact⟨k+1,by omega,by go_num,by rw[bx.out,List.length_append];exact atI.out,bw.out⟩
   case measure=>simp[intOf];omega
  ·(have c6:k=l.length:=by omega);rw[c6,List.take_length]at hown;obtain⟨E3,c',e,hcl,lq⟩:=IA hown;subst e;have hs:=adC E3 c' (l.map nV) wr lq hcl (by simp;omega) (by
    have:=Iz 32 21 (l.map nV) (λx hx=>by obtain⟨y,hy,rfl⟩:=List.mem_map.1 hx;exact ads (aU.out.2 y hy));rw[List.length_map]at this;omega)
   rw[List.length_map]at hs;clear hown lq hcl hb;go_wp2_with fail;refine hs.mono ?_;rintro e w2 ⟨rfl,aq⟩;have aN:=aa (bK aD.out aq);clear hs aq;go_wp2;go_ret2;exact⟨rfl,aN.out⟩
theorem cZ.base{W}{base base' go n}{val}{jr}(A:cZ W base go n val jr)(h:base'<=base):cZ W base' go n val jr:=⟨gJ A.own h,λv hv=>gJ (A.lV v hv) h,A.ap⟩
theorem atJ{base size}{v}(h:W.ownsRow base e size v n xs)(hn:0<n):∃b c,v=.slice (θ ⟨b,0,η⟩) n c:=by
 rcases h.2 with⟨_,h0⟩|⟨b,c,cur,e,_⟩
 .omega
 .exact⟨b,c,e⟩
theorem Tryz.II:(ah.info? 127).map (λi=>(i.zero,i.size,i.bytes))=θ (θ (.slice η 0 0),1,24):=by kernel_rfl
theorem MY{base go}(h:w0.ownsRow base 127 1 (.slice (θ ⟨go,0,η⟩) n n) n (fo (j4 η 0 0).cells (n*1)).toList):cZ w0 base go n (λ_=>.slice η 0 0) (λ_=>[]):=by
 have e1:(fo (j4 η 0 0).cells (n*1)).toList=(List.range n).map (λ_=>j4 η 0 0):=by rw[Nat.mul_one];show (fo #[j4 η 0 0] n).toList=_;rw[toList_madeCells_one];simp[List.map_const']
 rw[e1]at h;exact⟨h,λ_ _=>dJ _ _ _ _,λ_ _ _ _ _=>.inl rfl⟩
def qO(w:υ)(ao:Option bP)(n:Nat)(m:Nat->List gP):Prop:=
 n=0\/∃b off,ao=θ ⟨b,off,η⟩/\b<w.heap.size/\∀v,v<n->∃a c,w.cell? ⟨b,off+v,η⟩=θ (.slice a (m v).length c)/\cm w a (m v)
theorem qO.below{m}(h:qO w ao n m)(hb:Below w.heap.size w w'):qO w' ao n m:=by
 rcases h with h|⟨b,off,rfl,hlt,hc⟩
 .exact .inl h
 .refine .inr ⟨b,off,rfl,Nat.lt_of_lt_of_le hlt hb.size,λv hv=>?_⟩;obtain⟨a,c,h1,h2⟩:=hc v hv;exact⟨a,c,by rw[hb.cell (p:=⟨b,off+v,η⟩) hlt];exact h1,h2.below hb⟩
theorem qO.s4{m}(h:qO w ao n m){v}(hv:v<n):∃b off a c,ao=θ ⟨b,off,η⟩/\b<w.heap.size/\w.cell? ⟨b,off+v,η⟩=θ (.slice a (m v).length c)/\cm w a (m v):=by
 rcases h with h|⟨b,off,rfl,hlt,hc⟩
 .omega
 .obtain⟨a,c,h1,h2⟩:=hc v hv;exact⟨b,off,a,c,rfl,hlt,h1,h2⟩
theorem cZ.read{base go}{jr}(A:cZ W base go n val jr):qO W (θ ⟨go,0,η⟩) n jr:=by refine .inr ⟨go,0,rfl,(kL A.own go rfl).2,λv hv=>?_⟩;obtain⟨a,c,h1,h2⟩:=j6 (A.lV v hv);exact⟨a,c,by rw[Nat.zero_add,A.out hv,h1],h2⟩
theorem cZ.set{ef}{base go}{jr}(A:cZ W base go n val jr){v}(hv:v<n)(hb:Below W.heap.size W ef){v'}{r}(hbase:base<=W.heap.size)(h5:ef.ownsRow W.heap.size 176 3 v' r.length (bV r)):cZ (ef.setCell ⟨go,v,η⟩ v') base go n (nx val v v') (nx jr v r):=by
 have A1:=A.below hb;have h6:=gJ h5 hbase;have o2:=(xE A1.own v v').1;rw[arC]at o2;have hgo:v'.ownBlock≠θ go:=by
  rcases acp h6 A1.own (by decide)with e|e
  .rw[e];intro h;cases h
  .exact e
 refine⟨o2,λi hi=>?_,λi i' hi hi' hne=>?_⟩
 .by_cases e:i=v
  .subst e;rw[yh,yh];exact pZ h6 hgo
  .rw[wq _ _ e,wq _ _ e];exact pZ (A1.lV i hi) (A1.far hi)
 .by_cases e:i=v
  .subst e;rw[yh,wq _ _ (λh=>hne h.symm)];cases hq:v'.ownBlock with
   |none=>exact .inl rfl
   |some q=>
    right;intro h;have h2:=((A.lV i' hi').lt q h.symm).2;have h3:=(h5.lt q hq).1;omega
  .rw[wq _ _ e];by_cases e':i'=v
   .subst e';rw[yh];cases hq:(val i).ownBlock with
    |none=>exact .inl rfl
    |some q=>
     right;intro h;have h2:=((A.lV i hi).lt q hq).2;have h3:=(h5.lt q h.symm).1;omega
   .rw[wq _ _ e'];exact A.ap i i' hi hi' hne
theorem atK{p}(h:c9 p 1 3=ο):(p !=1)=ν/\(p !=2)=ν/\(p !=3)=true:=by
 have:¬(1<=p/\p<=3):=λh2=>by rw[(oI p 1 3).2 h2]at h;cases h
 simp;omega
theorem adM g la ea lc ec p v w(hG:cL w la ea g):Ξ ah 127 #[.agg #[.int .i64 g.hor,.slice la g.lives.length lc,.slice ea g.af.length ec],.int .i64 p,.int .i64 v] w λr w'=>r=.returned (.int .i64 (gh g p v))/\Below w.heap.size w w':=by
 have aA:=xW w g la ea lc ec 59;have h1:=Eb g la ea lc ec _ (hG.below aA.aQ);by_cases e1:aK g=0
 .have bU:Hid (gh g p v=if c9 p 1 3=ν then if p=3 then 0 else if c9 v 0 ((g.lives.length:Int)- 1)=ν then 0 else 4 else 1):=by show _=_;unfold gh;rw[χ e1]
  have Ue:=λW=>G4 g.hor la ea g.lives.length lc g.af.length ec v W (ei e1).tF;rw[e1]at h1;clear hG e1;cases q1:c9 p 1 3 with
  |false=>
   rw[q1]at bU;obtain⟨d1,d2,d3⟩:=atK q1;clear q1;go_enter K1,ntmps127;go_wp2_with fail;refine h1.mono ?_;rintro e w1 ⟨rfl,aj⟩;have cz:=(aA.below aj).aQ;clear h1 aj aA;go_wp2;go_ret;exact⟨dS bU.out.symm,by assumption⟩
  |true=>
   rw[q1]at bU;have E4:=(oI p 1 3).1 q1;clear q1;by_cases h3:p=3
   ·(have MZ:Hid (gh g p v=0):=by show _=_;rw[bU.out,χ rfl,χ h3]);subst h3;clear bU E4;go_enter K1,ntmps127;go_wp2_with fail;refine h1.mono ?_;rintro e w1 ⟨rfl,aj⟩;have cz:=(aA.below aj).aQ;clear h1 aj aA;go_wp2;go_ret;exact⟨dS MZ.out.symm,by assumption⟩
   ·(have MZ:Hid (gh g p v=if c9 v 0 ((g.lives.length:Int)- 1)=ν then 0 else 4):=by show _=_;rw[bU.out,χ rfl,ς h3]);clear bU;(have hp2:p=1\/p=2:=by omega);clear h3 E4;(cases hV:c9 v 0 ((g.lives.length:Int)- 1)<;>rw[hV]at MZ Ue);all_goals
     clear hV;rcases hp2 with rfl|rfl;all_goals
      go_enter K1,ntmps127;go_wp2_with fail;refine h1.mono ?_;rintro e w1 ⟨rfl,aj⟩;have bD:=aA.below aj;have LI:=bD.c0;have ir:=bD.c1;have lM:=bD.c2;clear h1 aj aA;go_wp2_with fail;refine(Ue _).mono ?_;rintro e w2 ⟨rfl,aq⟩;have cz:=(bD.below aq).aQ;clear Ue aq bD LI ir lM;go_wp2;go_ret;exact⟨dS MZ.out.symm,by assumption⟩
 .have bU:Hid (gh g p v=aK g):=by show _=_;unfold gh;rw[ς e1]
  have d1:(aK g !=0)=true:=by simpa using e1
  clear hG e1;generalize aK g=z at*;go_enter K1,ntmps127;go_wp2_with fail;refine h1.mono ?_;rintro e w1 ⟨rfl,aj⟩;have cz:=(aA.below aj).aQ;clear h1 aj aA;go_wp2;go_ret;exact⟨dS bU.out.symm,by assumption⟩
def yp(n:Nat)(m:Nat->List gP):Bool:=decide (∀v,v<n->m v=[])
theorem atL ao n cap m w(hM:qO w ao n m)(hn:n<=12):Ξ ah 134 #[.slice ao n cap] w λr w'=>r=.returned (.bool (yp n m))/\Below w.heap.size w w':=by
 go_enter alk,ntmps134;go_wp2;go_loopw [7] (λi wr=>∃k:Nat,k<=n/\i=.int .i64 k/\(∀v,v<k->m v=[])/\Below w.heap.size w wr) (λi _=>n-(intOf i).toNat)
 case atStart=>exact⟨0,Nat.zero_le _,rfl,λv hv=>by omega,Below.refl _ _⟩
 case round=>
  obtain⟨k,hk,rfl,hI,hb⟩:=hrel;have bu:=aa hI;have aD:=aa hb;clear hI;by_cases hlt:k<n
  .obtain⟨b,off,a,c,rfl,fM,c0,hp⟩:=(hM.below hb).s4 hlt;(have hk2:(k:Int)<(n:Int):=by omega);clear hb hp;by_cases e:(m k).length=0
   .have aU:Hid (∀v,v<k+1->m v=[]):=by
     intro v hv;by_cases ev:v=k
     .subst ev;exact List.eq_nil_of_length_eq_zero e
     .exact bu.out v (by omega)
    rw[e]at c0;clear e;go_wp2;go_roundw
    case rel=>exact⟨k+1,by omega,by go_num,aU.out,aD.out⟩
    case measure=>simp[intOf];omega
   ·(have ak:Hid (yp n m=ο):=by show _=_;unfold yp;rw[CP];intro h;rw[h k hlt]at e;exact e rfl);(have hpos:(0:Int)<((m k).length:Int):=by omega);clear e;generalize (m k).length=L at*;go_wp2;go_ret;exact⟨gK ak.out.symm,aD.out⟩
  ·((have hkn:k=n:=by omega);subst hkn;have ak:Hid (yp k m=ν):=by show _=_;unfold yp;rw[kC];exact bu.out);clear hb;go_wp2;go_ret;exact⟨gK ak.out.symm,aD.out⟩
def Ap(how:Int)(o:Option Int)(v:Int):Option Int:=
 match o with
 |none=>θ v
 |some x=>θ (both how x v)
def mix(how:Int)(l:List (Int×Int×Int))(t:Int):Option Int:=l.foldl (λo p=>if dh p t then Ap how o p.2.2 else o) η
theorem atM how l p t:mix how (l++[p]) t=if dh p t then Ap how (mix how l t) p.2.2 else mix how l t:=by unfold mix;rw[List.foldl_append];rfl
theorem Uf{l:List (Int×Int×Int)}(hk:k<l.length):mix how (l.take (k+1)) t=if dh l[k] t then Ap how (mix how (l.take k) t) l[k].2.2 else mix how (l.take k) t:=by rw[jZ l k hk,atM]
theorem amw{l}{x}(h:∀p∈l,cT p.2.2)(hk:l.length<=200)(hx:mix how l t=θ x): -200000000000<=x/\x<=200000000000:=by
 have key:∀k,k<=l.length->∀x,mix how (l.take k) t=θ x-> -(1000000000*(k:Int))<=x/\x<=1000000000*(k:Int):=by
  intro k;induction k with
  |zero=>intro _ x hx;simp[mix]at hx
  |succ k ih=>
   intro hk x hx;have hv:=h l[k] (List.getElem_mem (by omega));unfold cT at hv;rw[Uf (by omega)]at hx;split at hx
   .cases hm:mix how (l.take k) t with
    |none=>
     rw[hm]at hx;simp only[Ap,Γ]at hx;subst hx;omega
    |some y=>
     have:=ih (by omega) y hm;rw[hm]at hx;simp only[Ap,Γ]at hx;subst hx;unfold both;split
     .omega
     .split<;>omega
   .have:=ih (by omega) x hx;omega
 have:=key l.length (Nat.le_refl _) x (by rw[List.take_length];exact hx);omega
theorem atN{l:List (Int×Int×Int)}{x}(h:∀p∈l,cT p.2.2)(hk:l.length<=200)(hx:mix how (l.take k) t=θ x): -200000000000<=x/\x<=200000000000:=
 amw (l:=l.take k) (λp hp=>h p (List.mem_of_mem_take hp)) (by rw[List.length_take];omega) hx
theorem atO how o v:(Ap how o v).isSome=true:=by cases o<;>rfl
theorem adN{l:List (Int×Int×Int)}:mix how l t=η↔∀p∈l,dh p t=false:=by
 have key:∀k,k<=l.length->(mix how (l.take k) t=η↔∀p∈l.take k,dh p t=ο):=by
  intro k;induction k with
  |zero=>simp[mix]
  |succ k ih=>
   intro hk;rw[Uf (by omega),jZ l k (by omega)];have ih:=ih (by omega);cases hp:dh l[k] t with
   |true=>
    simp only[χ];constructor
    .intro h;have:=atO how (mix how (l.take k) t) l[k].2.2;rw[h]at this;cases this
    .intro h;have:=h l[k] (List.mem_append.2 (.inr (List.mem_singleton.2 rfl)));rw[hp]at this;cases this
   |false=>
    simp only[Bool.false_eq_true,fh];rw[ih];constructor
    .intro h p hm;rw[List.mem_append]at hm;rcases hm with hm|hm
     .exact h p hm
     .simp only[List.mem_singleton]at hm;subst hm;exact hp
    .intro h p hm;exact h p (by rw[List.mem_append];exact .inl hm)
 have:=key l.length (Nat.le_refl _);rwa[List.take_length]at this
theorem atP{α β:Type}{f g:α->β->α}{l:List β}{a:α}(h:∀x∈l,∀a,f a x=g a x):l.foldl f a=l.foldl g a:=by
 induction l generalizing a with
 |nil=>rfl
 |cons x l ih=>rw[List.foldl_cons,List.foldl_cons,h x (by simp),ih λy hy=>h y (by simp[hy])]
theorem atQ{l}{s}(h:∀p∈l,dh p s=dh p t):mix how l s=mix how l t:=by unfold mix;exact atP λp hp a=>by rw[h p hp]
theorem atS{l}(h1:∀x∈bO l,x∈S):wB S (mix how l):=by
 refine⟨λs t hst h=>atQ λp hp=>Ts hst (h _ (h1 _ (BN hp).1)) (h _ (h1 _ (BN hp).2)),λt h=>?_,λt h=>?_⟩
 .exact adN.2 λp hp=>Tt (h _ (h1 _ (BN hp).1))
 .exact adN.2 λp hp=>Tu (h _ (h1 _ (BN hp).2))
def p9(p:Int×Int×Int):Prop:=dW p/\p.1<p.2.1
def atT(l:List (Int×Int×Int)):Decidable (∀p∈l,p9 p):=by unfold p9 dW cT;infer_instance
def nC(l:List (Int×Int×Int)):Int:=if 200<l.length then 2 else@ite Int (∀p∈l,p9 p) (atT l) 0 5
theorem atU{l}(h:200<l.length):nC l=2:=by simp[nC,h]
theorem adO{l}(h:l.length<=200)(hn:∀p∈l,p9 p):nC l=0:=by unfold nC;rw[ς (by omega),χ hn]
theorem adP{l}{p}(h:l.length<=200)(hp:p∈l)(hn:¬p9 p):nC l=5:=by unfold nC;rw[ς (by omega),ς (λhh=>hn (hh p hp))]
theorem Ug l:(nC l=2\/nC l=5)\/(nC l=0/\l.length<=200/\∀p∈l,p9 p):=by
 unfold nC;by_cases h:200<l.length
 .exact .inl (.inl (by rw[χ h]))
 .rw[ς h];by_cases hn:∀p∈l,p9 p
  .exact .inr ⟨by rw[χ hn],by omega,hn⟩
  .exact .inl (.inr (by rw[ς hn]))
abbrev oV:=Int×Int×Int×Bool×Int
def cellAt(m l:List (Int×Int×Int))(how:Int)(s t:Int):List oV:=
 match mix how l s with
 |none=>[]
 |some v=>[(s,t,(aC m s).getD 0,(aC m s).isSome,v)]
def fU(m l:List (Int×Int×Int))(how:Int)(S:List Int):Nat->List oV
 |0=>[]
 |i+1=>fU m l how S i++cellAt m l how (S.getD i 0) (S.getD (i+1) 0)
theorem atV m l how s t:(cellAt m l how s t).length<=1:=by unfold cellAt;split<;>simp
theorem Uh m l how S i:(fU m l how S i).length<=i:=by
 induction i with
 |zero=>simp[fU]
 |succ i ih=>have:=atV m l how (S.getD i 0) (S.getD (i+1) 0);rw[fU,List.length_append];omega
theorem Ui{l}(hi:i<S.length)(h:mix how l S[i]=η):fU m l how S (i+1)=fU m l how S i:=by rw[fU,cellAt,qw hi,h,List.append_nil]
theorem Uj{l}(hi:i+1<S.length)(h:mix how l S[i]=θ v):fU m l how S (i+1)=fU m l how S i++[(S[i],S[i+1],(aC m S[i]).getD 0,(aC m S[i]).isSome,v)]:=by rw[fU,cellAt,qw (by omega:i<S.length),qw hi,h]
theorem atW{l}{c}(hi:i+1<=S.length\/i=0)(h:c∈fU m l how S i):∃j,∃hj:j+1<S.length,j<i/\∃v,mix how l S[j]=θ v/\c=(S[j],S[j+1],(aC m S[j]).getD 0,(aC m S[j]).isSome,v):=by
 induction i with
 |zero=>simp[fU]at h
 |succ i ih=>
  have hi':i+1<S.length:=by omega
  cases hm:mix how l S[i]with
  |none=>
   rw[Ui (by omega) hm]at h;obtain⟨j,hj,h1,h2⟩:=ih (by omega) h;exact⟨j,hj,by omega,h2⟩
  |some v=>
   rw[Uj hi' hm,List.mem_append]at h;rcases h with h|h
   .obtain⟨j,hj,h1,h2⟩:=ih (by omega) h;exact⟨j,hj,by omega,h2⟩
   .simp only[List.mem_singleton]at h;exact⟨i,hi',by omega,v,hm,h⟩
def atX(m l:List (Int×Int×Int))(how:Int)(n:Int)(r:List oV):Prop:=
 ∃S,Ordered (bO m++bO l) S/\((¬(∀c∈fU m l how S (S.length- 1),cT c.2.2.2.2)/\n=5/\r=[])\/((∀c∈fU m l how S (S.length- 1),cT c.2.2.2.2)/\200<(fU m l how S (S.length- 1)).length/\n=2/\r=[])\/((∀c∈fU m l how S (S.length- 1),cT c.2.2.2.2)/\(fU m l how S (S.length- 1)).length<=200/\n=0/\r=fU m l how S (S.length- 1)))
def who(l:List (Int×Int×Int))(t:Int)(k:Nat):List Nat:=(List.range k).filter λi=>dh (l.getD i (0,0,0)) t
theorem gi{p:Prop}(h:p):Hid p:=h
theorem atY(hk:k<m.length)(h:∀q∈m.take k,p9 q)(h1:p9 m[k]):∀q∈m.take (k+1),p9 q:=by
 intro q hq;rw[jZ m k hk,List.mem_append,List.mem_singleton]at hq;rcases hq with hq|rfl
 .exact h q hq
 .exact h1
theorem atZ ao cap l w(hl:cm w ao l):Ξ ah 190 #[.slice ao l.length cap] w λe w'=>e=.returned (.int .i64 (nC l))/\Below w.heap.size w w':=by
 by_cases h2:200<l.length
 .have ak:Hid (nC l=2):=atU h2;go_enter YF,ntmps190;go_wp2;go_ret;exact⟨dS ak.out.symm,Below.refl _ _⟩
 .have h3:l.length<=200:=by omega
  go_enter YF,ntmps190;go_wp2;go_loopw [10] (λi wr=>∃k:Nat,k<=l.length/\i=.int .i64 k/\(∀q∈l.take k,p9 q)/\Below w.heap.size w wr) (λi _=>l.length-(intOf i).toNat)
  case atStart=>exact⟨0,Nat.zero_le _,rfl,λq hq=>by simp at hq,Below.refl _ _⟩
  case round=>
   obtain⟨k,hk,rfl,hn,hb⟩:=hrel;have aR:=gi hn;clear hn;by_cases hlt:k<l.length
   .rcases hl.below hb with h0|⟨b,off,rfl,bQ,hc⟩
    .subst h0;simp at hlt
    obtain⟨c0,c1,c2⟩:=cm.get hlt hc;have aD:=gi (λo o'=>bJ (bJ hb (cw wr o)) (cw (wr.alloc o) o'));clear hc hl hb;by_cases n1:dW l[k]
    .have e1:(gq l[k].1&&(gq l[k].2.1&&gq l[k].2.2))=true:=(Ad l[k]).2 n1;by_cases g1:l[k].2.1<=l[k].1
     .have ak:Hid (nC l=5):=adP h3 (List.getElem_mem hlt) (λh=>by have:=h.2;omega);(have d1:decide (l[k].2.1<=l[k].1)=true:=by simpa using g1);clear n1 g1;go_wp2_with fail;refine(MF (wr.heap.size+1) l[k].1 l[k].2.1 l[k].2.2 _ (by simp) (by simp) (by simp) (by simp)).mono ?_;rintro e w1 ⟨rfl,rfl⟩;rw[e1];go_wp2;go_ret;exact⟨dS ak.out.symm,aD.out _ _⟩
     .have aU:=gi (atY hlt aR.out ⟨n1,by omega⟩);(have d1:decide (l[k].2.1<=l[k].1)=false:=by simpa using g1);clear n1 g1;go_wp2_with fail;refine(MF (wr.heap.size+1) l[k].1 l[k].2.1 l[k].2.2 _ (by simp) (by simp) (by simp) (by simp)).mono ?_;rintro e w1 ⟨rfl,rfl⟩;rw[e1];go_wp2;go_roundw
      case rel=>exact⟨k+1,by omega,by go_num,aU.out,aD.out _ _⟩
      case measure=>simp[intOf];omega
    ·(have ak:Hid (nC l=5):=adP h3 (List.getElem_mem hlt) (λh=>n1 h.1);have e1:(gq l[k].1&&(gq l[k].2.1&&gq l[k].2.2))=false:=by have:=Ad l[k];unfold Ac at this;rw[<-Bool.not_eq_true,this];exact n1);clear n1;go_wp2_with fail;refine(MF (wr.heap.size+1) l[k].1 l[k].2.1 l[k].2.2 _ (by simp) (by simp) (by simp) (by simp)).mono ?_;rintro e w1 ⟨rfl,rfl⟩;rw[e1];go_wp2;go_ret;exact⟨dS ak.out.symm,aD.out _ _⟩
   ·(have bp:k=l.length:=by omega);have ak:Hid (nC l=0):=adO h3 (by have:=aR.out;rwa[bp,List.take_length]at this);subst bp;go_wp2;go_ret;exact⟨dS ak.out.symm,hb⟩
def nD(l:List (Int×Int×Int))(how:Int):Int:=if nC l=0 then if p6 how=ν then 0 else 1 else nC l
theorem at1{l}(h:¬nD l how=0):∃n,nD l how=n/\(n=1\/n=2\/n=5):=by
 unfold nD at h ⊢;rcases Ug l with(e|e)|⟨e,_⟩
 .rw[e];exact⟨2,rfl,.inr (.inl rfl)⟩
 .rw[e];exact⟨5,rfl,.inr (.inr rfl)⟩
 .rw[e]at h ⊢;by_cases hh:p6 how=ν
  .simp[hh]at h
  .exact⟨1,by simp[hh],.inl rfl⟩
theorem at2{l}(h:nD l how=0):l.length<=200/\(∀p∈l,p9 p)/\(how=1\/how=2\/how=3)/\nC l=0:=by
 unfold nD at h;rcases Ug l with(e|e)|⟨e,h1,h2⟩
 .rw[e]at h;simp at h
 .rw[e]at h;simp at h
 .rw[e]at h;by_cases hh:p6 how=ν
  .unfold p6 at hh;rw[kC]at hh;exact⟨h1,h2,hh,e⟩
  .simp[hh]at h
theorem at3 ao cap l how w(hl:cm w ao l):Ξ ah 171 #[.slice ao l.length cap,.int .i64 how] w λe w'=>e=.returned (.int .i64 (nD l how))/\Below w.heap.size w w':=by
 have yq:=atZ ao cap l w hl;have hJ:=λW=>TM how W;clear hl;rcases Ug l with(e|e)|⟨e,_⟩
 .have ak:Hid (nD l how=2):=by show _=_;unfold nD;rw[e];rfl
  rw[e]at yq;clear e hJ;go_enter K3,ntmps171;go_wp2_with fail;refine yq.mono ?_;rintro e w1 ⟨rfl,aj⟩;go_wp2;go_ret;exact⟨dS ak.out.symm,aj⟩
 .have ak:Hid (nD l how=5):=by show _=_;unfold nD;rw[e];rfl
  rw[e]at yq;clear e hJ;go_enter K3,ntmps171;go_wp2_with fail;refine yq.mono ?_;rintro e w1 ⟨rfl,aj⟩;go_wp2;go_ret;exact⟨dS ak.out.symm,aj⟩
 .have ak:Hid (nD l how=if p6 how=ν then 0 else 1):=by show _=_;unfold nD;rw[e];rfl
  rw[e]at yq;clear e;cases hh:p6 how with
  |true=>
   rw[hh]at ak hJ;clear hh;go_enter K3,ntmps171;go_wp2_with fail;refine yq.mono ?_;rintro e w1 ⟨rfl,aj⟩;go_wp2_with(go_at_call 180;refine(hJ _).mono ?_;rintro e w' ⟨rfl,rfl⟩);go_ret;exact⟨dS ak.out.symm,by assumption⟩
  |false=>
   rw[hh]at ak hJ;clear hh;go_enter K3,ntmps171;go_wp2_with fail;refine yq.mono ?_;rintro e w1 ⟨rfl,aj⟩;go_wp2_with(go_at_call 180;refine(hJ _).mono ?_;rintro e w' ⟨rfl,rfl⟩);go_ret;exact⟨dS ak.out.symm,by assumption⟩
theorem at4 ao cap l t how w(hl:cm w ao l)(h3:l.length<=200)(hg:∀p∈l,p9 p)(hh:how=1\/how=2\/how=3):Ξ ah 194 #[.slice ao l.length cap,.int .i64 t,.int .i64 how] w λe w'=>e=.returned (.tuple #[.int .i64 ((mix how l t).getD 0),.bool (mix how l t).isSome])/\Below w.heap.size w w':=by
 have cH:=gi hg;clear hg;go_enter alE,ntmps194;go_wp2;go_loopw [8,9,14] (λv s i wr=>∃k:Nat,k<=l.length/\i=.int .i64 k/\v=.int .i64 ((mix how (l.take k) t).getD 0)/\s=.bool (mix how (l.take k) t).isSome/\Below w.heap.size w wr) (λ_ _ i _=>l.length-(intOf i).toNat)
 case atStart=>exact⟨0,Nat.zero_le _,rfl,rfl,rfl,Below.refl _ _⟩
 case round=>
  obtain⟨k,hk,rfl,rfl,rfl,hb⟩:=hrel;by_cases hlt:k<l.length
  .rcases hl.below hb with h0|⟨b,off,rfl,bQ,hc⟩
   .subst h0;simp at hlt
   obtain⟨c0,c1,c2⟩:=cm.get hlt hc;have aD:=gi (λo=>bJ hb (cw wr o));have fG:=gi (Uf (how:=how) (t:=t) hlt);have IJ:=gi (λx=>atN (how:=how) (t:=t) (x:=x) (k:=k) (λp hp=>(cH.out p hp).1.2.2) h3);have adQ:=cH.out l[k] (List.getElem_mem hlt);have at5:=gi adQ.1.2.2;clear hc hl hb adQ;cases hin:dh l[k] t with
   |false=>
    (have yt:Hid (mix how (l.take (k+1)) t=mix how (l.take k) t):=by show _=_;rw[fG.out,hin];rfl);generalize mix how (l.take k) t=o at*;by_cases g1:t<l[k].1
    ·(have d1:decide (t<l[k].1)=true:=by simpa using g1);clear hin g1;go_wp2;go_roundw
     case rel=>exact⟨k+1,by omega,by go_num,by rw[yt.out],by rw[yt.out],aD.out _⟩
     case measure=>simp[intOf];omega
    ·((have d1:decide (t<l[k].1)=false:=by simpa using g1);have d2:decide (l[k].2.1<=t)=true:=by(have:¬(dh l[k] t=ν):=by rw[hin];decide);rw[nX]at this;simp;omega);clear hin g1;go_wp2;go_roundw
     case rel=>exact⟨k+1,by omega,by go_num,by rw[yt.out],by rw[yt.out],aD.out _⟩
     case measure=>simp[intOf];omega
   |true=>
    (have yt:Hid (mix how (l.take (k+1)) t=Ap how (mix how (l.take k) t) l[k].2.2):=by show _=_;rw[fG.out,hin];rfl);have hi2:=(nX _ _).1 hin;(have d1:decide (t<l[k].1)=false:=by simp;omega);(have d2:decide (l[k].2.1<=t)=false:=by simp;omega);clear hin hi2;cases ho:mix how (l.take k) t with
    |none=>
     rw[ho]at yt;(have e6:Hid ((mix how (l.take (k+1)) t).getD 0=l[k].2.2/\(mix how (l.take (k+1)) t).isSome=ν):=by show _/\_;rw[yt.out];exact⟨rfl,rfl⟩);clear ho;simp only[jG,ic];go_wp2;go_roundw
     case rel=>exact⟨k+1,by omega,by go_num,by rw[e6.out.1],by rw[e6.out.2],aD.out _⟩
     case measure=>simp[intOf];omega
    |some x=>
     rw[ho]at yt;have hT:=λW=>ac6 x l[k].2.2 how W hh (by have:=IJ.out x ho;unfold EM;omega) (Tv at5.out);(have e6:Hid ((mix how (l.take (k+1)) t).getD 0=both how x l[k].2.2/\(mix how (l.take (k+1)) t).isSome=ν):=by show _/\_;rw[yt.out];exact⟨rfl,rfl⟩);clear ho;simp only[Ω,gu];generalize both how x l[k].2.2=q at hT e6;go_wp2_with(go_at_call 182;refine(hT _).mono ?_;rintro e w' ⟨rfl,rfl⟩);go_roundw
     case rel=>exact⟨k+1,by omega,by go_num,by rw[e6.out.1],by rw[e6.out.2],aD.out _⟩
     case measure=>simp[intOf];omega
  ·(have bp:k=l.length:=by omega);subst bp;rw[List.take_length];go_wp2;go_ret2;exact⟨rfl,hb⟩
theorem at6 rZ lo mc lc m l w(hm:cm w rZ m)(hl:cm w lo l)(h3:m.length<=200)(h4:l.length<=200):Ξ ah 193 #[.slice rZ m.length mc,.slice lo l.length lc] w λe w'=>∃v,e=.returned v/\w'.ownsRow w.heap.size 3 1 v (bO m++bO l).length ((bO m++bO l).map (bM .i64))/\Below w.heap.size w w':=by
 obtain⟨i0,hi,cg,hz1,bX⟩:=er Tryz.ua;have hnb:∀(o:Obj) (v:ay) (n:Nat) (xs:List ay) (wr:υ),wr.ownsRow w.heap.size 3 1 v n xs->Below w.heap.size w wr->∀(o':Obj) (w1:υ),((wr.alloc o).alloc o').grownBy w1 v.ownBlock->Below w.heap.size w w1:=λo v n xs wr ho hb o' w1 kH=>((hb.alloc hb.size o).alloc (by have:=hb.size;simp;omega) o').grown kH (by have:=hb.size;simp;omega) (λj hj=>(ho.lt j hj).1);have MM:=gi hnb;clear hnb;go_enter alD,ntmps193;go_wp2;go_loopw [5,12] (λv i wr=>∃k:Nat,k<=m.length/\i=.int .i64 k/\wr.ownsRow w.heap.size 3 1 v (2*k) ((bO (m.take k)).map (bM .i64))/\Below w.heap.size w wr) (λ_ i _=>m.length-(intOf i).toNat)
 case atStart=>exact⟨0,Nat.zero_le _,rfl,dJ _ _ _ _,Below.refl _ _⟩
 case round=>
  obtain⟨k,hk,rfl,hown,hb⟩:=hrel;have hsz:=hb.size;by_cases hlt:k<m.length
  .rcases hm.below hb with h0|⟨b,off,rfl,bQ,hc⟩
   .subst h0;simp at hlt
   (obtain⟨c0,c1,c2⟩:=cm.get hlt hc;have aX:=gi (RO m k hlt);have rI:=gi (λo o' w1=>MM.out o u5 _ _ wr hown hb o' w1);clear hc hm hb;go_wp2_with(at_builtin;refine x7 _ rfl _ _ 50 rfl w.heap.size 3 i0 (.int .i64 0) 1 8 ((cD 50).trans underlying50) hi cg hz1 bX rfl (by decide) _ _ _ rfl (fW (fW (w:=wr) hown _) _) ⟨wr.heap.size+1,0,η⟩ 2 2 [.int .i64 m[k].1,.int .i64 m[k].2.1] rfl rfl (Lc _ _ _ _ _ (by simp)) (by intro u hu;simp at hu;rcases hu with rfl|rfl<;>rfl) (by unfold maxLen;omega) (by omega) (by simp;omega) ?_;intro v' w1 fP hgrow _);have hb':=rI.out _ _ _ hgrow;have R:w1.ownsRow w.heap.size 3 1 v' (2*(k+1)) ((bO (m.take (k+1))).map (bM .i64)):=by rw[aX.out,List.map_append];exact fP);clear hgrow hown fP;go_wp2;go_roundw
   case rel=>exact⟨k+1,by omega,by go_num,R,hb'⟩
   case measure=>simp[intOf];omega
  ·(have bp:k=m.length:=by omega);subst bp;rw[List.take_length]at hown;have hml:(bO m).length=2*m.length:=zB m;have E5:=gi hml;clear hm hml;obtain⟨mG,ux⟩:∃x,x=wr:=⟨_,rfl⟩;rw[<-ux]at hown hb hsz ⊢;have at7:=hown;clear ux;go_wp2;go_loopw [5,26] (λv i wr=>∃k:Nat,k<=l.length/\i=.int .i64 k/\wr.ownsRow w.heap.size 3 1 v (2*m.length+2*k) ((bO m++bO (l.take k)).map (bM .i64))/\Below w.heap.size w wr) (λ_ i _=>l.length-(intOf i).toNat)
   case atStart=>exact⟨0,Nat.zero_le _,rfl,by rw[List.take_zero,show bO ([]:List (Int×Int×Int))=[]from rfl,List.append_nil];exact hown,hb⟩
   case round=>
    clear hown hb hsz at7;obtain⟨k,hk,rfl,hown,hb⟩:=hrel;have hsz:=hb.size;by_cases hlt:k<l.length
    .rcases hl.below hb with h0|⟨b,off,rfl,bQ,hc⟩
     .subst h0;simp at hlt
     (obtain⟨c0,c1,c2⟩:=cm.get hlt hc;have aX:=gi (RO l k hlt);have rI:=gi (λo o' w1=>MM.out o _ _ _ wr hown hb o' w1);clear hc hl hb;go_wp2_with(at_builtin;refine x7 _ rfl _ _ 50 rfl w.heap.size 3 i0 (.int .i64 0) 1 8 ((cD 50).trans underlying50) hi cg hz1 bX rfl (by decide) _ _ _ rfl (fW (fW (w:=wr) hown _) _) ⟨wr.heap.size+1,0,η⟩ 2 2 [.int .i64 l[k].1,.int .i64 l[k].2.1] rfl rfl (Lc _ _ _ _ _ (by simp)) (by intro u hu;simp at hu;rcases hu with rfl|rfl<;>rfl) (by unfold maxLen;omega) (by omega) (by simp;omega) ?_;intro v' w1 fP hgrow _);have hb':=rI.out _ _ _ hgrow;have R:w1.ownsRow w.heap.size 3 1 v' (2*m.length+2*(k+1)) ((bO m++bO (l.take (k+1))).map (bM .i64)):=by rw[aX.out,<- List.append_assoc,List.map_append];exact fP);clear hgrow hown fP;go_wp2;go_roundw
     case rel=>exact⟨k+1,by omega,by go_num,R,hb'⟩
     case measure=>simp[intOf];omega
    ·((have bp:k=l.length:=by omega);subst bp;rw[List.take_length]at hown;have R:Hid (wr.ownsRow w.heap.size 3 1 u5 (bO m++bO l).length ((bO m++bO l).map (bM .i64))):=by show x9 _ _ _ _ _ _ _;rw[List.length_append,E5.out,zB l];exact hown);clear hown;go_wp2;go_ret;exact⟨_,rfl,R.out,hb⟩
theorem Tryz.aua:(ah.info? 225).map (λi=>(i.zero,i.size,i.bytes))=θ (θ (.agg #[.int .i64 0,.int .i64 0,.int .i64 0,.bool ο,.int .i64 0]),5,40):=by kernel_rfl
def Uk(c:oV):List Value:=[.int .i64 c.1,.int .i64 c.2.1,.int .i64 c.2.2.1,.bool c.2.2.2.1,.int .i64 c.2.2.2.2]
def gQ(l:List oV):List Value:=l.flatMap Uk
theorem aub a b:gQ (a++b)=gQ a++gQ b:=by simp[gQ]
theorem adR l:(gQ l).length=l.length*5:=by
 induction l with
 |nil=>rfl
 |cons c l ih=>simp only[gQ,List.flatMap_cons,List.length_append,List.length_cons]at ih ⊢;rw[ih];simp[Uk];omega
def oW:oV:=(0,0,0,ο,0)
theorem auc l j(h:j<l.length):(gQ l)[j*5]?=θ (.int .i64 (l.getD j oW).1)/\(gQ l)[j*5+1]?=θ (.int .i64 (l.getD j oW).2.1)/\(gQ l)[j*5+2]?=θ (.int .i64 (l.getD j oW).2.2.1)/\(gQ l)[j*5+3]?=θ (.bool (l.getD j oW).2.2.2.1)/\(gQ l)[j*5+4]?=θ (.int .i64 (l.getD j oW).2.2.2.2):=by
 induction l generalizing j with
 |nil=>simp at h
 |cons c l ih=>
  have e:gQ (c::l)=.int .i64 c.1::.int .i64 c.2.1::.int .i64 c.2.2.1::.bool c.2.2.2.1::.int .i64 c.2.2.2.2::gQ l:=by simp[gQ,Uk]
  rw[e];cases j with
  |zero=>exact⟨rfl,rfl,rfl,rfl,rfl⟩
  |succ j=>
   have:=ih j (by simpa using h);rw[show (j+1)*5=j*5+1+1+1+1+1 by omega];simpa using this
def CC(w:υ)(ao:Option bP)(l:List oV):Prop:=
 l=[]\/∃b off,ao=θ ⟨b,off,η⟩/\b<w.heap.size/\∀j,j<l.length->w.cell? ⟨b,off+j*5,η⟩=θ (.int .i64 (l.getD j oW).1)/\w.cell? ⟨b,off+j*5+1,η⟩=θ (.int .i64 (l.getD j oW).2.1)/\w.cell? ⟨b,off+j*5+2,η⟩=θ (.int .i64 (l.getD j oW).2.2.1)/\w.cell? ⟨b,off+j*5+3,η⟩=θ (.bool (l.getD j oW).2.2.2.1)/\w.cell? ⟨b,off+j*5+4,η⟩=θ (.int .i64 (l.getD j oW).2.2.2.2)
theorem CC.below{l}(h:CC w ao l)(hb:Below w.heap.size w w'):CC w' ao l:=by
 rcases h with h|⟨b,off,rfl,hlt,hc⟩
 .exact .inl h
 .refine .inr ⟨b,off,rfl,Nat.lt_of_lt_of_le hlt hb.size,λj hj=>?_⟩;rw[hb.cell (p:=⟨b,off+j*5,η⟩) hlt,hb.cell (p:=⟨b,off+j*5+1,η⟩) hlt,hb.cell (p:=⟨b,off+j*5+2,η⟩) hlt,hb.cell (p:=⟨b,off+j*5+3,η⟩) hlt,hb.cell (p:=⟨b,off+j*5+4,η⟩) hlt];exact hc j hj
theorem Ul{base}{v}{l}(h:w.ownsRow base e 5 v n (gQ l)):∃ao cap,v=.slice ao l.length cap/\CC w ao l:=by
 obtain⟨h1,h2⟩:=h;simp only[adR]at h1;have hn:n=l.length:=by omega
 subst hn;rcases h2 with⟨rfl,h0⟩|⟨g,cap,cur,rfl,hb,hh,h3,h4,h5,h6⟩
 .exact⟨η,0,by rw[h0],.inl (List.eq_nil_of_length_eq_zero h0)⟩
 .have hown:w.ownsRow base e 5 (.slice (θ ⟨g,0,η⟩) l.length cap) l.length (gQ l):=⟨by simp[adR],.inr ⟨g,cap,cur,rfl,hb,hh,h3,h4,h5,h6⟩⟩;refine⟨_,cap,rfl,.inr ⟨g,0,rfl,(ξ.1 hh).1,λj hj=>?_⟩⟩;obtain⟨f0,f1,f2,f3,f4⟩:=auc l j hj;rw[Nat.zero_add,hown.cellAt (j*5) (by omega),hown.cellAt (j*5+1) (by omega),hown.cellAt (j*5+2) (by omega),hown.cellAt (j*5+3) (by omega),hown.cellAt (j*5+4) (by omega)];exact⟨f0,f1,f2,f3,f4⟩
theorem CC.get{b off}{l:List oV}(hk:k<l.length)(hc:∀j,j<l.length->w.cell? ⟨b,off+j*5,η⟩=θ (.int .i64 (l.getD j oW).1)/\w.cell? ⟨b,off+j*5+1,η⟩=θ (.int .i64 (l.getD j oW).2.1)/\w.cell? ⟨b,off+j*5+2,η⟩=θ (.int .i64 (l.getD j oW).2.2.1)/\w.cell? ⟨b,off+j*5+3,η⟩=θ (.bool (l.getD j oW).2.2.2.1)/\w.cell? ⟨b,off+j*5+4,η⟩=θ (.int .i64 (l.getD j oW).2.2.2.2)):w.cell? ⟨b,off+k*5,η⟩=θ (.int .i64 l[k].1)/\w.cell? ⟨b,off+k*5+1,η⟩=θ (.int .i64 l[k].2.1)/\w.cell? ⟨b,off+k*5+2,η⟩=θ (.int .i64 l[k].2.2.1)/\w.cell? ⟨b,off+k*5+3,η⟩=θ (.bool l[k].2.2.2.1)/\w.cell? ⟨b,off+k*5+4,η⟩=θ (.int .i64 l[k].2.2.2.2):=by
 have hg:l.getD k oW=l[k]:=by simp[List.getD_eq_getElem?_getD,List.getElem?_eq_getElem hk]
 rw[<-hg];exact hc k hk
theorem M0(w:υ)B (t:Θ)x y z u v(hB:B=w.heap.size):∀j q,[x,y,z,u,v][j]?=θ q->(w.alloc (.cells #[x,y,z,u,v] t)).cell? ((⟨B,0,η⟩:bP).add j)=θ q:=by
 subst hB;intro j q hj
 match j,hj with
 |0,hj=>simp at hj;subst hj;simp[jT]
 |1,hj=>simp at hj;subst hj;simp[jT]
 |2,hj=>simp at hj;subst hj;simp[jT]
 |3,hj=>simp at hj;subst hj;simp[jT]
 |4,hj=>simp at hj;subst hj;simp[jT]
def aud(w w':υ)(e:Ending)(n:Int)(r:List oV):Prop:=
 ∃v,e=.returned (.tuple #[v,.int .i64 n])/\w'.ownsRow w.heap.size 225 5 v r.length (gQ r)/\Below w.heap.size w w'
theorem adS(w W:υ):W.ownsRow w.heap.size 225 5 (.slice η 0 0) ([]:List oV).length (gQ []):=dJ _ _ _ _
theorem aue rZ lo mc lc m l(how:Int)w(hm:cm w rZ m)(hl:cm w lo l)(h3:m.length<=200)(h4:l.length<=200)(hg:∀p∈l,p9 p)(hh:how=1\/how=2\/how=3):Ξ ah 173 #[.slice rZ m.length mc,.slice lo l.length lc,.int .i64 how] w λe w'=>∃S v,e=.returned v/\Ordered (bO m++bO l) S/\w'.ownsRow w.heap.size 225 5 v (fU m l how S (S.length- 1)).length (gQ (fU m l how S (S.length- 1)))/\S.length<=800/\Below w.heap.size w w':=by
 obtain⟨i0,hi,cg,hz1,bX⟩:=er Tryz.aua;have M1:(bO m++bO l).length<=800:=by rw[List.length_append,zB,zB];omega
 have hch:=at6 rZ lo mc lc m l w hm hl h3 h4;obtain⟨A,hA⟩:∃A,A=bO m++bO l:=⟨_,rfl⟩;rw[<-hA]at hch M1 ⊢;clear hA;have auf:Hid (∀t W,Below w.heap.size w W->Ξ ah 194 #[.slice lo l.length lc,.int .i64 t,.int .i64 how] W λe w'=>e=.returned (.tuple #[.int .i64 ((mix how l t).getD 0),.bool (mix how l t).isSome])/\Below W.heap.size W w'):=λt W h=>at4 lo lc l t how W (hl.below h) h4 hg hh;have aug:Hid (∀t W,Below w.heap.size w W->Ξ ah 179 #[.slice rZ m.length mc,.int .i64 t] W λe w'=>e=.returned (.tuple #[.int .i64 ((aC m t).getD 0),.bool (aC m t).isSome])/\Below W.heap.size W w'):=λt W h=>Ig rZ mc m t W (hm.below h) (by omega);clear hm hl;go_enter als,ntmps173;go_wp2_with fail;refine hch.mono ?_;rintro e w1 ⟨v1,rfl,fP,aj⟩;obtain⟨co,fI,rfl,MU⟩:=GO fP;have hsp:=ac1 co fI A w1 MU M1;clear hch fP MU;go_wp2_with fail;refine hsp.mono ?_;rintro e w2 ⟨S,v0,rfl,b8,dL,hb0⟩;have ck:=gi b8;have MG:S.length<=800:=Nat.le_trans b8.len M1;have aq:Below w.heap.size w w2:=bJ aj hb0;obtain⟨N,hN⟩:∃N,N=S.length- 1:=⟨_,rfl⟩;rw[<-hN]at dL;have aR:=gi hN;have Cj:N<=800:=by omega
 have j5:w2.ownsRow w1.heap.size 109 2 v0 (oT S N).length (gp (oT S N)):=by rw[Ag];exact dL
 obtain⟨so,sc,hv0,Ik⟩:=GP j5;rw[Ag]at hv0;subst hv0;have Ck:=gi Ik;clear b8 hsp aj hb0 dL j5 Ik hN M1;go_wp2_with fail;go_loopw [7,19] (λv vi wr=>∃(j:Nat),vi=.int .i64 j/\j<=N/\wr.ownsRow w2.heap.size 225 5 v (fU m l how S j).length (gQ (fU m l how S j))/\Below w2.heap.size w2 wr) (λ_ vi _=>N-(intOf vi).toNat)
 case atStart=>exact⟨0,rfl,Nat.zero_le _,dJ _ _ _ _,Below.refl _ _⟩
 case round=>
  obtain⟨j,rfl,ass,hown,hb⟩:=hrel;have hol:=Uh m l how S j;have iq:Below w.heap.size w wr:=aq.trans (hb.mono aq.size);by_cases hlt:j<N
  ·(have Ah:j+1<S.length:=by have:=aR.out;omega);rcases Ck.out.below hb with h0|⟨b,off,rfl,bQ,hc⟩
   .have:=Ag S N;rw[h0]at this;simp at this;omega
   have Il:=hc j (by rw[Ag];exact hlt);rw[ac0 S N j hlt Ah]at Il;obtain⟨c0,c1⟩:=Il;simp only at c0 c1;have hsz:=hb.size;have bS:=gi (λo=>cw wr o);have hcl:=auf.out S[j] (wr.alloc (.cells #[.int .i64 S[j],.int .i64 S[j+1]] 109)) (bJ iq (cw _ _));have kU:Hid (∀W,Below wr.heap.size wr W->W.ownsRow w2.heap.size 225 5 u7 (fU m l how S j).length (gQ (fU m l how S j))/\Below w2.heap.size w2 W):=λW h=>⟨cE hown h,hb.trans (h.mono hb.size)⟩;have Um:=gi (λW (h:Below wr.heap.size wr W)=>aug.out S[j] W (bJ iq h));clear hc hown hb Ck;cases rU:mix how l S[j]with
   |none=>
    have bx:=gi (Ui (m:=m) (show j<S.length by omega) rU);rw[rU]at hcl;simp only[ic,jG]at hcl;clear rU Um;go_wp2_with fail;refine hcl.mono ?_;rintro e w3 ⟨rfl,aB⟩;have F:=kU.out w3 (bJ (bS.out _) aB);go_wp2;go_roundw
    case rel=>exact⟨j+1,by go_num,by omega,by rw[bx.out];exact F.1,F.2⟩
    case measure=>simp[intOf];omega
   |some y=>
    (have bx:=gi (Uj (m:=m) Ah rU);rw[rU]at hcl;simp only[gu,Ω]at hcl;clear rU;go_wp2_with fail;refine hcl.mono ?_;rintro e w3 ⟨rfl,aB⟩;have lX:=bJ (bS.out _) aB;have Iy:=Um.out w3 lX;(have d0:w3.cell? ⟨wr.heap.size,0,η⟩=θ (.int .i64 S[j]):=by rw[aB.cell (p:=⟨wr.heap.size,0,η⟩) (by simp)];simp);have hlt3:wr.heap.size<w3.heap.size:=World.block_lt_of_cell? w3 _ d0;(have d1:w3.cell? ⟨wr.heap.size,1,η⟩=θ (.int .i64 S[j+1]):=by rw[aB.cell (p:=⟨wr.heap.size,1,η⟩) (by simp)];simp);have fR:=gi (λW (h:Below w3.heap.size w3 W)=>(⟨(h.cell (p:=⟨wr.heap.size,0,η⟩) hlt3).trans d0,(h.cell (p:=⟨wr.heap.size,1,η⟩) hlt3).trans d1⟩:W.cell? ⟨wr.heap.size,0,η⟩=θ (.int .i64 S[j])/\W.cell? ⟨wr.heap.size,1,η⟩=θ (.int .i64 S[j+1])));clear hcl aB Um d1;go_wp2_with fail;refine Iy.mono ?_;rintro e w4 ⟨rfl,hb4⟩;obtain⟨e0,e1⟩:=fR.out w4 hb4;have Cq:=bJ lX hb4;obtain⟨o1,o2⟩:=kU.out w4 Cq;have rI:Hid (∀(o:Obj) (aO:υ),(w4.alloc o).grownBy aO u7.ownBlock->Below w2.heap.size w2 aO):=λo aO kH=>(o2.alloc o2.size o).grown kH (by have:=o2.size;simp;omega) (λk hk=>(o1.lt k hk).1);have hs4:=o2.size;generalize (aC m S[j]).getD 0=auh at*;generalize (aC m S[j]).isSome=tb at*;clear Iy d0 fR kU hb4 o2;go_wp2_with(at_builtin;refine x7 _ rfl _ _ 219 rfl w2.heap.size 225 i0 _ 5 40 ((cD 219).trans underlying219) hi cg hz1 bX rfl (by decide) _ _ _ rfl (fW (w:=w4) o1 _) ⟨w4.heap.size,0,η⟩ 1 1 [.int .i64 S[j],.int .i64 S[j+1],.int .i64 auh,.bool tb,.int .i64 y] rfl rfl (M0 _ _ _ _ _ _ _ _ rfl) (by intro u hu;simp at hu;rcases hu with rfl|rfl|rfl|rfl|rfl<;>rfl) (by unfold maxLen;omega) (by omega) (by simp;omega) ?_;intro v' aO iE hgrow _);have hb':=rI.out _ _ hgrow;have R:aO.ownsRow w2.heap.size 225 5 v' (fU m l how S (j+1)).length (gQ (fU m l how S (j+1))):=by rw[bx.out,aub,List.length_append];exact iE);clear hgrow o1 iE;go_wp2;go_roundw
    case rel=>exact⟨j+1,by go_num,by omega,R,hb'⟩
    case measure=>simp[intOf];omega
  ·((have hjn:j=N:=by omega);have bI:Hid (wr.ownsRow w.heap.size 225 5 u7 (fU m l how S (S.length- 1)).length (gQ (fU m l how S (S.length- 1)))):=by show x9 _ _ _ _ _ _ _;rw[<-aR.out,<- hjn];exact gJ hown aq.size);subst hjn;clear hown Ck hb;go_wp2;go_ret;exact⟨S,_,rfl,ck.out,bI.out,MG,iq⟩
def M3(out:List oV)(n:Int)(r:List oV):Prop:=
 (¬(∀c∈out,cT c.2.2.2.2)/\n=5/\r=[])\/((∀c∈out,cT c.2.2.2.2)/\200<out.length/\n=2/\r=[])\/((∀c∈out,cT c.2.2.2.2)/\out.length<=200/\n=0/\r=out)
theorem adU B x w(hB:B<w.heap.size)(c0:w.cell? ⟨B,0,η⟩=θ (.int .i64 x)):Ξ ah 191 #[.slice (θ ⟨B,0,η⟩) 1 1] w λe w'=>e=.returned (.bool (gq x))/\w'=w:=by
 have h:=Q7 (θ ⟨B,0,η⟩) 1 [x] w (.inr ⟨B,0,rfl,hB,λj hj=>by
  match j,hj with
  |0,_=>exact c0⟩) (by simp)
 simpa using h
theorem aui base v out (w:υ)(hown:w.ownsRow base 225 5 v out.length (gQ out))(hlen:out.length<=1000):Ξ ah 172 #[v] w λe w'=>∃n r v',M3 out n r/\e=.returned (.tuple #[v',.int .i64 n])/\w'.ownsRow base 225 5 v' r.length (gQ r)/\Below w.heap.size w w':=by
 obtain⟨fX,vc,yf,hl⟩:=Ul hown;subst yf;have kU:=gi hown;have Ii:Hid (∀W:υ,W.ownsRow base 225 5 (.slice η 0 0) ([]:List oV).length (gQ [])):=λW=>dJ _ _ _ _;clear hown;go_enter alr,ntmps172;go_wp2;go_loopw [8] (λi wr=>∃k:Nat,k<=out.length/\i=.int .i64 k/\(∀c∈out.take k,cT c.2.2.2.2)/\Below w.heap.size w wr) (λi _=>out.length-(intOf i).toNat)
 case atStart=>exact⟨0,Nat.zero_le _,rfl,λq hq=>by simp at hq,Below.refl _ _⟩
 case round=>
  obtain⟨k,hk,rfl,hn,hb⟩:=hrel;have aR:=gi hn;clear hn;by_cases hlt:k<out.length
  .rcases hl.below hb with h0|⟨b,off,rfl,bQ,hc⟩
   .subst h0;simp at hlt
   obtain⟨c0,c1,c2,c3,c4⟩:=CC.get hlt hc;have aD:=gi (λo o'=>bJ (bJ hb (cw wr o)) (cw (wr.alloc o) o'));clear hc hl hb;by_cases n1:cT out[k].2.2.2.2
   .have aU:Hid (∀c∈out.take (k+1),cT c.2.2.2.2):=by
     intro q hq;rw[jZ out k hlt,List.mem_append,List.mem_singleton]at hq;rcases hq with hq|rfl
     .exact aR.out q hq
     .exact n1
    have e1:=(ud _).2 n1;clear n1;go_wp2_with fail;refine(adU (wr.heap.size+1) out[k].2.2.2.2 _ (by simp) (by simp)).mono ?_;rintro e w1 ⟨rfl,rfl⟩;rw[e1];go_wp2;go_roundw
    case rel=>exact⟨k+1,by omega,by go_num,aU.out,aD.out _ _⟩
    case measure=>simp[intOf];omega
   .have ak:Hid (M3 out 5 []):=.inl ⟨λh=>n1 (h _ (List.getElem_mem hlt)),rfl,rfl⟩;(have e1:gq out[k].2.2.2.2=false:=by rw[<-Bool.not_eq_true,ud];exact n1);clear n1;go_wp2_with fail;refine(adU (wr.heap.size+1) out[k].2.2.2.2 _ (by simp) (by simp)).mono ?_;rintro e w1 ⟨rfl,rfl⟩;rw[e1];go_wp2;go_ret2;exact⟨_,_,_,ak.out,rfl,Ii.out _,aD.out _ _⟩
  ·(have bp:k=out.length:=by omega);(have hall:∀c∈out,cT c.2.2.2.2:=by have:=aR.out;rwa[bp,List.take_length]at this);have cu:=gi hall;clear hall;subst bp;by_cases TE:200<out.length
   .have ak:Hid (M3 out 2 []):=.inr (.inl ⟨cu.out,TE,rfl,rfl⟩);go_wp2;go_ret2;exact⟨_,_,_,ak.out,rfl,Ii.out _,hb⟩
   .have ak:Hid (M3 out 0 out):=.inr (.inr ⟨cu.out,by omega,rfl,rfl⟩);have bI:=gi (cE kU.out hb);go_wp2;go_ret2;exact⟨_,_,_,ak.out,rfl,bI.out,hb⟩
def IK(m l:List (Int×Int×Int))(how n:Int)(r:List oV):Prop:=
 (¬bZ m=0/\n=bZ m/\r=[])\/(bZ m=0/\¬nD l how=0/\n=nD l how/\r=[])\/(bZ m=0/\nD l how=0/\atX m l how n r)
theorem auj(h:¬bZ m=0):∃n,bZ m=n/\(n=2\/n=5):=by
 rcases Lz m with e|e|⟨e,_⟩
 .exact⟨2,e,.inl rfl⟩
 .exact⟨5,e,.inr rfl⟩
 .exact absurd e h
theorem auk(h:bZ m=0):m.length<=200/\eo m/\∀p∈m,dW p:=by
 rcases Lz m with e|e|⟨_,h1,h2⟩
 .omega
 .omega
 .exact⟨h1,Z0 h2,Z1 h2⟩
theorem aul rZ lo mc lc m l how w(hm:cm w rZ m)(hl:cm w lo l):Ξ ah 145 #[.slice rZ m.length mc,.slice lo l.length lc,.int .i64 how] w λe w'=>∃n r,IK m l how n r/\aud w w' e n r:=by
 have h1:=Io rZ mc m w hm;by_cases e1:¬bZ m=0
 .obtain⟨n,en,hn⟩:=auj e1;have ak:Hid (IK m l how n []):=.inl ⟨e1,en.symm,rfl⟩;rw[en]at h1;clear e1 en;rcases hn with rfl|rfl;all_goals
   go_enter QT,ntmps145;go_wp2_with fail;refine h1.mono ?_;rintro e w1 ⟨rfl,aj⟩;go_wp2;go_ret2;exact⟨_,_,ak.out,_,rfl,adS _ _,aj⟩
 rw[tq]at e1;rw[e1]at h1;have rV:=gi e1;have h2:=λW (h:Below w.heap.size w W)=>at3 lo lc l how W (hl.below h);clear e1;by_cases e2:¬nD l how=0
 .obtain⟨n,en,hn⟩:=at1 e2;have ak:Hid (IK m l how n []):=.inr (.inl ⟨rV.out,e2,en.symm,rfl⟩);simp only[en]at h2;clear e2 en;rcases hn with rfl|rfl|rfl;all_goals
   go_enter QT,ntmps145;go_wp2_with fail;refine h1.mono ?_;rintro e w1 ⟨rfl,aj⟩;go_wp2_with fail;refine(h2 w1 aj).mono ?_;rintro e w2 ⟨rfl,aq⟩;have hb:=bJ aj aq;clear aj aq;go_wp2;go_ret2;exact⟨_,_,ak.out,_,rfl,adS _ _,hb⟩
 rw[tq]at e2;simp only[e2]at h2;have kg:=gi e2;obtain⟨l3,_,_⟩:=auk rV.out;obtain⟨l4,hgd,adV,_⟩:=at2 e2;have h5:=λW (h:Below w.heap.size w W)=>aue rZ lo mc lc m l how W (hm.below h) (hl.below h) l3 l4 hgd adV;clear e2 hm hl adV;have aAS:=gi hgd;clear hgd;go_enter QT,ntmps145;go_wp2_with fail;refine h1.mono ?_;rintro e w1 ⟨rfl,aj⟩;go_wp2_with fail;refine(h2 w1 aj).mono ?_;rintro e w2 ⟨rfl,aq⟩;have hb:=bJ aj aq;clear aj aq h1;go_wp2_with fail;refine(h5 w2 hb).mono ?_;rintro e w3 ⟨S,v3,rfl,b8,hown,MG,aB⟩;have hfit:=aui w2.heap.size v3 _ w3 hown (by have:=Uh m l how S (S.length- 1);omega);have ck:=gi b8;have iq:=bJ hb aB;have hs:=hb.size;clear b8 hown aB h2 h5;go_wp2_with fail;refine hfit.mono ?_;rintro e w4 ⟨n,r,v4,hF,rfl,rK,hb4⟩;have ak:Hid (IK m l how n r):=.inr (.inr ⟨rV.out,kg.out,S,ck.out,hF⟩);have R:=gJ rK hs;have cz:=bJ iq hb4;clear hF hfit rK hb4;go_wp2;go_ret2;exact⟨n,r,ak.out,v4,rfl,R,cz⟩
theorem Tryz.aum:(ah.info? 253).map (λi=>(i.zero,i.size,i.bytes))=θ (θ (.agg #[.int .i64 0,.int .i64 0,.int .i64 0]),3,24):=by kernel_rfl
theorem Aq q l:bV (q::l)=.int .i64 q.1::.int .i64 q.2.1::.int .i64 q.2.2::bV l:=by unfold bV;rw[RP];rfl
theorem aun n:(fo (BF #[.int .i64 0,.int .i64 0,.int .i64 0]).cells (n*3)).toList=bV (List.replicate n (0,0,0)):=by
 apply List.ext_getElem?;intro j;have hl:(fo (BF #[.int .i64 0,.int .i64 0,.int .i64 0]).cells (n*3)).toList.length=n*3:=by rw[jk,size_madeCells]
 by_cases hj:j<n*3
 .have e0:∀x∈bV (List.replicate n ((0:Int),(0:Int),(0:Int))),x=bM .i64 0:=by intro x hx;unfold bV pK at hx;simp only[List.mem_map,List.mem_flatMap,List.mem_replicate]at hx;obtain⟨y,⟨q,⟨_,rfl⟩,hy⟩,rfl⟩:=hx;simp at hy;rw[hy]
  have hj2:j<(bV (List.replicate n ((0:Int),(0:Int),(0:Int)))).length:=by rw[xH,List.length_replicate];exact hj
  rw[List.getElem?_eq_getElem (by omega),List.getElem?_eq_getElem hj2,e0 _ (List.getElem_mem hj2)];congr 1;have h3:(BF #[.int .i64 0,.int .i64 0,.int .i64 0]).cells=#[bM .i64 0,.int .i64 0,.int .i64 0]:=by rfl
  simp only[fo,h3,Array.getElem_toList,Array.getElem_map,Array.getElem_range];have:j%3=0\/j%3=1\/j%3=2:=by omega
  rcases this with e|e|e<;>simp[e]
 .rw[List.getElem?_eq_none (by omega),List.getElem?_eq_none (by rw[xH,List.length_replicate];omega)]
theorem adX:∀(m:List gP) (k:Nat) (q:gP),k<m.length->(((bV m).set (k*3) (.int .i64 q.1)).set (k*3+1) (.int .i64 q.2.1)).set (k*3+2) (.int .i64 q.2.2)=bV (m.set k q)
 |[],k,q,h=>by simp at h
 |x::m,0,q,_=>by have e:(x::m).set 0 q=q::m:=rfl;rw[e,Aq,Aq];rfl
 |x::m,k+1,q,h=>by have ih:=adX m k q (by simpa using h);have e:(x::m).set (k+1) q=x::m.set k q:=rfl;rw[e,Aq,Aq,<- ih,show (k+1)*3=k*3+1+1+1 from by omega];rfl
theorem adY:∀(m:List gP) (k:Nat) (z:Int) (h:k<m.length),(bV m).set (k*3+2) (.int .i64 z)=bV (m.set k (m[k].1,m[k].2.1,z))
 |[],k,q,h=>by simp at h
 |x::m,0,q,_=>by show _=bV ((x.1,x.2.1,q)::m);rw[Aq,Aq];rfl
 |x::m,k+1,q,h=>by
  have hk:k<m.length:=by simpa using h
  have ih:=adY m k q hk;show _=bV (x::m.set k (m[k].1,m[k].2.1,q));rw[Aq,Aq,<- ih,show (k+1)*3+2=k*3+2+1+1+1 from by omega];rfl
theorem auo{α:Type}{l m:List α}(hk:k<l.length)(hm:m.length=l.length)(h:m.take k=l.take k):(m.set k l[k]).take (k+1)=l.take (k+1):=by
 have hk2:k<m.length:=by omega
 rw[List.take_add_one,List.take_add_one,List.take_set_of_le (Nat.le_refl _),h];simp[hk,hk2]
theorem aup ao cap l w(hl:cm w ao l)(h2:l.length<=200):Ξ ah 146 #[.slice ao l.length cap] w λr w'=>∃a c,r=.returned (.slice a l.length c)/\cm w' a l/\Below w.heap.size w w':=by
 obtain⟨i0,hi,cg,hz1,bX⟩:=er Tryz.aum;obtain⟨n,hn⟩:∃n,n=l.length:=⟨_,rfl⟩;rw[<-hn];have iB:=aa hn;have hn2:n<=200:=by omega
 clear hn h2;go_enter alp,ntmps146;go_wp2_with(at_make;refine uh _ rfl _ _ 222 rfl w.heap.size 253 i0 _ 3 ((cD 222).trans underlying222) hi cg hz1 .i64 .i64 _ _ n rfl rfl rfl rfl (by rw[bX];omega) (by unfold maxLen;omega) (by simp) ?_;intro w0 dL j9);rw[aun]at dL;have bS:Hid (Below w.heap.size w w0):=(Below.refl w.heap.size w).grown j9 (Nat.le_refl _) (λk hk=>by cases hk);have IE:=aa dL;clear dL j9;go_loopw [11] (λi wr=>∃(k:Nat) (m:List gP),k<=n/\i=.int .i64 k/\m.length=n/\m.take k=l.take k/\wr.ownsRow w.heap.size 253 3 (.slice (θ ⟨w.heap.size,0,η⟩) n n) n (bV m)/\Below w.heap.size w wr) (λi _=>n-(intOf i).toNat)
 case atStart=>exact⟨0,List.replicate n (0,0,0),Nat.zero_le _,rfl,by simp,by simp,IE.out,bS.out⟩
 case round=>
  clear bS IE;obtain⟨k,m,hk,rfl,hml,IL,hown,hb⟩:=hrel;by_cases hlt:k<n
  ·(have hlt2:k<l.length:=by rw[<-iB.out];exact hlt);rcases hl.below hb with h0|⟨b,off,rfl,bQ,hc⟩
   .subst h0;simp at hlt2
   (obtain⟨c0,c1,c2⟩:=cm.Hf hlt2 hc;have fG:=aa (auo hlt2 (hml.trans iB.out) IL);have bx:=aa (adX m k l[k] (by omega));have E5:=aa hml;clear hc hl IL hml;generalize l[k]=q at*;clear hlt2;have hsz:=hb.size;have f0:=hown.frozenAt (k*3);have f1:=hown.frozenAt (k*3+1);have f2:=hown.frozenAt (k*3+2);have g0:∃x,wr.cell? ⟨w.heap.size,k*3,η⟩=θ x:=by rw[hown.cellAt (k*3) (by omega)];exact⟨_,List.getElem?_eq_getElem (by rw[xH,E5.out];omega)⟩);(have g1:∃x,wr.cell? ⟨w.heap.size,k*3+1,η⟩=θ x:=by rw[hown.cellAt (k*3+1) (by omega)];exact⟨_,List.getElem?_eq_getElem (by rw[xH,E5.out];omega)⟩);(have g2:∃x,wr.cell? ⟨w.heap.size,k*3+2,η⟩=θ x:=by rw[hown.cellAt (k*3+2) (by omega)];exact⟨_,List.getElem?_eq_getElem (by rw[xH,E5.out];omega)⟩);(obtain⟨x0,g0⟩:=g0;obtain⟨x1,g1⟩:=g1;obtain⟨x2,g2⟩:=g2;have kU:Hid (((((wr.setCell ⟨w.heap.size,k*3,η⟩ (.int .i64 q.1)).setCell ⟨w.heap.size,k*3+1,η⟩ (.int .i64 q.2.1)).setCell ⟨w.heap.size,k*3+2,η⟩ (.int .i64 q.2.2)).alloc (.cells #[.int .i64 q.1,.int .i64 q.2.1,.int .i64 q.2.2] 176)).ownsRow w.heap.size 253 3 (.slice (θ ⟨w.heap.size,0,η⟩) n n) n (bV (m.set k q))):=by have:=(((hown.stored (k*3) (.int .i64 q.1)).1.stored (k*3+1) (.int .i64 q.2.1)).1.stored (k*3+2) (.int .i64 q.2.2)).1;rw[bx.out]at this;exact fW this _);have sY:Hid (Below w.heap.size w ((((wr.setCell ⟨w.heap.size,k*3,η⟩ (.int .i64 q.1)).setCell ⟨w.heap.size,k*3+1,η⟩ (.int .i64 q.2.1)).setCell ⟨w.heap.size,k*3+2,η⟩ (.int .i64 q.2.2)).alloc (.cells #[.int .i64 q.1,.int .i64 q.2.1,.int .i64 q.2.2] 176))):=
    (((hb.setCell (p:=⟨w.heap.size,k*3,η⟩) (Nat.le_refl _) _).setCell (p:=⟨w.heap.size,k*3+1,η⟩) (Nat.le_refl _) _).setCell (p:=⟨w.heap.size,k*3+2,η⟩) (Nat.le_refl _) _).alloc (by simp[eV];omega) _
   have hsw:=Nat.lt_of_lt_of_le ((hown.lt _ rfl).2) (Nat.le_refl _);clear hown hb bx;go_wp2;go_roundw
   case rel=>exact⟨k+1,m.set k q,by omega,by go_num,by rw[List.length_set];exact E5.out,fG.out,kU.out,sY.out⟩
   case measure=>simp[intOf];omega
  ·((have hkn:k=n:=by omega);have e1:m=l:=by rw[hkn,List.take_of_length_le (by omega),List.take_of_length_le (by rw[iB.out];omega)]at IL;exact IL);subst hkn;subst e1;obtain⟨a,c,e,hp⟩:=j6 hown;simp only[jU]at e;obtain⟨rfl,_,rfl⟩:=e;have bU:=aa hp;have aD:=aa hb;clear hown IL hml hl hp hb hlt;go_wp2;go_ret;exact⟨_,_,rfl,bU.out,aD.out⟩
def tE(π:oo):Value:=.agg #[.int .i64 π.1,.int .i64 π.2.1,.int .i64 π.2.2.1,.int .i64 π.2.2.2.1,.int .i64 π.2.2.2.2]
theorem auq(w:υ)B (t:Θ)p(hB:B=w.heap.size):eg (w.alloc (.cells #[.int .i64 p.1,.int .i64 p.2] t)) (θ ⟨B,0,η⟩) [p]:=by
 subst hB;refine .inr ⟨w.heap.size,0,rfl,by simp,λj hj=>?_⟩;have:j=0:=by simpa using hj
 subst this;exact⟨by simp,by simp⟩
theorem aur{r0 m:List gP}(hk:k<r0.length)(hm:m=p8 (r0.take k) d++r0.drop k):∃h:k<m.length,m[k]=r0[k]/\m.set k (r0[k].1,r0[k].2.1,r0[k].2.2+d)=p8 (r0.take (k+1)) d++r0.drop (k+1):=by
 have hl:(p8 (r0.take k) d).length=k:=by unfold p8;rw[List.length_map,List.length_take];omega
 have hd:r0.drop k=r0[k]::r0.drop (k+1):=(List.drop_eq_getElem_cons hk);have hm2:m.length=r0.length:=by rw[hm,List.length_append,hl,List.length_drop];omega
 refine⟨by omega,?_,?_⟩
 .simp only[hm];rw[List.getElem_append_right (by omega)];simp[hl]
 .rw[hm,List.set_append_right _ _ (by omega),hl,Nat.sub_self,hd,List.set_cons_zero];have:r0.take (k+1)=r0.take k++[r0[k]]:=by rw[List.take_add_one];simp[hk]
  rw[this];unfold p8;rw[List.map_append,List.append_assoc];rfl
theorem aus(π:oo)ao cap m B w(hA:cm w ao m)(hS:aE B m)(hB:B<=500000)(hf:0<=π.2.2.1/\π.2.2.1<π.2.2.2.1/\π.2.2.2.1<=100)(hd:0<=π.2.2.2.2/\π.2.2.2.2<=1000):Ξ ah 164 #[tE π,.slice ao m.length cap] w λr w'=>∃v k,r=.returned v/\aE (B+π.2.2.2.2) k/\(∀t,aC k t=if π.2.2.1<=t/\t<π.2.2.2.1 then(aC m t).map (·+π.2.2.2.2)else η)/\w'.ownsRow w.heap.size 176 3 v k.length (bV k)/\Below w.heap.size w w':=by
 obtain⟨pa,pb,f,t,d⟩:=π;simp only at hf hd;unfold tE;simp only;obtain⟨o1,nO⟩:∃o,o=Obj.cells #[.int .i64 pa,.int .i64 pb,.int .i64 f,.int .i64 t,.int .i64 d] 208:=⟨_,rfl⟩;have hK:=asX ao (θ ⟨(w.alloc o1).heap.size,0,η⟩) cap 1 m [(f,t)] ((w.alloc o1).alloc (.cells #[.int .i64 f,.int .i64 t] 109)) (hA.below (bJ (cw w _) (cw _ _))) (auq _ _ _ (f,t) rfl);have Un:Ξ ah 187 #[.slice ao m.length cap,.slice (θ ⟨(w.alloc o1).heap.size,0,η⟩) 1 1] ((w.alloc o1).alloc (.cells #[.int .i64 f,.int .i64 t] 109)) λe w'=>∃r v,e=.returned (.tuple #[v,.int .i64 0])/\aE B r/\(∀s,aC r s=if f<=s/\s<t then aC m s else η)/\w'.ownsRow (w.heap.size+2) 176 3 v r.length (bV r)/\Below (w.heap.size+1) (w.alloc o1) w':=by
  refine hK.mono ?_;rintro e w' ⟨n,r,b8,v,rfl,ho,hb⟩;obtain⟨rfl,h2,h3⟩:=asZ hS hf (by omega) b8;have e2:((w.alloc o1).alloc (.cells #[.int .i64 f,.int .i64 t] 109)).heap.size=w.heap.size+2:=by simp
  refine⟨r,v,rfl,h2,h3,by rw[<-e2];exact ho,?_⟩;have:=bJ (cw (w.alloc o1) (.cells #[.int .i64 f,.int .i64 t] 109)) hb;have e1:(w.alloc o1).heap.size=w.heap.size+1:=by simp
  rw[e1]at this;exact this
 have bS:=aa (cw w o1);clear hK hS hA;generalize m.length=ml at*;subst nO;have adZ:(w.alloc (Obj.cells #[.int .i64 pa,.int .i64 pb,.int .i64 f,.int .i64 t,.int .i64 d] 208)).heap.size=w.heap.size+1:=by simp
 rw[adZ]at Un;clear adZ;go_enter alq,ntmps164;go_wp2_with fail;refine Un.mono ?_;rintro e w3 ⟨r0,v0,rfl,rf,E6,ho,hb⟩;have aB:=aa hb;have td:=aa rf;have E7:=aa E6;obtain⟨a0,c0,rfl,aut⟩:=j6 ho;have hl0:=rf.len (by omega);clear Un hb aut E6;obtain⟨n,hn⟩:∃n,n=r0.length:=⟨_,rfl⟩;rw[<-hn]at ho hl0 ⊢;have aR:=aa hn;have hvl:Hid (∀q∈r0,0<=q.2.2/\q.2.2<=B):=rf.vals;have ck:=aa ho;clear hn rf ho;go_wp2;go_loopw [21] (λi wr=>∃(k:Nat) (x:List gP),k<=n/\i=.int .i64 k/\x=p8 (r0.take k) d++r0.drop k/\wr.ownsRow (w.heap.size+2) 176 3 (.slice a0 n c0) n (bV x)/\Below (w.heap.size+1) (w.alloc (Obj.cells #[.int .i64 pa,.int .i64 pb,.int .i64 f,.int .i64 t,.int .i64 d] 208)) wr) (λi _=>n-(intOf i).toNat)
 case atStart=>exact⟨0,r0,Nat.zero_le _,rfl,by simp[p8],ck.out,aB.out⟩
 case round=>
  clear ck aB;obtain⟨k,x,hk,rfl,hx,hown,hb⟩:=hrel;by_cases hlt:k<n
  ·((have hlt2:k<r0.length:=by rw[<-aR.out];exact hlt);obtain⟨hk2,Uo,y3⟩:=aur hlt2 hx;obtain⟨b,c,e⟩:=atJ hown (by omega);simp only[jU]at e;obtain⟨rfl,_,rfl⟩:=e;have hq:=hvl.out _ (List.getElem_mem hlt2);have hE:=adY x k (r0[k].2.2+d) hk2;rw[Uo,y3]at hE;have auu:=(hown.lt b rfl);have ad0:wr.cell? ⟨b,k*3+2,η⟩=θ (.int .i64 r0[k].2.2):=by rw[hown.cellAt (k*3+2) (by omega)];have:=(RQ x k hk2).2.2;unfold bV;rw[List.getElem?_map,this,List.getD_eq_getElem?_getD,List.getElem?_eq_getElem hk2,Ω,Uo];rfl);(have iH:wr.cell? ⟨w.heap.size,4,η⟩=θ (.int .i64 d):=by rw[hb.cell (p:=⟨w.heap.size,4,η⟩) (by simp)];simp);have hw:IntKind.i64.wrap (r0[k].2.2+d)=r0[k].2.2+d:=uj _ (by omega) (by omega);have bx:=aa hE;have kV:=aa hx;have hsz:=hb.size;simp only[lC]at hsz;clear hE Uo y3 hx hq;generalize r0[k].2.2=z at*;clear hlt2 hk2;have GY:Nonempty (bf wr):=⟨⟨_,Below.refl _ _⟩⟩;(have f0:∀s:bf wr,s.w.cell? ⟨b,k*3+2,η⟩=θ (.int .i64 z):=λs=>by rw[s.h.cell (p:=⟨b,k*3+2,η⟩) auu.2];exact ad0);(have f1:∀s:bf wr,s.w.cell? ⟨w.heap.size,4,η⟩=θ (.int .i64 d):=λs=>by rw[s.h.cell (p:=⟨w.heap.size,4,η⟩) (by show w.heap.size<_;omega)];exact iH);have gw:Hid (∀s:bf wr,s.w.ownsRow (w.heap.size+2) 176 3 (.slice (θ ⟨b,0,η⟩) n c0) n (bV x)/\Below (w.heap.size+1) (w.alloc (Obj.cells #[.int .i64 pa,.int .i64 pb,.int .i64 f,.int .i64 t,.int .i64 d] 208)) s.w):=λs=>⟨cE hown s.h,hb.trans (s.h.mono (by omega))⟩;(have hki:(k:Int)<(n:Int):=by omega);clear hown hb ad0 iH;go_wp2_with fail;refine aal _ (Below.refl _ _) (by kernel_rfl) (by simp) (by kernel_rfl) (by kernel_rfl) (by kernel_rfl) ?_;simp only[List.pop_toArray,List.dropLast,List.back!_toArray,List.getLast!];(repeat (go_big_quiet_step (fail)));refine wpQuiet_nil ?_;rintro _ ⟨s,rfl⟩;refine pE (λK hK=>?_);have k0:=f0 s;obtain⟨M4,hb4⟩:=gw.out s;have fz:=mX M4 (k*3+2);have aAT:=(kL M4 b rfl);clear f0 f1 GY gw;generalize s.w=w4 at*;clear s;go_simp;refine hK.out _ _ ?_;clear hK K;have Up:=(M4.stored (k*3+2) (.int .i64 (z+d))).1;rw[bx.out]at Up;have E0:=aa Up;have gb:=aa (hb4.setCell (p:=⟨b,k*3+2,η⟩) (by show w.heap.size+1<=b;omega) (.int .i64 (z+d)));clear Up M4 hb4;go_wp2;go_roundw
   case rel=>exact⟨k+1,_,by omega,by go_num,rfl,E0.out,gb.out⟩
   case measure=>simp[intOf];omega
  ·((have hkn:k=n:=by omega);have e1:x=p8 r0 d:=by rw[hx,hkn,aR.out,List.take_length,List.drop_length,List.append_nil]);subst hkn;have bI:Hid (∃v k',j4 a0 k c0=v/\aE (B+d) k'/\(∀t',aC k' t'=if f<=t'/\t'<t then(aC m t').map (·+d)else η)/\wr.ownsRow w.heap.size 176 3 v k'.length (bV k')):=by
    refine⟨_,p8 r0 d,rfl,as0 td.out hd.1,λt'=>?_,?_⟩
    .rw[adk,E7.out t'];split<;>rfl
    .rw[<-e1];(have:x.length=k:=by rw[e1];unfold p8;rw[List.length_map,<- aR.out]);rw[this];exact gJ hown (by omega)
   have Cd:Hid (Below w.heap.size w wr):=bS.out.trans (hb.mono (by omega));clear hx e1 hown hb;go_wp2;go_ret;obtain⟨v,k',rfl,h1,h2,h3⟩:=bI.out;exact⟨_,k',rfl,h1,h2,h3,Cd.out⟩
open Go
def Ar(ops:Array Oper)(st:Oper)(x:Nat):Bool:=st.guard.isNone&&(st.after.all (λe=> !Region.binds .any e||decide (e.on<ops.size))&&(List.range ops.size).all λj=>
 j==x||(st.after.any (λe=>k9 .any e&&e.on==j)||(List.range ops.size).any λk=>decide (j<k)&&(k !=x&&match ops[k]? with
  |some o=>o.after.any λe=>k9 .any e&&e.on==j
  |none=>ο)))
def CE(o:Oper):Bool:=match o.op with
 | .extract _ _=>ν
 |_=>ο
theorem auv(h:CE o=ν)(a:Act):(∃v,∀w,(aL a.eval o).run P w=.ok (.value v) w)\/(∀w,∃s,(aL a.eval o).run P w=.halt (.stuck s) w):=by
 unfold CE at h;split at h
 .rename_i t ix hop;simp only[aL,hop];cases hv:a.eval t<;>simp[AM]
  rename_i vs;cases hx:vs[ix]? with
  |some u=>exact .inl ⟨u,λw=>by simp⟩
  |none=>exact .inr λw=>by simp
 .cases h
theorem auw(h:CE o=ν)a w:¬o.asks P a w:=by
 unfold CE at h;split at h
 .rename_i t ix hop;intro hh;have h1:=hh.1;have h2:((aL a.eval o).runT P w #[]).2=#[]:=by
   simp only[aL,hop];cases hv:a.eval t
   case tuple vs=>
    cases hx:vs[ix]? with
    |none=>simp only[AM,hx];rfl
    |some u=>simp only[AM,hx];rfl
   all_goals rfl
  rw[h2]at h1;simp at h1
 .cases h
theorem auy(h:CE o=ν){a}{K}{Q}(hw:o.wp P a w K Q):∃v,(∀w,(aL a.eval o).run P w=.ok (.value v) w)/\K (a.put o.dst v) w:=by
 rcases auv (P:=P) h a with⟨v,hv⟩|hv
 .refine⟨v,hv,?_⟩;unfold Oper.wp at hw;rw[hv w]at hw;exact hw
 .obtain⟨s,hs⟩:=hv w;unfold Oper.wp at hw;rw[hs]at hw;exact hw.elim
theorem auz{x}{listed}(hl:Ar ops st x=ν)(hc:Closed ops listed)(hsz:listed.size=ops.size)(hs:∀e∈st.after,k9 .any e=ν->e.on<ops.size->listed.getD e.on ο=ν):∀d j,j+d=ops.size->j<ops.size->j≠x->listed.getD j ο=true:=by
 simp only[Ar,Bool.and_eq_true]at hl;intro d;induction d using Nat.strongRecOn with
 |_ d ih=>
  intro j hd hj Au;have h1:=List.all_eq_true.1 hl.2.2 j (List.mem_range.2 hj);rw[Bool.or_eq_true,Bool.or_eq_true]at h1;rcases h1 with h1|h1|h1
  .exact absurd (by simpa using h1) Au
  .obtain⟨e,he,h2⟩:=D5 h1;rw[Bool.and_eq_true,wK]at h2;rw[<-h2.2];exact hs e he h2.1 (by rw[h2.2];exact hj)
  .obtain⟨k,hk,h2⟩:=List.any_eq_true.1 h1;rw[List.mem_range]at hk;rw[Bool.and_eq_true,Bool.and_eq_true,kC]at h2;have ho:ops[k]?=θ ops[k]:=Array.getElem?_eq_getElem hk;simp only[ho]at h2;obtain⟨e,he,h3⟩:=D5 h2.2.2;rw[Bool.and_eq_true,wK]at h3;have bp:=ih (d-(k-j)) (by omega) k (by omega) hk (by simpa using h2.2.1);rw[<-h3.2];refine hc k _ ho ?_ e he h3.1;(have hk':k<listed.size:=by omega);simpa[hk']using bp
theorem auA{x}{listed}(hf:pz ops=ν)(hl:Ar ops st x=ν)(hc:Closed ops listed)(hsz:listed.size=ops.size){z}(hz:z<ops.size)(Uq:z≠x)(Ur:listed.getD z ο=ο)i:i∈dZ .any (ops.push st) (listed.push ο)↔i∈dZ .any ops listed:=by
 rw[lz,lz];rcases Nat.lt_trichotomy i ops.size with hi|hi|hi
 .rw[qo ν (by omega),D6 hi];refine CQ λ_=>exists_congr λo=>CQ λho=>wJ λe=>wJ λhe=>wJ λhb=>?_;have:=(vI hf ho).2 e he hb;rw[qo ο (by omega)]
 .subst hi;constructor
  ·(rintro⟨_,o,ho,hall⟩;have ho':o=st:=by rw[iV,χ rfl]at ho;exact(jP ho).symm);subst ho';exfalso;have GZ:=auz hl hc hsz (λe he hb hlt=>by have:=hall e he hb;rwa[qo ο (by omega)]at this);have:=GZ (ops.size-z) z (by omega) hz Uq;rw[Ur]at this;cases this
  .rintro⟨_,o,ho,_⟩;rw[gx (Nat.le_refl _)]at ho;cases ho
 .constructor
  .rintro⟨_,o,ho,_⟩;rw[gx (by simp;omega)]at ho;cases ho
  .rintro⟨_,o,ho,_⟩;rw[gx (by omega)]at ho;cases ho
theorem ad1{x}{listed:Array Bool}(hl:Ar ops st x=ν)(hsz:listed.size=ops.size)(hall:∀j,j<ops.size->listed.getD j ο=ν)i:i∈dZ .any (ops.push st) (listed.push ο)↔i=ops.size:=by
 rw[lz];simp only[Ar,Bool.and_eq_true]at hl;rcases Nat.lt_trichotomy i ops.size with hi|hi|hi
 .have h1:=hall i hi;have hi':i<listed.size:=by omega
  constructor
  .rintro⟨h0,_⟩;rw[qo ν hi']at h0;simp[hi']at h0 h1;rw[h0]at h1;cases h1
  .intro h;omega
 .subst hi;refine⟨λ_=>rfl,λ_=>⟨by simp[<-hsz],st,by rw[iV,χ rfl],λe he hb=>?_⟩⟩;have h2:=Array.all_eq_true_iff_forall_mem.1 hl.2.1 e he;rw[hb]at h2;have h3:e.on<ops.size:=by simpa using h2
  rw[qo ο (by omega)];exact hall e.on h3
 .constructor
  .rintro⟨_,o,ho,_⟩;rw[gx (by simp;omega)]at ho;cases ho
  .intro h;omega
theorem ad2{listed:Array Bool}(hi:i<listed.size):(listed.push ο).setIfInBounds i ν=(listed.setIfInBounds i ν).push false:=by
 apply Array.ext_getElem?;intro k;rw[wL,iV,iV,wL];by_cases h3:i=k
 .subst h3;simp[hi,Nat.ne_of_lt hi];omega
 .simp[h3]
theorem auB{yw}{x:Nat}{Q}(hf:pz ops=ν)(hl:Ar ops st x=ν)(hx:ops[x]?=θ yw)(ad3:CE yw=ν)(hap:yw.apart (ops.push st) st=ν)(hsel:GX (ops.push st)=ν)(hQ:∀c a w,¬Q (.panic c) a w):∀(fuel:Nat) (listed:Array Bool) (a:Act) (w:υ),listed.size=ops.size->Closed ops listed ->
  j3 P .any ops (lD P st Q) fuel listed a w->j3 P .any (ops.push st) Q (fuel+1) (listed.push ο) a w:=by
 have ad4:x<ops.size:=(ξ.1 hx).1;have hgd:st.guard=none:=by simp only[Ar,Bool.and_eq_true,AU]at hl;exact hl.1
 have fin:∀(fuel:Nat) (listed:Array Bool) (a:Act) (w:υ),listed.size=ops.size->dZ .any ops listed=[]->lD P st Q .normal a w->j3 P .any (ops.push st) Q (fuel+1) (listed.push ο) a w:=by
  intro fuel listed a w hsz hr hq;have hall:=Rz hf hsz hr;refine⟨λh=>?_,λi hi=>?_⟩
  .have:=(ad1 (st:=st) hl hsz hall ops.size).2 rfl;rw[h]at this;cases this
  .rw[ad1 hl hsz hall]at hi;subst hi;(have ho:(ops.push st)[ops.size]?=θ st:=by rw[iV,χ rfl]);unfold wpOp;simp only[ho,cF,hgd,dF];refine .inl (Oper.wp_mono (λa' w' h=>?_) hq);have hd:=ZC (st:=st) hsz hall;cases fuel with
   |zero=>exact⟨hd,h⟩
   |succ n=>exact⟨λ_=>h,by rw[hd];simp⟩
 intro fuel;induction fuel with
 |zero=>
  intro listed a w hsz hc h;exact fin 0 listed a w hsz h.1 h.2
 |succ fuel ih=>
  intro listed a w hsz hc h;by_cases hr:dZ .any ops listed=[]
  .exact fin (fuel+1) listed a w hsz hr (h.1 hr)
  have hcl:∀{i:Nat}{o:Oper},ops[i]?=θ o->(∀e∈o.after,k9 .any e=ν->listed.getD e.on ο=ν)->Closed ops (listed.setIfInBounds i ν):=by
   intro i o ho BI j oj jH hlj e he hb;by_cases hij:i=j
   .subst hij;rw[ho]at jH;(cases jH);exact zj (BI e he hb)
   .rw[getD_set_ne ν hij]at hlj;exact zj (hc j oj jH hlj e he hb)
  by_cases hone:∃z,z<ops.size/\z≠x/\listed.getD z ο=ο
  .obtain⟨z,hz,Uq,Ur⟩:=hone;have ad5:=auA hf hl hc hsz hz Uq Ur;refine⟨λh0=>?_,λi hi=>?_⟩
   .exfalso;apply hr;apply List.eq_nil_iff_forall_not_mem.2;intro j hj;have:=(ad5 j).2 hj;rw[h0]at this;cases this
   .have hi':=(ad5 i).1 hi;have h1:=h.2 i hi';obtain⟨hun,o,ho,BI⟩:=lz.1 hi';have hilt:i<ops.size:=(ξ.1 ho).1;(have ho':(ops.push st)[i]?=θ o:=by rw[D6 hilt];exact ho);have hg:=(vI hf ho).1;unfold wpOp at h1 ⊢;simp only[ho,ho',cF,hg,dF]at h1 ⊢;rw[ad2 (by omega)];refine h1.imp (λhh=>ZD (λa' w' hk=>ih _ a' w' (by simpa using hsz) (hcl ho BI) hk) hh) (λhh=>⟨hh.1,hh.2⟩)
  .have hall:∀j,j<ops.size->j≠x->listed.getD j ο=true:=by
    intro j hj Au;cases e:listed.getD j ο with
    |true=>rfl
    |false=>exact absurd ⟨j,hj,Au,e⟩ hone
   have ad6:listed.getD x ν=false:=by
    cases e:listed.getD x ν with
    |false=>rfl
    |true=>
     exfalso;apply hr;apply List.eq_nil_iff_forall_not_mem.2;intro j hj;obtain⟨h0,o,jH,_⟩:=lz.1 hj;have kM:j<ops.size:=(ξ.1 jH).1;(have hj':j<listed.size:=by omega);by_cases Au:j=x
     .subst Au;rw[h0]at e;cases e
     .have h1:=hall j kM Au;simp[hj']at h0 h1;rw[h0]at h1;cases h1
   (have hg:=(vI hf hx).1;have Us:∀e∈yw.after,k9 .any e=ν->listed.getD e.on ο=true:=λe he hb=>by have:=(vI hf hx).2 e he hb;exact hall e.on (by omega) (by omega));have auC:x∈dZ .any ops listed:=lz.2 ⟨ad6,yw,hx,Us⟩;have h1:=h.2 x auC;unfold wpOp at h1;simp only[hx,cF,hg,dF]at h1;have h2:yw.wp P a w (j3 P .any ops (lD P st Q) fuel (listed.setIfInBounds x ν)) (lD P st Q):=by
    rcases h1 with h1|h1
    .exact h1
    .exact absurd h1.1 (auw ad3 a w)
   obtain⟨v,hv,hk⟩:=auy ad3 h2;have h3:=ih _ _ _ (by simpa using hsz) (hcl hx Us) hk;rw[<-ad2 (by omega)]at h3;refine wpAny_first (i:=x) (oi:=yw) (v:=v) (by rw[D6 ad4];exact hx) (Region.noSelect_spec hsel) (λc a w hq=>absurd hq (hQ _ _ _)) (fuel+1) (listed.push ο) a w ?_ ?_ (.inl ⟨by simp[cF,hg],hv⟩) h3
   .intro j oj jH Au Ut _;by_cases hj:j<ops.size
    .have h4:=hall j hj Au;rw[qo ν (by omega)]at Ut;(have hj':j<listed.size:=by omega);simp[hj']at Ut h4;rw[Ut]at h4;cases h4
    ·(have kM:j<ops.size+1:=by simpa using(ξ.1 jH).1);(have:j=ops.size:=by omega);subst this;rw[iV,χ rfl]at jH;(cases jH);exact hap
   .rw[lz];refine⟨by rw[qo ν (by omega)];exact ad6,yw,by rw[D6 ad4];exact hx,λe he hb=>?_⟩;have:=(vI hf hx).2 e he hb;rw[qo ο (by omega)];exact Us e he hb
theorem IM x{id}{full}{Q}{S}{a}(hm:P.follows .mixedOrders=ν)(hn:0<full.size)(hf:pz full.pop=ν)(hl:Ar full.pop full.back! x=ν)(hx:(match full.pop[x]? with|some o=>CE o&&o.apart full full.back!|none=>ο)=ν)(hsel:GX full=ν)(hS:S w.drew)(h:S w.drew->wpAnyH P .any full.pop (lD P full.back! (NoPanic Q)) S full.pop.size (Δ full.pop.size ο) a w.drew):(Code.region id full ν).wp P Q a w:=by
 refine BC ?_;have e:full=full.pop.push full.back! :=(Array.eq_push_pop_back!_of_size_ne_zero (by omega));generalize full.pop=ops at*;generalize full.back! =st at*;subst e;refine wp_region_any hm ?_;have h1:=wpAny_of_held _ _ _ _ (h hS);cases Uu:ops[x]? with
 |none=>rw[Uu]at hx;cases hx
 |some yw=>
  rw[Uu]at hx;simp only[Bool.and_eq_true]at hx;have h2:=auB hf hl Uu hx.1 hx.2 hsel (λc a w h=>h) ops.size _ a w.drew (by simp) (by
   intro j o hj hlj;have:j<ops.size:=(ξ.1 hj).1;simp[this]at hlj) h1
  have e1:(Δ ops.size ο).push ο=Δ (ops.push st).size false:=by
   apply Array.ext
   .simp
   .intro k h1 h2;simp[Array.getElem_push]
  rw[e1]at h2;have e2:(ops.push st).size=ops.size+1:=by simp
  rw[e2]at h2 ⊢;exact h2
structure r4(go:Nat)(w w':υ):Prop where
 size:w.heap.size<=w'.heap.size
 block:∀b,b<w.heap.size->b≠go->w'.heap[b]?=w.heap[b]?
theorem r4.refl go w:r4 go w w:=⟨Nat.le_refl _,λ_ _ _=>rfl⟩
theorem r4.below{go}{w''}(h:r4 go w w')(hb:Below w'.heap.size w' w''):r4 go w w'':=⟨Nat.le_trans h.size hb.size,λb h1 h2=>(hb.block b (Nat.lt_of_lt_of_le h1 h.size)).trans (h.block b h1 h2)⟩
theorem r4.set{go}(h:r4 go w w')j u:r4 go w (w'.setCell ⟨go,j,η⟩ u):=⟨by simpa[eV]using h.size,λb h1 h2=>by rw[Below.heap_setCell _ _ _ _ (λe=>h2 e)];exact h.block b h1 h2⟩
theorem cZ.Uv{base go}{jr}(A:cZ W base go n val jr){g}{u}(h:g<base):cZ (W.setCell ⟨g,j,η⟩ u) base go n val jr:=by
 refine⟨pZ A.own (λe=>?_),λv hv=>pZ (A.lV v hv) (λe=>?_),A.ap⟩
 .have:=(A.own.lt _ e).1;omega
 .have:=((A.lV v hv).lt _ e).1;omega
theorem auD base go n cap E8 go2 auE val yx T N B(hB:B<=1000000)(hn:n<=12)w(hT:cZ w base go n val T)(hN:cZ w E8 go2 n yx N)(hg:go<E8)(IP:∀v,v<n->aE B (T v))(hNs:∀v,v<n->aE B (N v)):Ξ ah 135 #[.slice (θ ⟨go,0,η⟩) n cap,.slice (θ ⟨go2,0,η⟩) n auE] w λr w'=>r=.returned (.tuple #[])/\∃val' aM,cZ w' base go n val' aM/\(∀v,v<n->aE B (aM v)/\∀t,aC (aM v) t=iG 1 (aC (T v) t) (aC (N v) t))/\cZ w' E8 go2 n yx N/\Below base w w'/\r4 go w w':=by
 have E7:=aa hT;have ad7:=aa hN;have Uw:=aa IP;have ED:=aa hNs;have Ux:Hid (base<=go):=(hT.own.lt go rfl).1;clear hT hN IP hNs;go_enter alm,ntmps135;go_wp2;go_loopw [7] (λi wr=>∃(k:Nat) (va:Nat->ay) (aM:Nat->List gP),k<=n/\i=.int .i64 k/\cZ wr base go n va aM/\(∀v,v<n->aE B (aM v)/\∀t,aC (aM v) t=if v<k then iG 1 (aC (T v) t) (aC (N v) t)else aC (T v) t)/\cZ wr E8 go2 n yx N/\Below base w wr/\r4 go w wr) (λi _=>n-(intOf i).toNat)
 case atStart=>exact⟨0,val,T,Nat.zero_le _,rfl,E7.out,λv hv=>⟨Uw.out v hv,λt=>by simp⟩,ad7.out,Below.refl _ _,r4.refl _ _⟩
 case round=>
  clear E7 ad7;obtain⟨k,va,aM,hk,rfl,hA,hI,hA2,hb,hF⟩:=hrel;have cu:=aa hA;have sV:=aa hA2;have bu:=aa hI;have aD:=aa hb;have aJ:=aa hF;clear hI hF;by_cases hlt:k<n
  ·((have hki:(k:Int)<(n:Int):=by omega);obtain⟨a1,c1,ev,p1⟩:=j6 (hA.lV k hlt);obtain⟨a2,c2,ad8,p2⟩:=j6 (hA2.lV k hlt);have x1:=hA.out hlt;have x2:=hA2.out hlt;rw[ev]at x1;rw[ad8]at x2;have hbd:Below wr.heap.size wr wr.drew:=(Below.refl _ _).drew;have hM:Ξ ah 148 #[.slice a1 (aM k).length c1,.slice a2 (N k).length c2,.int .i64 1] wr.drew λe w'=>∃v r,e=.returned (.tuple #[v,.int .i64 0])/\aE B r/\(∀t,aC r t=iG 1 (aC (aM k) t) (aC (N k) t))/\w'.ownsRow wr.heap.size 176 3 v r.length (bV r)/\Below wr.heap.size wr w':=by refine(TN 1 a1 a2 c1 c2 (aM k) (N k) wr.drew (p1.below hbd) (p2.below hbd)).mono ?_;rintro e w' ⟨m,r,b8,v,rfl,ho,hb'⟩;obtain⟨rfl,h2,h3⟩:=TU (bu.out k hlt).1 (ED.out k hlt) hB b8;exact⟨v,r,rfl,h2,h3,ho,hbd.trans hb'⟩);have fG:=aa hM;have l1:=(hA.own.lt go rfl).2;have l2:=(hA2.own.lt go2 rfl).2;have lU:Hid (∀w3,Below wr.heap.size wr w3->(w3.cell? ⟨go,k,η⟩=θ (.slice a1 (aM k).length c1)/\w3.cell? ⟨go2,k,η⟩=θ (.slice a2 (N k).length c2))):=λw3 h3=>
    ⟨(h3.cell (p:=⟨go,k,η⟩) l1).trans x1,(h3.cell (p:=⟨go2,k,η⟩) l2).trans x2⟩
   have uT:=lU.out _ hbd;clear hA hA2 hM hb x1 x2 p1 p2 ev ad8 hbd;go_wp2_with fail;refine IM 13 (S:=λw'=>w'.cell? ⟨go,k,η⟩=θ (.slice a1 (aM k).length c1)/\w'.cell? ⟨go2,k,η⟩=θ (.slice a2 (N k).length c2)) (by kernel_rfl) (by simp) (by kernel_rfl) (by kernel_rfl) (by kernel_rfl) (by kernel_rfl) uT (λhHeld=>?_);simp only[List.pop_toArray,List.dropLast,List.back!_toArray,List.getLast!];refine tk 0 ?_;refine tk 1 ?_;refine tk 2 ?_;refine tk 3 ?_;refine tk 4 ?_;refine tk 5 ?_;refine tk 6 ?_;refine tk 7 ?_;refine tk 8 ?_;refine tk 9 ?_;refine eL (i:=10) rfl (by kernel_rfl) (λK hK=>?_);go_simp;refine fG.out.mono ?_;rintro e w3 ⟨v3,r3,rfl,hs3,jL,eY,aB⟩;obtain⟨a3,c3,rfl,_⟩:=j6 eY;have KK:=lU.out w3 aB;refine hK.out _ _ KK (λhHeld=>?_);clear hK K hHeld;(try simp only[dz,List.setIfInBounds_toArray,List.set_cons_zero,List.set_cons_succ]);refine tk 11 ?_;refine tk 12 ?_;refine tk 13 ?_;refine tk 14 ?_;refine gU (by kernel_rfl) ?_ _;refine pE (λK hK=>?_);have nE:=cu.out.below aB;have M5:=mX nE.own k;have x3:=KK.1;have yy:=aa (cu.out.set hlt aB (by have:=aD.out.size;have:=Ux.out;omega) eY);have S2:=aa ((sV.out.below aB).Uv (j:=k) (u:=.slice a3 r3.length c3) hg);have r5:=aa ((aD.out.trans (aB.mono (by have:=Ux.out;omega))).setCell (p:=⟨go,k,η⟩) Ux.out (.slice a3 r3.length c3));have auF:=aa ((aJ.out.below aB).set k (.slice a3 r3.length c3));clear nE KK;go_simp;refine hK.out _ _ (rB ?_);clear hK K;have yz:Hid (∀v,v<n->aE B (nx aM k r3 v)/\∀t,aC (nx aM k r3 v) t=if v<k+1 then iG 1 (aC (T v) t) (aC (N v) t)else aC (T v) t):=by
    intro v hv;by_cases e:v=k
    .subst e;rw[yh];refine⟨hs3,λt=>?_⟩;rw[jL t,(bu.out v hv).2 t,ς (by omega),χ (by omega)]
    .rw[wq _ _ e];refine⟨(bu.out v hv).1,λt=>?_⟩;rw[(bu.out v hv).2 t];by_cases h:v<k
     .rw[χ h,χ (by omega)]
     .rw[ς h,ς (by omega)]
   clear eY aB hs3 jL;go_wp2;go_roundw
   case rel=>exact⟨k+1,_,_,by omega,by go_num,yy.out,yz.out,S2.out,r5.out,auF.out⟩
   case measure=>simp[intOf];omega
  ·(have hkn:k=n:=by omega);subst hkn;clear hA hA2 hb;go_wp2;go_end0;exact⟨rfl,va,aM,cu.out,λv hv=>⟨(bu.out v hv).1,λt=>by rw[(bu.out v hv).2 t,χ hv]⟩,sV.out,aD.out,aJ.out⟩
def M6(w:υ)(ao:Option bP)(W n:Nat)(M:Nat->Nat->List gP):Prop:=
 W=0\/∃b off,ao=θ ⟨b,off,η⟩/\b<w.heap.size/\∀j,j<W->∃a c,w.cell? ⟨b,off+j,η⟩=θ (.slice a n c)/\qO w a n (M j)
theorem M6.s4{W}{M}(h:M6 w ao W n M){v}(hv:v<W):∃b off a c,ao=θ ⟨b,off,η⟩/\b<w.heap.size/\w.cell? ⟨b,off+v,η⟩=θ (.slice a n c)/\qO w a n (M v):=by
 rcases h with h|⟨b,off,rfl,hlt,hc⟩
 .omega
 .obtain⟨a,c,h1,h2⟩:=hc v hv;exact⟨b,off,a,c,rfl,hlt,h1,h2⟩
theorem auG ao W cap n M B(hB:B<=1000000)(hn:n<=12)(hW:W<=1)w(hM:M6 w ao W n M)(hS:∀j,j<W->∀v,v<n->aE B (M j v)):Ξ ah 133 #[.slice ao W cap,.int .i64 n] w λr w'=>∃val H,r=.returned (.slice (θ ⟨w.heap.size,0,η⟩) n n)/\cZ w' w.heap.size w.heap.size n val H/\(∀v,v<n->aE B (H v)/\∀t,aC (H v) t=oq M W v t)/\Below w.heap.size w w':=by
 obtain⟨i1,hi',hy0,hy1,hy2⟩:=er Tryz.II;have aU:=aa hS;have fG:=aa hM;clear hS hM;go_enter alj,ntmps133;go_wp2_with(at_make;refine uh _ rfl _ _ 189 rfl w.heap.size 127 i1 (.slice η 0 0) 1 ((cD 189).trans underlying189) hi' hy0 hy1 .i64 .i64 _ _ n rfl rfl rfl rfl (by rw[hy2];omega) (by unfold maxLen;omega) (by simp) ?_;intro w0 dL j9);have uU:=aa (MY dL);have bS:Hid (Below w.heap.size w w0):=(Below.refl w.heap.size w).grown j9 (Nat.le_refl _) (λk hk=>by cases hk);clear dL j9;go_loopw [13] (λi wr=>∃(j:Nat) (val:Nat->ay) (H:Nat->List gP),j<=W/\i=.int .i64 j/\cZ wr w.heap.size w.heap.size n val H/\(∀v,v<n->aE B (H v)/\∀t,aC (H v) t=oq M j v t)/\Below w.heap.size w wr) (λi _=>W-(intOf i).toNat)
 case atStart=>exact⟨0,_,_,Nat.zero_le _,rfl,uU.out,λv hv=>⟨MO B,λt=>rfl⟩,bS.out⟩
 case round=>
  clear uU bS;obtain⟨j,auH,H0,hj,rfl,hA,hI,hb⟩:=hrel;by_cases kM:j<W
  ·(have hji:(j:Int)<(W:Int):=by omega);obtain⟨b,off,a,c,rfl,fM,c0,hm⟩:=fG.out.s4 kM;have auI:=aa hm;have c0:=(hb.cell (p:=⟨b,off+j,η⟩) fM).trans c0;have cu:=aa hA;have bu:=aa hI;have aD:=aa hb;clear hm hA hI hb;go_wp2_with fail;go_loopw [19] (λi wr=>∃(k:Nat) (val:Nat->ay) (H:Nat->List gP),k<=n/\i=.int .i64 k/\cZ wr w.heap.size w.heap.size n val H/\(∀v,v<n->aE B (H v)/\∀t,aC (H v) t=if v<k then oq M (j+1) v t else oq M j v t)/\Below w.heap.size w wr) (λi _=>n-(intOf i).toNat)
   case atStart=>exact⟨0,_,_,Nat.zero_le _,rfl,cu.out,λv hv=>⟨(bu.out v hv).1,λt=>by rw[(bu.out v hv).2 t];simp⟩,aD.out⟩
   case round=>
    clear cu bu aD c0;obtain⟨k,va,H,hk,rfl,hA,hI,hb⟩:=hrel;have cu:=aa hA;have bu:=aa hI;have aD:=aa hb;clear hI;by_cases hlt:k<n
    ·(have hki:(k:Int)<(n:Int):=by omega);obtain⟨bb,of,a2,c2,rfl,auJ,y0,p2⟩:=(auI.out.below hb).s4 hlt;have lT:Hid (∀r3:List gP,aE B r3->(∀t,aC r3 t=iG 1 (aC (H k) t) (aC (M j k) t))->∀v,v<n->aE B (nx H k r3 v)/\∀t,aC (nx H k r3 v) t=if v<k+1 then oq M (j+1) v t else oq M j v t):=by
      intro r3 hs3 jL v hv;by_cases e:v=k
      .subst e;rw[yh];refine⟨hs3,λt=>?_⟩;rw[jL t,(bu.out v hv).2 t,ς (by omega),χ (by omega)];rfl
      .rw[wq _ _ e];refine⟨(bu.out v hv).1,λt=>?_⟩;rw[(bu.out v hv).2 t];by_cases h:v<k
       .rw[χ h,χ (by omega)]
       .rw[ς h,ς (by omega)]
     by_cases hz:(M j k).length=0
     .have r6:Hid (∀v,v<n->aE B (H v)/\∀t,aC (H v) t=if v<k+1 then oq M (j+1) v t else oq M j v t):=by
       have e0:M j k=[]:=List.eq_nil_of_length_eq_zero hz;have:=lT.out (H k) (bu.out k hlt).1 (λt=>by rw[e0,zz,acL]);have auK:nx H k (H k)=H:=by
        funext v;unfold nx;by_cases e:v=k
        .subst e;simp
        .rw[ς e]
       rw[auK]at this;exact this
      rw[hz]at y0;clear hA hb hz p2 lT;go_wp2;go_roundw
      case rel=>exact⟨k+1,_,_,by omega,by go_num,cu.out,r6.out,aD.out⟩
      case measure=>simp[intOf];omega
     ·((have hpos:(0:Int)<((M j k).length:Int):=by omega);obtain⟨a1,c1,ev,p1⟩:=j6 (hA.lV k hlt);have x1:=hA.out hlt;rw[ev]at x1;have hbd:Below wr.heap.size wr wr.drew:=(Below.refl _ _).drew;have hM:Ξ ah 148 #[.slice a1 (H k).length c1,.slice a2 (M j k).length c2,.int .i64 1] wr.drew λe w'=>∃v r,e=.returned (.tuple #[v,.int .i64 0])/\aE B r/\(∀t,aC r t=iG 1 (aC (H k) t) (aC (M j k) t))/\w'.ownsRow wr.heap.size 176 3 v r.length (bV r)/\Below wr.heap.size wr w':=by refine(TN 1 a1 a2 c1 c2 (H k) (M j k) wr.drew (p1.below hbd) (p2.below hbd)).mono ?_;rintro e w' ⟨m,r,b8,v,rfl,ho,hb'⟩;obtain⟨rfl,h2,h3⟩:=TU (bu.out k hlt).1 (aU.out j kM k hlt) hB b8;exact⟨v,r,rfl,h2,h3,ho,hbd.trans hb'⟩);have Uy:=aa hM;have l1:=(hA.own.lt w.heap.size rfl).2;have lU:Hid (∀w3,Below wr.heap.size wr w3->(w3.cell? ⟨w.heap.size,k,η⟩=θ (.slice a1 (H k).length c1)/\w3.cell? ⟨bb,of+k,η⟩=θ (.slice a2 (M j k).length c2))):=λw3 h3=>
       ⟨(h3.cell (p:=⟨w.heap.size,k,η⟩) l1).trans x1,(h3.cell (p:=⟨bb,of+k,η⟩) auJ).trans y0⟩
      have uT:=lU.out _ hbd;generalize (M j k).length=mk at*;clear hA hM hb x1 p1 p2 ev hbd hz;go_wp2_with fail;refine IM 13 (S:=λw'=>w'.cell? ⟨w.heap.size,k,η⟩=θ (.slice a1 (H k).length c1)/\w'.cell? ⟨bb,of+k,η⟩=θ (.slice a2 mk c2)) (by kernel_rfl) (by simp) (by kernel_rfl) (by kernel_rfl) (by kernel_rfl) (by kernel_rfl) uT (λhHeld=>?_);simp only[List.pop_toArray,List.dropLast,List.back!_toArray,List.getLast!];refine tk 0 ?_;refine tk 1 ?_;refine tk 2 ?_;refine tk 3 ?_;refine tk 4 ?_;refine tk 5 ?_;refine tk 6 ?_;refine tk 7 ?_;refine tk 8 ?_;refine tk 9 ?_;refine eL (i:=10) rfl (by kernel_rfl) (λK hK=>?_);go_simp;refine Uy.out.mono ?_;rintro e w3 ⟨v3,r3,rfl,hs3,jL,eY,aB⟩;obtain⟨a3,c3,rfl,_⟩:=j6 eY;have KK:=lU.out w3 aB;refine hK.out _ _ KK (λhHeld=>?_);clear hK K hHeld;(try simp only[dz,List.setIfInBounds_toArray,List.set_cons_zero,List.set_cons_succ]);refine tk 11 ?_;refine tk 12 ?_;refine tk 13 ?_;refine tk 14 ?_;refine gU (by kernel_rfl) ?_ _;refine pE (λK hK=>?_);have nE:=cu.out.below aB;have M5:=mX nE.own k;have x3:=KK.1;have yy:=aa (cu.out.set hlt aB aD.out.size eY);have r5:=aa ((aD.out.trans (aB.mono aD.out.size)).setCell (p:=⟨w.heap.size,k,η⟩) (Nat.le_refl _) (.slice a3 r3.length c3));have yz:=aa (lT.out r3 hs3 jL);clear nE KK eY aB hs3 jL lT;go_simp;refine hK.out _ _ (rB ?_);clear hK K;go_wp2;go_roundw
      case rel=>exact⟨k+1,_,_,by omega,by go_num,yy.out,yz.out,r5.out⟩
      case measure=>simp[intOf];omega
    ·(have hkn:k=n:=by omega);subst hkn;have r6:Hid (∀v,v<k->aE B (H v)/\∀t,aC (H v) t=oq M (j+1) v t):=λv hv=>⟨(bu.out v hv).1,λt=>by rw[(bu.out v hv).2 t,χ hv]⟩;clear hA hb;go_wp2;go_roundw
     case rel=>exact⟨j+1,_,_,by omega,by go_num,cu.out,r6.out,aD.out⟩
     case measure=>simp[intOf];omega
  ·(have auL:j=W:=by omega);subst auL;have cu:=aa hA;have aD:=aa hb;have bu:=aa hI;clear hA hb hI;go_wp2;go_ret;exact⟨_,_,rfl,cu.out,bu.out,aD.out⟩
def Av(w:υ)(ao:Option bP)(ps:List oo):Prop:=
 ps=[]\/∃b off,ao=θ ⟨b,off,η⟩/\b<w.heap.size/\∀j,j<ps.length->w.cell? ⟨b,off+j*5,η⟩=θ (.int .i64 (ps.getD j ku).1)/\w.cell? ⟨b,off+j*5+1,η⟩=θ (.int .i64 (ps.getD j ku).2.1)/\w.cell? ⟨b,off+j*5+2,η⟩=θ (.int .i64 (ps.getD j ku).2.2.1)/\w.cell? ⟨b,off+j*5+3,η⟩=θ (.int .i64 (ps.getD j ku).2.2.2.1)/\w.cell? ⟨b,off+j*5+4,η⟩=θ (.int .i64 (ps.getD j ku).2.2.2.2)
theorem Av.below{ps}(h:Av w ao ps)(hb:Below w.heap.size w w'):Av w' ao ps:=by
 rcases h with h|⟨b,off,rfl,hlt,hc⟩
 .exact .inl h
 .refine .inr ⟨b,off,rfl,Nat.lt_of_lt_of_le hlt hb.size,λj hj=>?_⟩;rw[hb.cell (p:=⟨b,off+j*5,η⟩) hlt,hb.cell (p:=⟨b,off+j*5+1,η⟩) hlt,hb.cell (p:=⟨b,off+j*5+2,η⟩) hlt,hb.cell (p:=⟨b,off+j*5+3,η⟩) hlt,hb.cell (p:=⟨b,off+j*5+4,η⟩) hlt];exact hc j hj
theorem Av.s4{ps}(h:Av w ao ps)(hk:k<ps.length):∃b off,ao=θ ⟨b,off,η⟩/\b<w.heap.size/\w.cell? ⟨b,off+k*5,η⟩=θ (.int .i64 ps[k].1)/\w.cell? ⟨b,off+k*5+1,η⟩=θ (.int .i64 ps[k].2.1)/\w.cell? ⟨b,off+k*5+2,η⟩=θ (.int .i64 ps[k].2.2.1)/\w.cell? ⟨b,off+k*5+3,η⟩=θ (.int .i64 ps[k].2.2.2.1)/\w.cell? ⟨b,off+k*5+4,η⟩=θ (.int .i64 ps[k].2.2.2.2):=by
 rcases h with rfl|⟨b,off,rfl,hlt,hc⟩
 .simp at hk
 .have:=hc k hk;rw[List.getD_eq_getElem?_getD,List.getElem?_eq_getElem hk,Ω]at this;exact⟨b,off,rfl,hlt,this⟩
theorem ad9 no po au pc n N ps wk W B(hB:B<=400000)(hn:n<=12)(hW:1<=W/\W<=1)(hp:ps.length<=100000)w(hN:qO w no n N)(hP:Av w po ps)(hG:∀π∈ps,Ci n π)(hS:∀v,v<n->aE B (N v)):Ξ ah 143 #[.slice no n au,.slice po ps.length pc,.int .i64 wk,.int .i64 W] w λr w'=>∃val H,r=.returned (.slice (θ ⟨w.heap.size,0,η⟩) n n)/\cZ w' w.heap.size w.heap.size n val H/\(∀v,v<n->aE (B+1000) (H v)/\∀t,aC (H v) t=mN N wk W ps ps.length v t)/\Below w.heap.size w w':=by
 obtain⟨i1,hi',hy0,hy1,hy2⟩:=er Tryz.II;have aU:=aa hS;have aR:=aa hN;have bU:=aa hP;have cH:=aa hG;have fN:=aa hW;have aAU:¬W=0:=by omega
 obtain⟨L,hL⟩:∃L,L=ps.length:=⟨_,rfl⟩;have cA:=aa hL;rw[<-hL]at hp ⊢;clear hS hN hP hG hL hW;go_enter alo,ntmps143;go_wp2_with(at_make;refine uh _ rfl _ _ 189 rfl w.heap.size 127 i1 (.slice η 0 0) 1 ((cD 189).trans underlying189) hi' hy0 hy1 .i64 .i64 _ _ n rfl rfl rfl rfl (by rw[hy2];omega) (by unfold maxLen;omega) (by simp) ?_;intro w0 dL j9);have uU:=aa (MY dL);have bS:Hid (Below w.heap.size w w0):=(Below.refl w.heap.size w).grown j9 (Nat.le_refl _) (λk hk=>by cases hk);clear dL j9;go_loopw [17] (λi wr=>∃(k:Nat) (val:Nat->ay) (H:Nat->List gP),k<=L/\i=.int .i64 k/\cZ wr w.heap.size w.heap.size n val H/\(∀v,v<n->aE (B+1000) (H v)/\∀t,aC (H v) t=mN N wk W ps k v t)/\Below w.heap.size w wr) (λi _=>L-(intOf i).toNat)
 case atStart=>exact⟨0,_,_,Nat.zero_le _,rfl,uU.out,λv hv=>⟨MO _,λt=>rfl⟩,bS.out⟩
 case round=>
  clear uU bS;obtain⟨k,va,H,hk,rfl,hA,hI,hb⟩:=hrel;have cu:=aa hA;have bu:=aa hI;have aD:=aa hb;clear hI;by_cases hlt:k<L
  ·((have hlt2:k<ps.length:=by rw[<-cA.out];exact hlt);(have hki:(k:Int)<(L:Int):=by omega);obtain⟨b,off,rfl,fM,c0,c1,c2,c3,c4⟩:=(bU.out.below hb).s4 hlt2;have hg:=cH.out _ (List.getElem_mem hlt2);(have hgd:ps.getD k ku=ps[k]:=by rw[List.getD_eq_getElem?_getD,List.getElem?_eq_getElem hlt2,Ω]);have ye:Hid (∀v t,mN N wk W ps (k+1) v t=if ps[k].1%W=wk/\ps[k].2.1=(v:Int)then iG 1 (mN N wk W ps k v t) (wC N ps[k] t)else mN N wk W ps k v t):=λv t=>by show (if _ then _ else _)=_;rw[hgd]);clear hgd;generalize ps[k]=π at*;obtain⟨pa,pb,f,t,d⟩:=π;obtain⟨⟨Ei,Ej⟩,⟨LV,auM⟩,aea,gd⟩:=hg;simp only at Ei Ej LV auM aea gd c0 c1 c2 c3 c4;obtain⟨A,rfl⟩:∃A:Nat,pa=(A:Int):=⟨pa.toNat,by omega⟩;obtain⟨V,rfl⟩:∃V:Nat,pb=(V:Int):=⟨pb.toNat,by omega⟩;(have hAn:A<n:=by omega);(have M7:V<n:=by omega);have Aw:Hid (∀o,Below w.heap.size w (wr.alloc o)):=λo=>aD.out.alloc aD.out.size o;have Ax:Hid (∀o,cZ (wr.alloc o) w.heap.size w.heap.size n va H):=λo=>cu.out.below (cw wr o);clear hlt2 hb;by_cases hm:(A:Int)%W=wk
   .obtain⟨nb,IQ,na,M8,rfl,hnl,y0,Uz⟩:=aR.out.s4 hAn;have y0:=(aD.out.cell (p:=⟨nb,IQ+A,η⟩) hnl).trans y0;have hnr:nb<wr.heap.size:=Nat.lt_of_lt_of_le hnl aD.out.size;(have Sz:(A:Int)<(n:Int):=by omega);by_cases hz:(N A).length=0
    .have r6:Hid (∀v,v<n->aE (B+1000) (H v)/\∀t',aC (H v) t'=mN N wk W ps (k+1) v t'):=λv hv=>⟨(bu.out v hv).1,λt'=>by
      rw[(bu.out v hv).2 t',ye.out];have e0:N A=[]:=List.eq_nil_of_length_eq_zero hz;split
      .unfold wC;simp only[Int.toNat_natCast,e0,zz,Option.map_none,ite_self,acL]
      .rfl⟩
     (have aeb:((A:Int)%W==wk)=true:=by simpa using hm);rw[hz]at y0;clear hA hz Uz ye bU;go_wp2;go_roundw
     case rel=>exact⟨k+1,_,_,by omega,by go_num,Ax.out _,r6.out,Aw.out _⟩
     case measure=>simp[intOf];omega
    ·((have hpos:(0:Int)<((N A).length:Int):=by omega);obtain⟨o1,nO⟩:∃o,o=Obj.cells #[.int .i64 (A:Int),.int .i64 (V:Int),.int .i64 f,.int .i64 t,.int .i64 d] 208:=⟨_,rfl⟩;have jX:=Ax.out o1;have jW:=Aw.out o1;obtain⟨a1,ir,ev,p1⟩:=j6 (jX.lV V M7);have x1:=jX.out M7;rw[ev]at x1;obtain⟨w1,hw1⟩:∃x,x=wr.alloc o1:=⟨_,rfl⟩;rw[<-hw1]at jX jW p1 x1;have hbd:Below w1.heap.size w1 w1.drew:=(Below.refl _ _).drew;have zL:Ξ ah 164 #[.agg #[.int .i64 (A:Int),.int .i64 (V:Int),.int .i64 f,.int .i64 t,.int .i64 d],.slice na (N A).length M8] w1.drew λr w'=>∃v q,r=.returned v/\aE (B+1000) q/\(∀t',aC q t'=wC N ((A:Int),(V:Int),f,t,d) t')/\w'.ownsRow w1.heap.size 176 3 v q.length (bV q)/\Below w1.heap.size w1 w':=by refine(aus ((A:Int),(V:Int),f,t,d) na M8 (N A) B w1.drew (Uz.below ((aD.out.alloc aD.out.size o1) |> λh=>by rw[<-hw1]at h;exact h.trans (hbd.mono h.size))) (aU.out A hAn) (by omega) aea gd).mono ?_;rintro e w' ⟨v,q,rfl,h1,h2,h3,h4⟩;exact⟨v,q,rfl,h1.mono (by simp only;omega),h2,h3,hbd.trans h4⟩);(have IU:=aa zL;have Uy:Hid (∀(w2:υ) (E9:Option bP) (IV:Nat) (q:List gP),Below w1.heap.size w1 w2->cm w2 E9 q->aE (B+1000) q->Ξ ah 148 #[.slice a1 (H V).length ir,.slice E9 q.length IV,.int .i64 1] w2 λe w'=>∃v r,e=.returned (.tuple #[v,.int .i64 0])/\aE (B+1000) r/\(∀t',aC r t'=iG 1 (aC (H V) t') (aC q t'))/\w'.ownsRow w1.heap.size 176 3 v r.length (bV r)/\Below w1.heap.size w1 w'):=by intro w2 E9 IV q h2 hq auN;refine(TN 1 a1 E9 ir IV (H V) q w2 (p1.below h2) hq).mono ?_;rintro e w' ⟨m,r,b8,v,rfl,ho,hb'⟩;obtain⟨rfl,g2,g3⟩:=TU (bu.out V M7).1 auN (by omega) b8;exact⟨v,r,rfl,g2,g3,gJ ho h2.size,bJ h2 hb'⟩);have l1:=(jX.own.lt w.heap.size rfl).2;(have z1:w1.heap.size=wr.heap.size+1:=by rw[hw1];simp);have lU:Hid (∀w3,Below w1.heap.size w1 w3->(w3.cell? ⟨wr.heap.size,0,η⟩=θ (.int .i64 (A:Int))/\w3.cell? ⟨wr.heap.size,1,η⟩=θ (.int .i64 (V:Int))/\w3.cell? ⟨wr.heap.size,2,η⟩=θ (.int .i64 f)/\w3.cell? ⟨wr.heap.size,3,η⟩=θ (.int .i64 t)/\w3.cell? ⟨wr.heap.size,4,η⟩=θ (.int .i64 d)/\w3.cell? ⟨w.heap.size,V,η⟩=θ (.slice a1 (H V).length ir)/\w3.cell? ⟨nb,IQ+A,η⟩=θ (.slice na (N A).length M8))):=λw3 h3=>
      ⟨(h3.cell (p:=⟨wr.heap.size,0,η⟩) (by simp only;omega)).trans (by rw[hw1,nO];simp),(h3.cell (p:=⟨wr.heap.size,1,η⟩) (by simp only;omega)).trans (by rw[hw1,nO];simp),(h3.cell (p:=⟨wr.heap.size,2,η⟩) (by simp only;omega)).trans (by rw[hw1,nO];simp),(h3.cell (p:=⟨wr.heap.size,3,η⟩) (by simp only;omega)).trans (by rw[hw1,nO];simp),(h3.cell (p:=⟨wr.heap.size,4,η⟩) (by simp only;omega)).trans (by rw[hw1,nO];simp),(h3.cell (p:=⟨w.heap.size,V,η⟩) l1).trans x1,(h3.cell (p:=⟨nb,IQ+A,η⟩) (by simp only;omega)).trans (by rw[hw1,(cw wr o1).cell (p:=⟨nb,IQ+A,η⟩) hnr];exact y0)⟩
     have uT:=lU.out _ hbd;have lT:Hid (∀r3:List gP,aE (B+1000) r3->(∀t',aC r3 t'=iG 1 (aC (H V) t') (wC N ((A:Int),(V:Int),f,t,d) t'))->∀v,v<n->aE (B+1000) (nx H V r3 v)/\∀t',aC (nx H V r3 v) t'=mN N wk W ps (k+1) v t'):=by
      intro r3 hs3 jL v hv;by_cases e:v=V
      .subst e;rw[yh];refine⟨hs3,λt'=>?_⟩;rw[jL t',(bu.out v hv).2 t',ye.out,χ ⟨hm,rfl⟩]
      .rw[wq _ _ e];refine⟨(bu.out v hv).1,λt'=>?_⟩;rw[(bu.out v hv).2 t',ye.out,ς (λh=>e (by have:=h.2;simp only at this;omega))]
     have pY:=aa jX;have aS:=aa jW;(have LM:(V:Int)<(n:Int):=by omega);(have aeb:((A:Int)%W==wk)=true:=by simpa using hm);generalize hml:(N A).length=ml at*;subst nO;clear hA jX jW zL p1 Uz ev x1 hz hml hbd Ax Aw ye bU z1;subst hw1;go_wp2_with fail;refine IM 18 (S:=λw3=>w3.cell? ⟨wr.heap.size,0,η⟩=θ (.int .i64 (A:Int))/\w3.cell? ⟨wr.heap.size,1,η⟩=θ (.int .i64 (V:Int))/\w3.cell? ⟨wr.heap.size,2,η⟩=θ (.int .i64 f)/\w3.cell? ⟨wr.heap.size,3,η⟩=θ (.int .i64 t)/\w3.cell? ⟨wr.heap.size,4,η⟩=θ (.int .i64 d)/\w3.cell? ⟨w.heap.size,V,η⟩=θ (.slice a1 (H V).length ir)/\w3.cell? ⟨nb,IQ+A,η⟩=θ (.slice na ml M8)) (by kernel_rfl) (by simp) (by kernel_rfl) (by kernel_rfl) (by kernel_rfl) (by kernel_rfl) uT (λhHeld=>?_);simp only[List.pop_toArray,List.dropLast,List.back!_toArray,List.getLast!];refine tk 0 ?_;refine tk 1 ?_;refine tk 2 ?_;refine tk 3 ?_;refine tk 4 ?_;refine tk 5 ?_;refine tk 6 ?_;refine tk 7 ?_;refine tk 8 ?_;refine tk 9 ?_;refine tk 10 ?_;refine tk 11 ?_;refine tk 12 ?_;refine tk 13 ?_;refine eL (i:=14) rfl (by kernel_rfl) (λK hK=>?_);go_simp;refine IU.out.mono ?_;rintro e w2 ⟨v2,q2,rfl,hs2,ht2,aec,aq⟩;obtain⟨E9,IV,rfl,hpq⟩:=j6 aec;refine hK.out _ _ (lU.out w2 aq) (λhHeld=>?_);clear hK K hHeld;(try simp only[dz,List.setIfInBounds_toArray,List.set_cons_zero,List.set_cons_succ]);refine eL (i:=15) rfl (by kernel_rfl) (λK hK=>?_);go_simp;refine(Uy.out w2 E9 IV q2 aq hpq hs2).mono ?_;rintro e w3 ⟨v3,r3,rfl,hs3,jL,eY,aB⟩;obtain⟨a3,c3,rfl,_⟩:=j6 eY;have KK:=lU.out w3 aB;refine hK.out _ _ KK (λhHeld=>?_);clear hK K hHeld;(try simp only[dz,List.setIfInBounds_toArray,List.set_cons_zero,List.set_cons_succ]);refine tk 16 ?_;refine tk 17 ?_;refine tk 18 ?_;refine tk 19 ?_;refine gU (by kernel_rfl) ?_ _;refine pE (λK hK=>?_);have nE:=pY.out.below aB;have M5:=mX nE.own V;have x3:=KK.2.2.2.2.2.1;have yy:=aa (pY.out.set M7 aB aS.out.size eY);have r5:=aa ((aS.out.trans (aB.mono aS.out.size)).setCell (p:=⟨w.heap.size,V,η⟩) (Nat.le_refl _) (.slice a3 r3.length c3));have yz:=aa (lT.out r3 hs3 (λt'=>by rw[jL t',ht2 t']));clear nE KK eY aB hs3 jL lT aec aq hs2 ht2 hpq;go_simp;refine hK.out _ _ (rB ?_);clear hK K;go_wp2;go_roundw
     case rel=>exact⟨k+1,_,_,by omega,by go_num,yy.out,yz.out,r5.out⟩
     case measure=>simp[intOf];omega
   .have r6:Hid (∀v,v<n->aE (B+1000) (H v)/\∀t',aC (H v) t'=mN N wk W ps (k+1) v t'):=λv hv=>⟨(bu.out v hv).1,λt'=>by rw[(bu.out v hv).2 t',ye.out,ς (λh=>hm h.1)]⟩;(have aeb:((A:Int)%W==wk)=false:=by simpa using hm);clear hA ye bU;go_wp2;go_roundw
    case rel=>exact⟨k+1,_,_,by omega,by go_num,Ax.out _,r6.out,Aw.out _⟩
    case measure=>simp[intOf];omega
  ·(have UA:k=L:=by omega);subst UA;clear hA hb;go_wp2;go_ret;exact⟨_,_,rfl,cu.out,bu.out,aD.out⟩
def uV(c:oV):Bool:= !c.2.2.2.1||decide (c.2.2.2.2<c.2.2.1)
def mb(r:List oV)(t:Int):Option Int:=r.foldl (λo c=>if uV c=ν/\c.1<=t/\t<c.2.1 then θ c.2.2.2.2 else o) η
theorem aed r c t:mb (r++[c]) t=if uV c=ν/\c.1<=t/\t<c.2.1 then θ c.2.2.2.2 else mb r t:=by unfold mb;rw[List.foldl_append];rfl
theorem auO m s s' v:js (aC m s) (θ v)=if uV (s,s',(aC m s).getD 0,(aC m s).isSome,v)=ν then θ v else none:=by
 cases h:aC m s with
 |none=>simp[js,uV]
 |some x=>simp[js,uV]
theorem auP(hS:S.Pairwise (·<·))(h:j<=k)(hk:k<S.length):S.getD j 0<=S.getD k 0:=by
 rw[qw (by omega:j<S.length),qw hk];by_cases e:j=k
 .subst e;exact Int.le_refl _
 .have:=List.pairwise_iff_getElem.1 hS j k (by omega) hk (by omega);omega
theorem aee{m l}{S}(hS:S.Pairwise (·<·))t:∀(i:Nat),i+1<=S.length\/i=0->mb (fU m l 1 S i) t=xG S (λs=>js (aC m s) (mix 1 l s)) i t
 |0,_=>rfl
 |i+1,hi=>by
  have hi':i+1<S.length:=by omega
  have ih:=aee (m:=m) (l:=l) hS t i (by omega);rw[Ec];cases hm:mix 1 l S[i]with
  |none=>
   rw[Ui (by omega) hm,ih,qw (by omega:i<S.length),hm];have:js (aC m S[i]) η=none:=rfl;rw[this];simp
  |some v=>
   rw[Uj hi' hm,aed,ih,qw (by omega:i<S.length),qw hi',hm,auO m S[i] S[i+1] v];by_cases hc:S[i]<=t/\t<S[i+1]
   ·(have hn:xG S (λs=>js (aC m s) (mix 1 l s)) i t=none:=MB λk hk hh=>by have h1:=auP hS (j:=k+1) (k:=i) (by omega) (by omega);rw[qw (by omega:i<S.length)]at h1;omega);rw[hn,χ hc];by_cases hw:uV (S[i],S[i+1],(aC m S[i]).getD 0,(aC m S[i]).isSome,v)=ν
    .rw[χ ⟨hw,hc⟩,χ hw];rfl
    .rw[ς (λh=>hw h.1),ς hw];rfl
   .rw[ς (λh=>hc h.2),ς hc];simp
theorem aef:∀{l:List (Int×Int×Int)},eo l->∀t,mix how l t=aC l t:=by
 intro l hl t;have key:∀(l:List (Int×Int×Int)) (o:Option Int),eo l->(o.isSome=ν->∀p∈l,dh p t=ο)->l.foldl (λo p=>if dh p t then Ap how o p.2.2 else o) o=o.or (aC l t):=by
  intro l;induction l with
  |nil=>intro o _ _;simp[zz]
  |cons p l ih=>
   intro o hc ho;rw[List.foldl_cons,jm];cases hp:dh p t with
   |true=>
    have:o=none:=by
     cases o with
     |none=>rfl
     |some x=>have:=ho rfl p (by simp);rw[hp]at this;cases this
    subst this;rw[χ rfl,χ rfl,ih _ hc.2.2 (λ_ q hq=>?_)]
    .rfl
    .have h1:=BM hc q hq;unfold dh at hp ⊢;simp at hp ⊢;omega
   |false=>
    rw[ς (by simp),ς (by simp)];exact ih o hc.2.2 (λh q hq=>ho h q (by simp[hq]))
 have:=key l η hl (λh=>by cases h);unfold mix;rw[this];rfl
theorem auQ{l}(hm:∀x∈bO m,x∈S)(hl:∀x∈bO l,x∈S):wB S (λs=>js (aC m s) (mix 1 l s)):=by
 have UB:=atS (how:=1) hl;refine⟨λs t hst h=>?_,λt h=>?_,λt h=>?_⟩
 .show js _ _=js _ _;rw[Ie hst λx hx=>h x (hm x hx),UB.same s t hst h]
 .show js _ _=η;rw[UB.low t h];rfl
 .show js _ _=η;rw[UB.high t h];rfl
theorem auR{l}{B n}{r}(hm:aE B m)(hl:aE B l)(hB:B<=1000000)(h:IK m l 1 n r):n=0/\r.length<=200/\(∀c∈r,0<=c.1/\c.1<=100/\0<=c.2.1/\c.2.1<=100/\0<=c.2.2.2.2/\c.2.2.2.2<=B)/\∀t,mb r t=js (aC m t) (aC l t):=by
 have Le:∀p∈l,p9 p:=λp hp=>by have h1:=(hl.of hB).near p hp;have h2:=G6 hl.canon p hp;exact⟨h1,h2⟩
 have hlc:nD l 1=0:=by unfold nD;rw[adO (by have:=hl.len hB;omega) Le];rfl
 rcases h with⟨e,_⟩|⟨_,e,_⟩|⟨_,_,S,b8,h⟩
 .exact absurd (hm.dY hB) e
 .exact absurd hlc e
 have hmem:∀c∈fU m l 1 S (S.length- 1),0<=c.1/\c.1<=100/\0<=c.2.1/\c.2.1<=100/\0<=c.2.2.2.2/\c.2.2.2.2<=B:=by
  intro c hc;obtain⟨j,hj,_,v,hv,rfl⟩:=atW (by omega) hc;rw[aef hl.canon]at hv;have hS:∀x∈S,0<=x/\x<=100:=λx hx=>by
   rcases List.mem_append.1 ((b8.mem x).1 hx)with hx|hx
   .exact hm.turns hB x hx
   .exact hl.turns hB x hx
  have h1:=hS _ (List.getElem_mem (by omega:j<S.length));have h2:=hS _ (List.getElem_mem hj);have h3:=(hl.aC hv).1;exact⟨h1.1,h1.2,h2.1,h2.2,h3.1,h3.2⟩
 have auS:∀c∈fU m l 1 S (S.length- 1),cT c.2.2.2.2:=λc hc=>by have:=hmem c hc;unfold cT;omega
 have hlen:(fU m l 1 S (S.length- 1)).length<=200:=by
  have h1:=Uh m l 1 S (S.length- 1);have h2:=adg b8.inc (T:=Cu) (λx hx=>Cv.2 (by
   rcases List.mem_append.1 ((b8.mem x).1 hx)with hx|hx
   .exact hm.turns hB x hx
   .exact hl.turns hB x hx))
  rw[MN]at h2;omega
 rcases h with⟨e,_⟩|⟨_,e,_⟩|⟨_,_,h1,h2⟩
 .exact absurd auS e
 .omega
 .subst h2;refine⟨h1,hlen,hmem,λt=>?_⟩;rw[aee b8.inc t _ (by omega),acJ b8.inc (auQ (λx hx=>(b8.mem x).2 (List.mem_append.2 (.inl hx))) (λx hx=>(b8.mem x).2 (List.mem_append.2 (.inr hx))))];show js _ _=_;rw[aef hl.canon]
theorem auT xN ho tc hc n T H B(hB:B<=1000000)(hn:n<=12)w(hT:qO w xN n T)(hH:qO w ho n H)(IP:∀v,v<n->aE B (T v))(MW:∀v,v<n->aE B (H v)):Ξ ah 132 #[.slice xN n tc,.slice ho n hc] w λr w'=>∃val N,r=.returned (.slice (θ ⟨w.heap.size,0,η⟩) n n)/\cZ w' w.heap.size w.heap.size n val N/\(∀v,v<n->aE B (N v)/\∀t,aC (N v) t=js (aC (T v) t) (aC (H v) t))/\Below w.heap.size w w':=by
 obtain⟨i1,hi',hy0,hy1,hy2⟩:=er Tryz.II;have aX:=aa hT;have iB:=aa hH;have Uw:=aa IP;have aeg:=aa MW;clear hT hH IP MW;go_enter ali,ntmps132;go_wp2_with(at_make;refine uh _ rfl _ _ 189 rfl w.heap.size 127 i1 (.slice η 0 0) 1 ((cD 189).trans underlying189) hi' hy0 hy1 .i64 .i64 _ _ n rfl rfl rfl rfl (by rw[hy2];omega) (by unfold maxLen;omega) (by simp) ?_;intro w0 dL j9);have uU:=aa (MY dL);have bS:Hid (Below w.heap.size w w0):=(Below.refl w.heap.size w).grown j9 (Nat.le_refl _) (λk hk=>by cases hk);clear dL j9;go_loopw [16] (λi wr=>∃(j:Nat) (val:Nat->ay) (N:Nat->List gP),j<=n/\i=.int .i64 j/\cZ wr w.heap.size w.heap.size n val N/\(∀v,v<n->aE B (N v)/\∀t,aC (N v) t=if v<j then js (aC (T v) t) (aC (H v) t)else η)/\Below w.heap.size w wr) (λi _=>n-(intOf i).toNat)
 case atStart=>exact⟨0,_,_,Nat.zero_le _,rfl,uU.out,λv hv=>⟨MO B,λt=>rfl⟩,bS.out⟩
 case round=>
  clear uU bS;obtain⟨j,auH,aeh,hj,rfl,hA,hI,hb⟩:=hrel;by_cases kM:j<n
  ·(have hji:(j:Int)<(n:Int):=by omega);obtain⟨tb,UC,ta,M9,rfl,htl,y0,pt⟩:=(aX.out.below hb).s4 kM;obtain⟨iq,UD,UE,uM,rfl,CF,z0,ph⟩:=(iB.out.below hb).s4 kM;(have aei:(H j).length<=200:=by have:=(aeg.out j kM).len hB;omega);have cu:=aa hA;have bu:=aa hI;have aD:=aa hb;have hbd:Below wr.heap.size wr wr.drew:=(Below.refl _ _).drew;have aej:=aa ((aup UE uM (H j) wr.drew (ph.below hbd) aei).mono (R':=λr w'=>∃a c,r=.returned (.slice a (H j).length c)/\cm w' a (H j)/\Below wr.heap.size wr w') (by
    rintro e w' ⟨a,c,rfl,h1,h2⟩;exact⟨a,c,rfl,h1,hbd.trans h2⟩))
   (have aek:Hid (∀(w2:υ) (a:Option bP) (c:Nat),Below wr.heap.size wr w2->cm w2 a (H j)->Ξ ah 145 #[.slice ta (T j).length M9,.slice a (H j).length c,.int .i64 1] w2 λe w'=>∃v r,e=.returned (.tuple #[v,.int .i64 0])/\r.length<=200/\(∀c∈r,0<=c.1/\c.1<=100/\0<=c.2.1/\c.2.1<=100/\0<=c.2.2.2.2/\c.2.2.2.2<=B)/\(∀t,mb r t=js (aC (T j) t) (aC (H j) t))/\w'.ownsRow wr.heap.size 225 5 v r.length (gQ r)/\Below wr.heap.size wr w'):=by intro w2 a c h2 hp;refine(aul ta a M9 c (T j) (H j) 1 w2 (pt.below h2) hp).mono ?_;rintro e w' ⟨m,r,b8,v,rfl,ho,hb'⟩;obtain⟨rfl,g2,g3,g4⟩:=auR (Uw.out j kM) (aeg.out j kM) hB b8;exact⟨v,r,rfl,g2,g3,g4,gJ ho h2.size,bJ h2 hb'⟩);have lU:Hid (∀w3,Below wr.heap.size wr w3->(w3.cell? ⟨tb,UC+j,η⟩=θ (.slice ta (T j).length M9)/\w3.cell? ⟨iq,UD+j,η⟩=θ (.slice UE (H j).length uM))):=λw3 h3=>
    ⟨(h3.cell (p:=⟨tb,UC+j,η⟩) htl).trans y0,(h3.cell (p:=⟨iq,UD+j,η⟩) CF).trans z0⟩
   have uT:=lU.out _ hbd;have auU:=(hA.own.lt w.heap.size rfl).2;clear hA hI hb y0 z0 pt ph aei hbd;go_wp2_with fail;refine BC ?_;refine wp_region_held_drew (S:=λw3=>w3.cell? ⟨tb,UC+j,η⟩=θ (.slice ta (T j).length M9)/\w3.cell? ⟨iq,UD+j,η⟩=θ (.slice UE (H j).length uM)) (by kernel_rfl) uT (λhHeld=>?_);refine tk 0 ?_;refine tk 1 ?_;refine tk 2 ?_;refine tk 3 ?_;refine tk 4 ?_;refine tk 5 ?_;refine tk 6 ?_;refine tk 7 ?_;refine eL (i:=8) rfl (by kernel_rfl) (λK hK=>?_);go_simp;refine aej.out.mono ?_;rintro e w2 ⟨ma,mc,rfl,ael,aq⟩;refine hK.out _ _ (lU.out w2 aq) (λhHeld=>?_);clear hK K hHeld;(try simp only[dz,List.setIfInBounds_toArray,List.set_cons_zero,List.set_cons_succ]);refine eL (i:=9) rfl (by kernel_rfl) (λK hK=>?_);go_simp;refine(aek.out w2 ma mc aq ael).mono ?_;rintro e w3 ⟨xX,r,rfl,auV,hrc,aem,hro,aB⟩;have KK:=lU.out w3 aB;refine hK.out _ _ KK (λhHeld=>?_);clear hK K hHeld;(try simp only[dz,List.setIfInBounds_toArray,List.set_cons_zero,List.set_cons_succ]);refine tk 10 ?_;refine tk 11 ?_;refine tk 12 ?_;refine tk 13 ?_;refine tk 14 ?_;refine gU (by kernel_rfl) ?_ _;refine rB ?_;obtain⟨ca,fI,rfl,_⟩:=Ul hro;have aen:=aa (cu.out.below aB);have bw:=aa (aD.out.trans (aB.mono aD.out.size));have auW:=aa hrc;have auX:=aa aem;obtain⟨L,hL⟩:∃L,L=r.length:=⟨_,rfl⟩;have cA:=aa hL;rw[<-hL]at hro auV ⊢;have uO:=aa (gJ hro (show w.heap.size+1<=wr.heap.size by omega));clear hL hro hrc aem aB aq ael KK cu aD aej aek lU uT auU;go_wp2_with fail;go_loopw [34] (λi cj=>∃(k:Nat) (val:Nat->ay) (N:Nat->List gP),k<=L/\i=.int .i64 k/\cZ cj w.heap.size w.heap.size n val N/\(∀v,v<n->aE B (N v)/\∀t,aC (N v) t=if v<j then js (aC (T v) t) (aC (H v) t)else if v=j then mb (r.take k) t else η)/\Below w.heap.size w cj/\cj.ownsRow (w.heap.size+1) 225 5 (.slice ca L fI) L (gQ r)) (λi _=>L-(intOf i).toNat)
   case atStart=>exact⟨0,_,_,Nat.zero_le _,rfl,aen.out,λv hv=>⟨(bu.out v hv).1,λt=>by rw[(bu.out v hv).2 t,List.take_zero];simp[mb]⟩,bw.out,uO.out⟩
   case round=>
    clear aen bw bu uO;obtain⟨k,va,N,hk,rfl,hA,hI,hb,hro⟩:=hrel;have cu:=aa hA;have bu:=aa hI;have aD:=aa hb;have uO:=aa hro;clear hI;by_cases hlt:k<L
    ·(have hki:(k:Int)<(L:Int):=by omega);(have hlt2:k<r.length:=by rw[<-cA.out];exact hlt);obtain⟨ao,ue,e,hce⟩:=Ul hro;simp only[jU]at e;obtain⟨rfl,auY,rfl⟩:=e;clear auY;rcases hce with h0|⟨cb,UF,rfl,hcl,hcs⟩
     .rw[h0]at hlt2;simp at hlt2
     (obtain⟨c0,c1,c2,c3,c4⟩:=CC.get hlt2 hcs;have hg:=auW.out _ (List.getElem_mem hlt2);have Na:Hid (∀t,mb (r.take (k+1)) t=if uV r[k]=ν/\r[k].1<=t/\t<r[k].2.1 then θ r[k].2.2.2.2 else mb (r.take k) t):=λt=>by(have:r.take (k+1)=r.take k++[r[k]]:=by rw[List.take_add_one];simp[hlt2]);rw[this,aed]);clear hcs;generalize r[k]=c at*;obtain⟨cf,ct,cst,Ay,qP⟩:=c;simp only at hg c0 c1 c2 c3 c4;have Aw:Hid (∀o,Below w.heap.size w (wr.alloc o)):=λo=>aD.out.alloc aD.out.size o;have Ax:Hid (∀o,cZ (wr.alloc o) w.heap.size w.heap.size n va N):=λo=>cu.out.below (cw wr o);have UG:Hid (∀o,(wr.alloc o).ownsRow (w.heap.size+1) 225 5 (.slice (θ ⟨cb,UF,η⟩) L fI) L (gQ r)):=λo=>uO.out.alloc o;by_cases hw:uV (cf,ct,cst,Ay,qP)=ν
     .have lT:Hid (∀r3:List gP,aE B r3->(∀t,aC r3 t=nB (N j) (cf,ct,qP) t)->∀v,v<n->aE B (nx N j r3 v)/\∀t,aC (nx N j r3 v) t=if v<j then js (aC (T v) t) (aC (H v) t)else if v=j then mb (r.take (k+1)) t else η):=by
       intro r3 hs3 jL v hv;by_cases e:v=j
       .subst e;rw[yh];refine⟨hs3,λt=>?_⟩;rw[jL t,ς (by omega),χ rfl,Na.out];(show (if(decide (cf<=t)&&decide (t<ct))=ν then θ qP else aC (N v) t)=if uV (cf,ct,cst,Ay,qP)=ν/\cf<=t/\t<ct then θ qP else mb (r.take k) t);by_cases hc:cf<=t/\t<ct
        .rw[χ (by simp;omega),χ ⟨hw,hc⟩]
        .rw[ς (by simp;omega),ς (λh=>hc h.2),(bu.out v hv).2 t,ς (by omega),χ rfl]
       .rw[wq _ _ e];refine⟨(bu.out v hv).1,λt=>?_⟩;rw[(bu.out v hv).2 t,ς e,ς e]
      (have hcase:Ay=ο\/(Ay=ν/\qP<cst):=by unfold uV at hw;(cases Ay<;>simp at hw ⊢);exact hw);(obtain⟨o1,nO⟩:∃o,o=Obj.cells #[.int .i64 cf,.int .i64 ct,.int .i64 cst,.bool Ay,.int .i64 qP] 225:=⟨_,rfl⟩;have jX:=Ax.out o1;have jW:=Aw.out o1;have Fa:=UG.out o1;obtain⟨a1,ir,ev,p1⟩:=j6 (jX.lV j kM);have x1:=jX.out kM;rw[ev]at x1;obtain⟨w1,hw1⟩:∃x,x=wr.alloc o1:=⟨_,rfl⟩;rw[<-hw1]at jX jW p1 x1 Fa;have hbd:Below w1.heap.size w1 w1.drew:=(Below.refl _ _).drew;have aeo:Hid (Ξ ah 147 #[.slice a1 (N j).length ir,.agg #[.int .i64 cf,.int .i64 ct,.int .i64 qP]] w1.drew λe w'=>∃v q,e=.returned (.tuple #[v,.int .i64 0])/\aE B q/\(∀t,aC q t=nB (N j) (cf,ct,qP) t)/\w'.ownsRow w1.heap.size 176 3 v q.length (bV q)/\Below w1.heap.size w1 w'):=by refine(asK a1 ir (N j) (cf,ct,qP) w1.drew (p1.below hbd)).mono ?_;rintro e w' ⟨m,q,b8,v,rfl,ho,hb'⟩;obtain⟨rfl,g2,g3⟩:=asY (bu.out j kM).1 (by simp only;omega) (by simp only;omega) hB b8;exact⟨v,q,rfl,g2,g3,ho,hbd.trans hb'⟩);have l1:=(jX.own.lt w.heap.size rfl).2;(have z1:w1.heap.size=wr.heap.size+1:=by rw[hw1];simp);have lU:Hid (∀w3,Below w1.heap.size w1 w3->(w3.cell? ⟨wr.heap.size,0,η⟩=θ (.int .i64 cf)/\w3.cell? ⟨wr.heap.size,1,η⟩=θ (.int .i64 ct)/\w3.cell? ⟨wr.heap.size,4,η⟩=θ (.int .i64 qP)/\w3.cell? ⟨w.heap.size,j,η⟩=θ (.slice a1 (N j).length ir))):=λw3 h3=>
       ⟨(h3.cell (p:=⟨wr.heap.size,0,η⟩) (by simp only;omega)).trans (by rw[hw1,nO];simp),(h3.cell (p:=⟨wr.heap.size,1,η⟩) (by simp only;omega)).trans (by rw[hw1,nO];simp),(h3.cell (p:=⟨wr.heap.size,4,η⟩) (by simp only;omega)).trans (by rw[hw1,nO];simp),(h3.cell (p:=⟨w.heap.size,j,η⟩) l1).trans x1⟩
      have uT:=lU.out _ hbd;have pY:=aa jX;have aS:=aa jW;have Nb:=aa Fa;subst nO;clear hA hb hro jX jW Fa p1 ev x1 hbd Ax Aw UG Na z1 hw hg uO hlt2;subst hw1;rcases hcase with rfl|⟨rfl,hlc⟩
      .go_wp2_with fail;refine IM 16 (S:=λw3=>w3.cell? ⟨wr.heap.size,0,η⟩=θ (.int .i64 cf)/\w3.cell? ⟨wr.heap.size,1,η⟩=θ (.int .i64 ct)/\w3.cell? ⟨wr.heap.size,4,η⟩=θ (.int .i64 qP)/\w3.cell? ⟨w.heap.size,j,η⟩=θ (.slice a1 (N j).length ir)) (by kernel_rfl) (by simp) (by kernel_rfl) (by kernel_rfl) (by kernel_rfl) (by kernel_rfl) uT (λhHeld=>?_);simp only[List.pop_toArray,List.dropLast,List.back!_toArray,List.getLast!];refine tk 0 ?_;refine tk 1 ?_;refine tk 2 ?_;refine tk 3 ?_;refine tk 4 ?_;refine tk 5 ?_;refine tk 6 ?_;refine tk 7 ?_;refine tk 8 ?_;refine tk 9 ?_;refine tk 10 ?_;refine tk 11 ?_;refine tk 12 ?_;refine eL (i:=13) rfl (by kernel_rfl) (λK hK=>?_);go_simp;refine aeo.out.mono ?_;rintro e w3 ⟨v3,r3,rfl,hs3,jL,eY,aB⟩;obtain⟨a3,c3,rfl,_⟩:=j6 eY;have KK:=lU.out w3 aB;refine hK.out _ _ KK (λhHeld=>?_);clear hK K hHeld;(try simp only[dz,List.setIfInBounds_toArray,List.set_cons_zero,List.set_cons_succ]);refine tk 14 ?_;refine tk 15 ?_;refine tk 16 ?_;refine tk 17 ?_;refine gU (by kernel_rfl) ?_ _;refine pE (λK hK=>?_);have nE:=pY.out.below aB;have M5:=mX nE.own j;have x3:=KK.2.2.2;have yy:=aa (pY.out.set kM aB aS.out.size eY);have r5:=aa ((aS.out.trans (aB.mono aS.out.size)).setCell (p:=⟨w.heap.size,j,η⟩) (Nat.le_refl _) (.slice a3 r3.length c3));have yz:=aa (lT.out r3 hs3 jL);have UH:=aa (pZ (j:=j) (u:=.slice a3 r3.length c3) (cE Nb.out aB) (show (j4 (θ ⟨cb,UF,η⟩) L fI).ownBlock≠θ w.heap.size from λe=>by have:=(Nb.out.lt _ e).1;omega));clear nE KK eY aB hs3 jL lT;go_simp;refine hK.out _ _ (rB ?_);clear hK K;go_wp2;go_roundw
       case rel=>exact⟨k+1,_,_,by omega,by go_num,yy.out,yz.out,r5.out,UH.out⟩
       case measure=>simp[intOf];omega
      .go_wp2_with fail;refine IM 16 (S:=λw3=>w3.cell? ⟨wr.heap.size,0,η⟩=θ (.int .i64 cf)/\w3.cell? ⟨wr.heap.size,1,η⟩=θ (.int .i64 ct)/\w3.cell? ⟨wr.heap.size,4,η⟩=θ (.int .i64 qP)/\w3.cell? ⟨w.heap.size,j,η⟩=θ (.slice a1 (N j).length ir)) (by kernel_rfl) (by simp) (by kernel_rfl) (by kernel_rfl) (by kernel_rfl) (by kernel_rfl) uT (λhHeld=>?_);simp only[List.pop_toArray,List.dropLast,List.back!_toArray,List.getLast!];refine tk 0 ?_;refine tk 1 ?_;refine tk 2 ?_;refine tk 3 ?_;refine tk 4 ?_;refine tk 5 ?_;refine tk 6 ?_;refine tk 7 ?_;refine tk 8 ?_;refine tk 9 ?_;refine tk 10 ?_;refine tk 11 ?_;refine tk 12 ?_;refine eL (i:=13) rfl (by kernel_rfl) (λK hK=>?_);go_simp;refine aeo.out.mono ?_;rintro e w3 ⟨v3,r3,rfl,hs3,jL,eY,aB⟩;obtain⟨a3,c3,rfl,_⟩:=j6 eY;have KK:=lU.out w3 aB;refine hK.out _ _ KK (λhHeld=>?_);clear hK K hHeld;(try simp only[dz,List.setIfInBounds_toArray,List.set_cons_zero,List.set_cons_succ]);refine tk 14 ?_;refine tk 15 ?_;refine tk 16 ?_;refine tk 17 ?_;refine gU (by kernel_rfl) ?_ _;refine pE (λK hK=>?_);have nE:=pY.out.below aB;have M5:=mX nE.own j;have x3:=KK.2.2.2;have yy:=aa (pY.out.set kM aB aS.out.size eY);have r5:=aa ((aS.out.trans (aB.mono aS.out.size)).setCell (p:=⟨w.heap.size,j,η⟩) (Nat.le_refl _) (.slice a3 r3.length c3));have yz:=aa (lT.out r3 hs3 jL);have UH:=aa (pZ (j:=j) (u:=.slice a3 r3.length c3) (cE Nb.out aB) (show (j4 (θ ⟨cb,UF,η⟩) L fI).ownBlock≠θ w.heap.size from λe=>by have:=(Nb.out.lt _ e).1;omega));clear nE KK eY aB hs3 jL lT;go_simp;refine hK.out _ _ (rB ?_);clear hK K;go_wp2;go_roundw
       case rel=>exact⟨k+1,_,_,by omega,by go_num,yy.out,yz.out,r5.out,UH.out⟩
       case measure=>simp[intOf];omega
     ·(have hcase:Ay=ν/\¬qP<cst:=by unfold uV at hw;(cases Ay<;>simp at hw ⊢);exact hw);obtain⟨rfl,hge⟩:=hcase;have r6:Hid (∀v,v<n->aE B (N v)/\∀t,aC (N v) t=if v<j then js (aC (T v) t) (aC (H v) t)else if v=j then mb (r.take (k+1)) t else η):=λv hv=>⟨(bu.out v hv).1,λt=>by
       have e:=Na.out t;rw[ς (λh=>hw h.1)]at e;rw[(bu.out v hv).2 t,e]⟩
      clear hA hb hro hw Na hlt2;go_wp2;go_roundw
      case rel=>exact⟨k+1,_,_,by omega,by go_num,Ax.out _,r6.out,Aw.out _,UG.out _⟩
      case measure=>simp[intOf];omega
    ·(have UA:k=L:=by omega);have r6:Hid (∀v,v<n->aE B (N v)/\∀t,aC (N v) t=if v<j+1 then js (aC (T v) t) (aC (H v) t)else η):=λv hv=>⟨(bu.out v hv).1,λt=>by
      rw[(bu.out v hv).2 t];by_cases e:v=j
      .subst e;rw[ς (by omega),χ rfl,χ (by omega),List.take_of_length_le (by rw[<-cA.out];omega),auX.out]
      .by_cases h:v<j
       .rw[χ h,χ (by omega)]
       .rw[ς h,ς e,ς (by omega)]⟩
     subst UA;clear hA hb hro;go_wp2;go_roundw
     case rel=>exact⟨j+1,_,_,by omega,by go_num,cu.out,r6.out,aD.out⟩
     case measure=>simp[intOf];omega
  ·(have hjn:j=n:=by omega);subst hjn;have cu:=aa hA;have aD:=aa hb;have bu:Hid (∀v,v<j->aE B (aeh v)/\∀t,aC (aeh v) t=js (aC (T v) t) (aC (H v) t)):=λv hv=>⟨(hI v hv).1,λt=>by rw[(hI v hv).2 t,χ hv]⟩;clear hA hb hI;go_wp2;go_ret;exact⟨_,_,rfl,cu.out,bu.out,aD.out⟩
end Go.Proofs.YtfphigmeppdocaaGreatDoor.Q
namespace Go.Proofs.YtfphigmeppdocaaGreatDoor
namespace Low
open Go.Conc Lo Go.RowKit
variable{ops:Array Oper}{x y:Code}{R:Ending->υ->Prop}{B i:Nat}{P:Program}{v:ay}{w:υ}
def ji(w:υ):Prop:=Lo.ji w.heap
abbrev eX:Question->Bool:=Lo.eX 131
theorem aep{c}{t:Θ}(h:w.heap[B]?=θ (.cells c t)):(w.setCell ⟨B,i,η⟩ v).heap[B]?=θ (.cells (c.setIfInBounds i v) t):=by simp[eV,q6,h]
theorem aeq{b}(h:B≠b):(w.setCell ⟨B,i,η⟩ v).heap[b]?=w.heap[b]?:=by simp only[eV,q6];rw[ς h]
def Az(P:Program)(f:FuncId)(c:Code)(Q:Exit->Act->υ->Prop)(a:Act)(w:υ):Prop:=
 ∀(b:Frame),b.fn=f->∀(k:List Item) (cs:List Frame),∃e a' w',Q e a' w'/\Arrives P (lone (b.at a (.code c::k)) cs w) b k cs e a' w'
theorem Nc{f}{c}{Q}{a}(h:c.wp P Q a w):Az P f c Q a w:=λb _ k cs=>h b k cs
theorem UI{f}{Q}{a}(h:Az P f x (Exit.then (Az P f y Q) Q) a w):Az P f (.seq x y) Q a w:=by
 intro b hb k cs;obtain⟨e,a₁,w₁,hq,tG⟩:=h b hb (.code y::k) cs;cases e with
 |normal=>
  obtain⟨e₂,a₂,w₂,auZ,au0⟩:=hq b hb k cs;exact⟨e₂,a₂,w₂,auZ,.of_steps (.head EW tG) au0⟩
 |exit id=>exact⟨_,a₁,w₁,hq,.of_steps (.one EW) (.pass (x:=.code y) rfl (λ_ _=>.inl (by simp)) tG)⟩
 |goto l=>exact⟨_,a₁,w₁,hq,.of_steps (.one EW) (.pass (x:=.code y) rfl (λ_ _=>.inl (by simp)) tG)⟩
 |ret=>exact⟨_,a₁,w₁,hq,.of_steps (.one EW) (.pass (x:=.code y) rfl (λ_ _=>.inl (by simp)) tG)⟩
 |panic ch=>exact⟨_,a₁,w₁,hq,.of_steps (.one EW) (.pass (x:=.code y) rfl (λ_ _=>.inl (by simp)) tG)⟩
 |outgrown=>exact⟨_,a₁,w₁,hq,.of_steps (.one EW) (.pass (x:=.code y) rfl (λ_ _=>.inl (by simp)) tG)⟩
theorem aer{f}{id}{Q}{a}(h:ju P ops Q (kY (P.follows .mixedOrders) ops (w.tape w.drawn (.order f id))) a {w with drawn:=w.drawn+1 }):Az P f (.region id ops ν) Q a w:=by intro b hb k cs;obtain⟨e,a',w',q,r⟩:=wp_ops _ a _ h b k cs;refine⟨e,a',w',q,.of_steps (.one ?_) r⟩;rw[step_region_draw,hb]
theorem aes{f}{fn}{c}{args}(hf:P.funcs[f]?=θ fn)(hb:fn.body=θ c)(h:Az P f c (bodyPost P fn R) {tmps:=args++Δ (fn.ntmps-args.size) undef,defers:=[] } w):Ξ P f args w R:=by
 intro cs;let b:Frame:={(default:Frame)with fn:=f,kind:=.normal };have au1:Frame.enter P f args .normal=
   b.at {tmps:=args++Δ (fn.ntmps-args.size) undef,defers:=[] } [.code c]:=by
  simp[Frame.enter,Frame.at,hf,hb,b]
 obtain⟨e,a',w',hq,tG⟩:=h b rfl [] cs;rw[<-au1]at tG;cases e with
 |normal=>
  obtain⟨hd,v,hr,hR⟩:=hq;exact⟨.returned v,w',_,hR,Steps.trans tG (.one step_end),rfl,rfl,hd,rfl,fn,hf,hr⟩
 |ret=>
  obtain⟨hd,v,hr,hR⟩:=hq;obtain⟨todo,hs⟩:=tG;exact⟨.returned v,w',_,hR,hs,rfl,rfl,hd,rfl,fn,hf,hr⟩
 |panic chain=>
  obtain⟨hd,hR⟩:=hq;obtain⟨todo,hs⟩:=tG;exact⟨.panicked chain,w',_,hR,hs,rfl,rfl,hd,fn,hf⟩
 |exit id=>exact hq.elim
 |goto l=>exact hq.elim
 |outgrown=>exact⟨.outgrown,w',b,hq,tG.resolve_left (by simp[b]),rfl,trivial⟩
theorem aet t:kY (ah.follows .mixedOrders) k7 t=if t%2=0 then[0,1]else[1,0]:=by
 have h0:kY (ah.follows .mixedOrders) k7 t=adm .any k7 t:=by
  have:ah.follows .mixedOrders=true:=by kernel_rfl
  rw[this];rfl
 have h1:adm .any k7 t=(match([0,1]:List Nat)[t%2]? with|some i=>iA .any k7 1 (t/2) ((Δ 2 ο).setIfInBounds i ν) [i]|none=>[]):=by kernel_rfl
 have h:t%2=0\/t%2=1:=by omega
 rw[h0,h1];rcases h with h|h
 .rw[h,χ rfl];have:iA .any k7 1 (t/2) ((Δ 2 ο).setIfInBounds 0 ν) [0]=(match([1]:List Nat)[(t/2)%1]? with|some i=>iA .any k7 0 (t/2/1) (((Δ 2 ο).setIfInBounds 0 ν).setIfInBounds i ν) [i,0]|none=>[0]):=by kernel_rfl
  show iA .any k7 1 (t/2) ((Δ 2 ο).setIfInBounds 0 ν) [0]=_;rw[this,Nat.mod_one];rfl
 .rw[h,ς (by decide)];have:iA .any k7 1 (t/2) ((Δ 2 ο).setIfInBounds 1 ν) [1]=(match([0]:List Nat)[(t/2)%1]? with|some i=>iA .any k7 0 (t/2/1) (((Δ 2 ο).setIfInBounds 1 ν).setIfInBounds i ν) [i,1]|none=>[1]):=by kernel_rfl
  show iA .any k7 1 (t/2) ((Δ 2 ο).setIfInBounds 1 ν) [1]=_;rw[this,Nat.mod_one];rfl
end Low
end Go.Proofs.YtfphigmeppdocaaGreatDoor
namespace Go.Proofs.YtfphigmeppdocaaGreatDoor.Q
open Lo (ah)
open Go.RowKit
open Low (ji eX)
open Lo (tp eH)
variable{ops:Array Oper}{cs:Array ay}{d h how t t0 v v0:Int}{F:Int->Int->Option Int}{q:Int×Int×Int}{l:List (Int×Int)}{m:List (Int×Int×Int)}{al:List Bool}{S T ns x:List Int}{xs:List ay}{B cap e aT i j k n r:Nat}{val:Nat->ay}{o st:Oper}{ao:Option bP}{P:Program}{cO cG:ay}{W W' w w' w0:υ}
variable{g:bg}{L:List (eF×ay)}
variable{p:b9->Int}{ai:List b9}
structure Fb(W:υ)(go n cap:Nat)(val:Nat->ay)(N:Nat->List gP):Prop where
 own:∃base,W.ownsRow base 127 1 (.slice (θ ⟨go,0,η⟩) n cap) n ((List.range n).map val)
 lV:∀v,v<n->∃base,W.ownsRow base 176 3 (val v) (N v).length (bV (N v))
theorem cZ.qL{base go}{jr}(A:cZ W base go n val jr):Fb W go n n val jr:=⟨⟨base,A.own⟩,λv hv=>⟨base,A.lV v hv⟩⟩
theorem Fb.read{go}{N}(A:Fb W go n cap val N):qO W (θ ⟨go,0,η⟩) n N:=by obtain⟨base,h⟩:=A.own;refine .inr ⟨go,0,rfl,(kL h go rfl).2,λv hv=>?_⟩;obtain⟨b2,h2⟩:=A.lV v hv;obtain⟨a,c,h1,h2⟩:=j6 h2;exact⟨a,c,by rw[Nat.zero_add,qi h v (by omega)];simp[hv,h1],h2⟩
def UJ(c:oo):List Value:=[.int .i64 c.1,.int .i64 c.2.1,.int .i64 c.2.2.1,.int .i64 c.2.2.2.1,.int .i64 c.2.2.2.2]
def iT(l:List oo):List Value:=l.flatMap UJ
theorem UK a b:iT (a++b)=iT a++iT b:=by simp[iT]
theorem aeu l:(iT l).length=l.length*5:=by
 induction l with
 |nil=>rfl
 |cons c l ih=>simp only[iT,List.flatMap_cons,List.length_append,List.length_cons]at ih ⊢;rw[ih];simp[UJ];omega
theorem au2 l j(h:j<l.length):(iT l)[j*5]?=θ (.int .i64 (l.getD j ku).1)/\(iT l)[j*5+1]?=θ (.int .i64 (l.getD j ku).2.1)/\(iT l)[j*5+2]?=θ (.int .i64 (l.getD j ku).2.2.1)/\(iT l)[j*5+3]?=θ (.int .i64 (l.getD j ku).2.2.2.1)/\(iT l)[j*5+4]?=θ (.int .i64 (l.getD j ku).2.2.2.2):=by
 induction l generalizing j with
 |nil=>simp at h
 |cons c l ih=>
  have e:iT (c::l)=.int .i64 c.1::.int .i64 c.2.1::.int .i64 c.2.2.1::.int .i64 c.2.2.2.1::.int .i64 c.2.2.2.2::iT l:=by simp[iT,UJ]
  rw[e];cases j with
  |zero=>exact⟨rfl,rfl,rfl,rfl,rfl⟩
  |succ j=>
   have:=ih j (by simpa using h);rw[show (j+1)*5=j*5+1+1+1+1+1 by omega];simpa using this
theorem aev{base}{v}{l}(h:w.ownsRow base e 5 v n (iT l)):∃ao cap,v=.slice ao l.length cap/\Av w ao l:=by
 obtain⟨h1,h2⟩:=h;simp only[aeu]at h1;have hn:n=l.length:=by omega
 subst hn;rcases h2 with⟨rfl,h0⟩|⟨g,cap,cur,rfl,hb,hh,h3,h4,h5,h6⟩
 .exact⟨η,0,by rw[h0],.inl (List.eq_nil_of_length_eq_zero h0)⟩
 .have hown:w.ownsRow base e 5 (.slice (θ ⟨g,0,η⟩) l.length cap) l.length (iT l):=⟨by simp[aeu],.inr ⟨g,cap,cur,rfl,hb,hh,h3,h4,h5,h6⟩⟩;refine⟨_,cap,rfl,.inr ⟨g,0,rfl,(ξ.1 hh).1,λj hj=>?_⟩⟩;obtain⟨f0,f1,f2,f3,f4⟩:=au2 l j hj;rw[Nat.zero_add,hown.cellAt (j*5) (by omega),hown.cellAt (j*5+1) (by omega),hown.cellAt (j*5+2) (by omega),hown.cellAt (j*5+3) (by omega),hown.cellAt (j*5+4) (by omega)];exact⟨f0,f1,f2,f3,f4⟩
theorem au3{s}{go au ow}{N}{ps}{pv}{B}(hB:B<=400000)(hn:n<=12)(hp:ps.length<=100000)(A:Fb s go n au val N)(hP:s.ownsRow ow 208 5 pv ps.length (iT ps))(hG:∀π∈ps,Ci n π)(hS:∀v,v<n->aE B (N v)):∃po pc,pv=.slice po ps.length pc/\Lo.Sends s.heap (.slice (θ ⟨go,0,η⟩) n au) pv:=by
 obtain⟨po,pc,rfl,hpt⟩:=aev hP;have au4:=A.read;refine⟨po,pc,rfl,λw hw=>?_⟩;by_cases hsz:s.heap.size<=w.heap.size
 .have hb:Below s.heap.size {w with heap:=s.heap } w:=⟨rfl,rfl,rfl,hsz,hw⟩;have h1:qO {w with heap:=s.heap } (θ ⟨go,0,η⟩) n N:=au4;have h2:Av {w with heap:=s.heap } po ps:=hpt;refine(ad9 (θ ⟨go,0,η⟩) po au pc n N ps 0 1 B hB hn ⟨by omega,by omega⟩ hp w (h1.below hb) (h2.below hb) hG hS).mono ?_;rintro e w' ⟨val,H,rfl,_⟩;exact⟨_,rfl,_,_,_,rfl⟩
 .exfalso;have:=hw w.heap.size (by omega);rw[gx (Nat.le_refl _)]at this;have h3:=Array.getElem?_eq_none_iff.1 this.symm;omega
open Low (ji eX Az Nc UI aer aes aet)
open Lo (tp eH Bg F4 yZ k7 Dm gA F1 F2 F3 Bf Be JZ J0 mh Bd rj c8)
section
variable {P:Program}{ops:Array Oper}{Q:Exit->Act->υ->Prop}{a:Act}{w w':υ}{i:Nat}{rest:List Nat}{o:Oper}
theorem qa{v}(ho:ops[i]?=θ o)(hw:cF o (jv ops a.tmps)=ν)(hr:(aL a.eval o).run P w=.ok (.value v) w')(h:ju P ops Q rest (a.put o.dst v) w'):ju P ops Q (i::rest) a w:=by simp only[ju,ho];rw[χ hw];left;unfold Oper.wp;rw[hr];exact h
theorem au5(ho:ops[i]?=θ o)(hw:cF o (jv ops a.tmps)=ο)(h:ju P ops Q rest (a.put o.dst undef) w):ju P ops Q (i::rest) a w:=by simp only[ju,ho];rw[ς (by rw[hw];decide)];exact h
theorem au6(ho:ops[i]?=θ o)(hw:cF o (jv ops a.tmps)=ν)(hr:(aL a.eval o).run P w=.ok .skip w')(h:ju P ops Q rest (a.put o.dst undef) w'):ju P ops Q (i::rest) a w:=by simp only[ju,ho];rw[χ hw];left;unfold Oper.wp;rw[hr];exact h
theorem au7{v}(ho:ops[i]?=θ o)(hw:cF o (jv ops a.tmps)=ν)(hr:(aL a.eval o).run P w=.halt (.panic v) w')(h:Q (.panic [{v,recovered:=ο }]) a w'):ju P ops Q (i::rest) a w:=by simp only[ju,ho];rw[χ hw];left;unfold Oper.wp;rw[hr];exact h
theorem au8{f}{args}{R}(ho:ops[i]?=θ o)(hw:cF o (jv ops a.tmps)=ν)(hr:(aL a.eval o).run P w=.ok (.enter f args) w')(hc:Ξ P f args w' R)(h:∀e w'',R e w''->∃v,e=.returned v/\ju P ops Q rest (a.put o.dst v) w''):ju P ops Q (i::rest) a w:=by simp only[ju,ho];rw[χ hw];left;unfold Oper.wp;rw[hr];refine hc.mono ?_;intro e w'' he;obtain⟨v,rfl,h2⟩:=h e w'' he;exact h2
end
theorem au9{w:υ}{i}{v}{c}{t:Θ}(h:w.heap[B]?=θ (.cells c t)):(w.setCell ⟨B,i,η⟩ v).heap[B]?=θ (.cells (c.setIfInBounds i v) t):=by simp[eV,q6,h]
structure Nd(w:υ)(uW W n:Nat)(N:Nat->List gP)(ps:List oo)(B:Int)(i:Nat)(σ:υ):Prop where
 aQ:Below w.heap.size w σ
 lo:w.heap.size<=uW
 hi:uW<σ.heap.size
 row:∃cur,σ.heap[uW]?=θ (.cells cur 189)/\cur.size=W
 box:∀j,j<i->∃g base val H,σ.cell? ⟨uW,j,η⟩=θ (.slice (θ ⟨g,0,η⟩) n n)/\uW<base/\cZ σ base g n val H/\∀v,v<n->aE (B+1000) (H v)/\∀t,aC (H v) t=mN N (j:Int) (W:Int) ps ps.length v t
theorem Nd.step{w σ σ1:υ}{uW W n i}{N}{ps}{B}{val}{H}(I:Nd w uW W n N ps B i σ)(hi:i<W)(hb:Below σ.heap.size σ σ1)(A:cZ σ1 σ.heap.size σ.heap.size n val H)(hH:∀v,v<n->aE (B+1000) (H v)/\∀t,aC (H v) t=mN N (i:Int) (W:Int) ps ps.length v t):Nd w uW W n N ps B (i+1) (σ1.setCell ⟨uW,i,η⟩ (.slice (θ ⟨σ.heap.size,0,η⟩) n n)):=by
 obtain⟨cur,hc,hs⟩:=I.row;have hc1:σ1.heap[uW]?=θ (.cells cur 189):=by rw[hb.block _ I.hi];exact hc
 have jW:=(I.aQ.trans (hb.mono I.aQ.size)).setCell (p:=⟨uW,i,η⟩) I.lo (.slice (θ ⟨σ.heap.size,0,η⟩) n n);have hrow:=au9 (i:=i) (v:=(.slice (θ ⟨σ.heap.size,0,η⟩) n n)) hc1;refine⟨jW,I.lo,(ξ.1 hrow).1,⟨_,hrow,by simpa using hs⟩,λj hj=>?_⟩;by_cases e:j=i
 .subst e;refine⟨σ.heap.size,σ.heap.size,val,H,?_,I.hi,A.Uv I.hi,hH⟩;simp[c7,hrow,hs,hi]
 .obtain⟨g,base,yx,H2,h1,h2,h3,h4⟩:=I.box j (by omega);refine⟨g,base,yx,H2,?_,h2,(h3.below hb).Uv h2,h4⟩;simp[c7,hc]at h1;simp only[c7,hrow];simp[jx e,h1]
theorem Nf T:(⟨T,[]⟩:Act).eval=c8 T:=funext λx=>by cases x<;>rfl
def IW(H:Array Obj):Array Obj:=((((((H.push (.cells #[] 189)).push (.cells #[] 191)).push (.cells #[] 3)).push (.cells (fo #[.slice η 0 0] 1) 189)).push (.cells #[] 194)).push (.cells #[] 217)).push (.cells #[] 3)
def w7(w:υ):World:={w with heap:=IW w.heap,drawn:=w.drawn+1 }
theorem ava w:Below w.heap.size w (w7 w):=by refine⟨rfl,rfl,rfl,by simp only[w7,IW,TW];omega,λk hk=>?_⟩;simp only[w7,IW,iV,TW];rw[ς (by omega),ς (by omega),ς (by omega),ς (by omega),ς (by omega),ς (by omega),ς (by omega)]
theorem aew w:(w7 w).heap[w.heap.size+3]?=θ (.cells #[.slice η 0 0] 189):=by
 have h:(fo #[.slice η 0 0] 1)=#[j4 η 0 0]:=by kernel_rfl
 simp only[w7,IW,h];simp only[iV,TW];simp
theorem avb w:(w7 w).heap.size=w.heap.size+7:=by simp[w7,IW]
theorem avc x pv w:(aL ({tmps:=#[x,pv,.int .i64 1,undef,undef,undef,undef,undef],defers:=[] }:Act).eval F3).run ah w=.ok (.value (rj x pv)) w:=by show qX (Next.value (.func (.func 143) ((#[.tmp 0,.tmp 1,.tmp 2,.tmp 3,.tmp 4,.tmp 5,.tmp 6,.tmp 7]:Array Operand).map ({tmps:=#[x,pv,.int .i64 1,undef,undef,undef,undef,undef],defers:=[] }:Act).eval) ((#[]:Array Operand).map ({tmps:=#[x,pv,.int .i64 1,undef,undef,undef,undef,undef],defers:=[] }:Act).eval))) w=_;simp only[List.map_toArray,List.map_cons,List.map_nil];rfl
theorem avd x pv u v w:(aL ({tmps:=#[x,pv,.int .i64 1,u,undef,undef,.bool ο,v],defers:=[] }:Act).eval gA[7]).run ah w=.ok (.enter 143 #[x,pv,.int .i64 0,.int .i64 1]) w:=by rw[Nf,Lo.Xr (o:=gA[7]) rfl];simp only[List.map_toArray,List.map_cons,List.map_nil];rfl
theorem ave{go au ow W:Nat}{N}{ps}{pv}{B}w(hB:B<=400000)(hn:n<=12)(hW:1<=W/\W<=1)(hp:ps.length<=100000)(A:Fb w go n au val N)(hP:w.ownsRow ow 208 5 pv ps.length (iT ps))(hG:∀π∈ps,Ci n π)(hS:∀v,v<n->aE B (N v)):Ξ ah 131 #[.slice (θ ⟨go,0,η⟩) n au,pv,.int .i64 W] w λe w'=>(∃ao M,e=.returned (.slice ao W W)/\M6 w' ao W n M/\(∀j,j<W->∀v,v<n->aE (B+1000) (M j v)/\∀t,aC (M j v) t=mN N (j:Int) (W:Int) ps ps.length v t)/\Below w.heap.size w w')\/(¬eH eX w.tape/\∃ch,e=.panicked ch/\ji w'):=by
 obtain rfl:W=1:=by omega
 obtain⟨po,pc,hpv,aex⟩:=au3 hB hn hp A hP hG hS;obtain⟨aAV,aAW,UL,hpt⟩:=aev hP;rw[hpv]at UL;simp only[jU,yE]at UL;obtain⟨rfl,rfl⟩:=UL;obtain⟨x,hx⟩:∃x,x=j4 (θ ⟨go,0,η⟩) n au:=⟨_,rfl⟩;have UM:=ava w;refine aes Lo.PO rfl ?_;rw[<-hx]at aex ⊢;show Az ah 131 F4 _ {tmps:=#[x,pv,.int .i64 1,undef,undef,undef,undef,undef],defers:=[] } w;refine UI (Nc (TY ?_));show ju _ yZ _ [0,1,2] _ _;refine qa (o:=F1) rfl rfl rfl ?_;show ju _ yZ _ [1,2] {tmps:=#[x,pv,.int .i64 1,undef,undef,undef,undef,undef],defers:=[] } w;refine au5 (o:=F2) rfl rfl ?_;refine qa (o:=F3) (v:=rj x pv) rfl rfl (avc x pv w) ?_;refine UI (aer ?_);show ju ah k7 _ (kY (ah.follows .mixedOrders) k7 (w.tape w.drawn (.order 131 1))) {tmps:=#[x,pv,.int .i64 1,undef,undef,undef,undef,rj x pv],defers:=[] } {w with drawn:=w.drawn+1 };rw[aet];by_cases ht:w.tape w.drawn (.order 131 1)%2=0
 .rw[χ ht];refine qa (o:=Be) rfl rfl rfl ?_;refine qa (o:=Bf) rfl rfl rfl ?_;refine Nc (wp_cond (t:=ο) rfl ?_);refine wp_seq (TY ?_);show ju _ gA _ [0,1,2,3,4,5,6,7,8,9] {tmps:=#[x,pv,.int .i64 1,undef,undef,undef,.bool ο,rj x pv],defers:=[] } {w with drawn:=w.drawn+1 };obtain⟨Fc,Ng⟩:∃x,x=({w with drawn:=w.drawn+1 }:υ):=⟨_,rfl⟩;have hs0:Fc.heap.size=w.heap.size:=by rw[Ng]
  rw[<-Ng];refine qa (o:=gA[0]) (w':=Fc.alloc (.cells #[] 189)) rfl rfl rfl ?_;refine qa (o:=gA[1]) (w':=(Fc.alloc (.cells #[] 189)).alloc (.cells #[] 191)) rfl rfl rfl ?_;refine qa (o:=gA[2]) (w':=((Fc.alloc (.cells #[] 189)).alloc (.cells #[] 191)).alloc (.cells #[] 3)) rfl rfl rfl ?_;obtain⟨IX,Nh⟩:∃x,x=((Fc.alloc (.cells #[] 189)).alloc (.cells #[] 191)).alloc (.cells #[] 3):=⟨_,rfl⟩;have hs3:IX.heap.size=w.heap.size+3:=by rw[Nh,<- hs0];simp
  rw[<-Nh];show ju _ gA _ [3,4,5,6,7,8,9] {tmps:=#[x,pv,.int .i64 1,undef,undef,undef,.bool ο,rj x pv],defers:=[] } IX;refine qa (o:=gA[3]) (v:=.slice (θ ⟨w.heap.size+3,0,η⟩) 1 1) (w':=IX.alloc (.cells (fo #[.slice η 0 0] 1) 189)) rfl rfl (by
   rw[Nf,<- hs3];exact Lo.Xp rfl rfl) ?_
  obtain⟨IY,UN⟩:∃x,x=IX.alloc (.cells (fo #[.slice η 0 0] 1) 189):=⟨_,rfl⟩;rw[<-UN];refine qa (o:=gA[4]) (w':=IY.alloc (.cells #[] 194)) rfl rfl rfl ?_;refine qa (o:=gA[5]) (w':=(IY.alloc (.cells #[] 194)).alloc (.cells #[] 217)) rfl rfl rfl ?_;refine qa (o:=gA[6]) (w':=((IY.alloc (.cells #[] 194)).alloc (.cells #[] 217)).alloc (.cells #[] 3)) rfl rfl rfl ?_;have kG:((IY.alloc (.cells #[] 194)).alloc (.cells #[] 217)).alloc (.cells #[] 3)=w7 w:=by rw[UN,Nh,Ng];rfl
  rw[kG];show ju _ gA _ [7,8,9] {tmps:=#[x,pv,.int .i64 1,.slice (θ ⟨w.heap.size+3,0,η⟩) 1 1,undef,undef,.bool ο,rj x pv],defers:=[] } (w7 w);clear kG UN Nh Ng hs3 hs0 IY IX Fc;have hcl:=ad9 (θ ⟨go,0,η⟩) po au pc n N ps 0 1 B hB hn ⟨by omega,by omega⟩ hp (w7 w) (A.read.below UM) (hpt.below UM) hG hS;refine au8 (o:=gA[7]) (args:=#[x,pv,.int .i64 0,.int .i64 1]) rfl rfl (avd x pv _ _ _) (by rw[hx,hpv];exact hcl) ?_;rintro e σ1 ⟨aAX,H,rfl,A1,hH,hb⟩;refine⟨_,rfl,?_⟩;show ju _ gA _ [8,9] {tmps:=#[x,pv,.int .i64 1,.slice (θ ⟨w.heap.size+3,0,η⟩) 1 1,.slice (θ ⟨(w7 w).heap.size,0,η⟩) n n,undef,.bool ο,rj x pv],defers:=[] } σ1;have IZ:Nd w (w.heap.size+3) 1 n N ps B 0 (w7 w):=⟨UM,by omega,by rw[avb];omega,⟨_,aew w,rfl⟩,λj hj=>absurd hj (by omega)⟩;have I:=IZ.step (by omega) hb A1 hH;have hc1:σ1.heap[w.heap.size+3]?=θ (.cells #[.slice η 0 0] 189):=by rw[hb.block _ IZ.hi];exact aew w
  refine qa (o:=gA[8]) rfl rfl (by rw[Nf];exact Lo.YJ (M:=w.heap.size+3) rfl rfl) ?_;show ju _ gA _ [9] {tmps:=#[x,pv,.int .i64 1,.slice (θ ⟨w.heap.size+3,0,η⟩) 1 1,.slice (θ ⟨(w7 w).heap.size,0,η⟩) n n,.pointer (θ ⟨w.heap.size+3,0,η⟩),.bool ο,rj x pv],defers:=[] } σ1;refine au6 (o:=gA[9]) (w':=σ1.setCell ⟨w.heap.size+3,0,η⟩ (.slice (θ ⟨(w7 w).heap.size,0,η⟩) n n)) rfl rfl (by
   rw[Nf,Lo.YK (M:=w.heap.size+3) (sa:=θ ⟨(w7 w).heap.size,0,η⟩) (sl:=n) (sc:=n) rfl rfl rfl];simp[c7,qY,hc1]) ?_
  refine wp_ret ?_;obtain⟨g,base,yx,H2,h1,_,h3,h4⟩:=I.box 0 (by omega);refine⟨rfl,.slice (θ ⟨w.heap.size+3,0,η⟩) 1 1,Lo.YM rfl,.inl ⟨_,λ_=>H2,rfl,.inr ⟨w.heap.size+3,0,rfl,I.hi,λj hj=>?_⟩,λj hj=>?_,I.aQ⟩⟩
  ·(obtain rfl:j=0:=by omega);exact⟨_,_,h1,h3.read⟩
  ·(obtain rfl:j=0:=by omega);exact h4
 .rw[ς ht];refine qa (o:=Bf) rfl rfl rfl ?_;refine qa (o:=Be) rfl rfl rfl ?_;refine Nc (wp_cond (t:=ν) rfl ?_);refine TY ?_;show ju _ Dm _ [0,1] {tmps:=#[x,pv,.int .i64 1,undef,undef,undef,.bool ν,rj x pv],defers:=[] } {w with drawn:=w.drawn+1 };refine qa (o:=JZ) rfl rfl rfl ?_;refine au7 (o:=J0) rfl rfl rfl ?_;refine⟨rfl,.inr ⟨λhz=>ht ?_,_,rfl,w.heap,θ ⟨go,0,η⟩,n,au,po,ps.length,pc,?_,?_⟩⟩
  .rw[hz _ _ (by decide)]
  .rw[<-hx,<- hpv];rfl
  .rw[<-hx,<- hpv];exact aex
open Go.Proofs.Tryz
def oX(g:bg)(p:Nat)(fr:Int)(v:Nat):List gP:=if p=3 then[((g.lives.getD v (0,0)).1,(g.lives.getD v (0,0)).2,(v:Int))]else if(v:Int)=fr then[((g.lives.getD v (0,0)).1,(g.lives.getD v (0,0)).2,0)]else[]
theorem avf(h0:aK g=0)p fr:yl g p fr 0 (oX g p fr)/\∀v,v<g.lives.length->aE 12 (oX g p fr v):=by
 have R:=ei h0;have hn:=R.tF;have hor:=R.hor;have life:∀v,v<g.lives.length->(0<=(g.lives.getD v (0,0)).1/\(g.lives.getD v (0,0)).1<(g.lives.getD v (0,0)).2/\(g.lives.getD v (0,0)).2<=100):=λv hv=>by
  have e:g.lives.getD v (0,0)=g.lives[v]:=by rw[List.getD_eq_getElem?_getD,List.getElem?_eq_getElem hv];rfl
  rw[e];have:=R.life _ (List.getElem_mem hv);omega
 have one:∀v (x:Int),v<g.lives.length->0<=x->x<=12->aE 12 [((g.lives.getD v (0,0)).1,(g.lives.getD v (0,0)).2,x)]:=λv x hv h1 h2=>by
  have:=life v hv;refine⟨⟨by simp only;omega,λq hq=>by simp at hq,trivial⟩,λq hq=>?_,λq hq=>?_⟩
  .rw[List.mem_singleton]at hq;subst hq;simp only;omega
  .rw[List.mem_singleton]at hq;subst hq;simp only;omega
 have sm:∀v,v<g.lives.length->aE 12 (oX g p fr v):=λv hv=>by
  unfold oX;split
  .exact one v v hv (by omega) (by omega)
  .split
   .exact one v 0 hv (by omega) (by omega)
   .exact MO 12
 refine⟨λv hv=>⟨(sm v hv).canon,λt=>?_⟩,sm⟩;have e:(bH g p fr 0 t).getD v 0=if(cU t g.lives).getD v ο=ν then yj p fr v else 1099511627776:=zD _ _ v (by rw[nh];exact hv)
 have ha:(cU t g.lives).getD v ο=ν↔(g.lives.getD v (0,0)).1<=t/\t<(g.lives.getD v (0,0)).2:=by have h1:=pJ t g.lives v hv;unfold bl at h1;rw[Int.toNat_natCast]at h1;rw[h1,nW,List.getD_eq_getElem?_getD,List.getElem?_eq_getElem hv];rfl
 have tl:∀x:Int,aC [((g.lives.getD v (0,0)).1,(g.lives.getD v (0,0)).2,x)] t=if(cU t g.lives).getD v ο=ν then θ x else none:=λx=>by
  rw[jm,zz];by_cases hx:(g.lives.getD v (0,0)).1<=t/\t<(g.lives.getD v (0,0)).2
  .rw[χ (ha.2 hx),(nX _ _).2 hx];rfl
  .rw[ς (λh=>hx (ha.1 h)),show dh ((g.lives.getD v (0,0)).1,(g.lives.getD v (0,0)).2,x) t=ο from by rw[<-Bool.not_eq_true,nX];exact hx];rfl
 show aC (oX g p fr v) t=nA ((bH g p fr 0 t).getD v 0);rw[e];unfold oX yj;by_cases h3:p=3
 .rw[χ h3,tl,χ h3];split
  .unfold nA;rw[χ (by omega)]
  .rfl
 .rw[ς h3,ς h3];unfold nY;by_cases hf:(v:Int)=fr
  .rw[χ hf,tl,χ hf];split<;>rfl
  .rw[ς hf,ς hf,zz];split<;>rfl
theorem Ni{p:Prop}(h:Hid p):p:=h
theorem aey{T:Θ}{b}{x}(hb:b=W.heap.size)(hx:cs[j]?=θ x):(W.alloc (.cells cs T)).cell? ⟨b,j,η⟩=θ x:=by subst hb;simp[hx]
theorem avg(W:υ)f t x:(W.alloc (.cells #[.int .i64 f,.int .i64 t,.int .i64 x] 176)).ownsRow W.heap.size 176 3 (.slice (θ ⟨W.heap.size,0,η⟩) 1 1) 1 (bV [(f,t,x)]):=
 ⟨by simp[bV,pK],.inr ⟨W.heap.size,1,#[.int .i64 f,.int .i64 t,.int .i64 x],rfl,Nat.le_refl _,heap_alloc_new W _,Nat.le_refl _,by unfold maxLen;omega,rfl,by simp[bV,pK]⟩⟩
theorem avh g la ea (lc ec p:Nat)fr w(hG:cL w la ea g)(h0:aK g=0):Ξ ah 128 #[.agg #[.int .i64 g.hor,.slice la g.lives.length lc,.slice ea g.af.length ec],.int .i64 p,.int .i64 fr] w λr w'=>∃go val T,r=.returned (.slice (θ ⟨go,0,η⟩) g.lives.length g.lives.length)/\cZ w' w.heap.size go g.lives.length val T/\(∀v,v<g.lives.length->T v=oX g p fr v)/\Below w.heap.size w w':=by
 obtain⟨i1,hi',hy0,hy1,hy2⟩:=er Tryz.II;have vY:=(ei h0).tF;obtain⟨w1,hw1⟩:∃x,x=w.alloc (.cells #[.int .i64 g.hor,.slice la g.lives.length lc,.slice ea g.af.length ec] 59):=⟨_,rfl⟩;have bD:s7 w w1 w.heap.size g la ea lc ec:=by rw[hw1];exact xW w g la ea lc ec _
 have g1:=bD.c1;have hs1:w1.heap.size=w.heap.size+1:=by rw[hw1];simp
 have cH:=aa hG;have aS:=aa bD;have cY:=hw1.symm;clear hG h0 hw1 bD;go_enter alf,ntmps128;go_wp2_with(at_make;refine uh _ rfl _ _ 189 rfl w1.heap.size 127 i1 (.slice η 0 0) 1 ((cD 189).trans underlying189) hi' hy0 hy1 .i64 .i64 _ _ g.lives.length rfl rfl rfl rfl (by rw[hy2];omega) (by unfold maxLen;omega) (by omega) ?_;intro w0 dL j9;refine Ni ?_);refine aa ?_;have uU:=aa (MY dL);have hb0:Below w1.heap.size w1 w0:=(Below.refl w1.heap.size w1).grown j9 (Nat.le_refl _) (λk hk=>by cases hk);have aA:=aS.out.below hb0;have Em:=aA.c1;have bS:=aa hb0;clear dL j9 g1 cY hb0;go_wp2_with fail;clear Em aA;go_loopw [17] (λi wr=>∃(k:Nat) (val:Nat->ay) (T:Nat->List gP),k<=g.lives.length/\i=.int .i64 k/\cZ wr w1.heap.size w1.heap.size g.lives.length val T/\(∀v,v<g.lives.length->T v=if v<k then oX g p fr v else[])/\Below w1.heap.size w1 wr) (λi _=>g.lives.length-(intOf i).toNat)
 case atStart=>exact⟨0,_,_,Nat.zero_le _,rfl,uU.out,λv hv=>by simp,bS.out⟩
 case round=>
  clear uU bS;obtain⟨k,val,T,hk,rfl,hA,hI,hb⟩:=hrel;by_cases bp:k<g.lives.length
  ·(have hki:(k:Int)<(g.lives.length:Int):=by omega);have LY:IntKind.i64.wrap ((k:Int)+1)=(k:Int)+1:=apq _ (by omega) (by omega);have eW:=aS.out.below hb;obtain⟨lb,cC,rfl,hlb,l0,l1⟩:∃b off,la=θ ⟨b,off,η⟩/\b<wr.heap.size/\(wr.cell? ⟨b,off+k*2,η⟩=θ (.int .i64 g.lives[k].1)/\wr.cell? ⟨b,off+k*2+1,η⟩=θ (.int .i64 g.lives[k].2)):=by
    rcases(cH.out.below eW.aQ).lv with h0|⟨b,off,rfl,cp,hc⟩
    .rw[h0]at bp;simp at bp
    exact⟨b,off,rfl,cp,eg.get bp hc⟩
   (have hgd:g.lives.getD k (0,0)=g.lives[k]:=by rw[List.getD_eq_getElem?_getD,List.getElem?_eq_getElem bp];rfl);(have aJ:Hid (oX g p fr k=if p=3 then[(g.lives[k].1,g.lives[k].2,(k:Int))]else if(k:Int)=fr then[(g.lives[k].1,g.lives[k].2,0)]else[]):=by show _=_;unfold oX;rw[hgd]);have cu:=aa hA;have bu:=aa hI;have aD:=aa hb;have hsz:=hb.size;generalize g.lives[k].1=f1 at*;generalize g.lives[k].2=f2 at*;obtain⟨wa,bY⟩:∃x,x=wr.alloc (.cells #[.int .i64 f1,.int .i64 f2] 109):=⟨_,rfl⟩;(have hba:Below wr.heap.size wr wa:=by rw[bY];exact ax wr _);(have y0:wa.cell? ⟨wr.heap.size,0,η⟩=θ (.int .i64 f1):=by rw[bY];exact aey rfl rfl);(have y1:wa.cell? ⟨wr.heap.size,1,η⟩=θ (.int .i64 f2):=by rw[bY];exact aey rfl rfl);have kS:Hid (oX g p fr k=[]->∃val' aM,cZ wa w1.heap.size w1.heap.size g.lives.length val' aM/\(∀v,v<g.lives.length->aM v=if v<k+1 then oX g p fr v else[])/\Below w1.heap.size w1 wa):=by
    intro h0;refine⟨val,T,cu.out.below hba,λv hv=>?_,aD.out.trans (hba.mono aD.out.size)⟩;rw[bu.out v hv];by_cases e:v=k
    .subst e;rw[ς (by omega),χ (by omega),h0]
    .by_cases e2:v<k
     .rw[χ e2,χ (by omega)]
     .rw[ς e2,ς (by omega)]
   have n9:Hid (∀x:Int,oX g p fr k=[(f1,f2,x)]->∃val' aM,cZ ((wa.alloc (.cells #[.int .i64 f1,.int .i64 f2,.int .i64 x] 176)).setCell ⟨w1.heap.size,k,η⟩ (.slice (θ ⟨wa.heap.size,0,η⟩) 1 1)) w1.heap.size w1.heap.size g.lives.length val' aM/\(∀v,v<g.lives.length->aM v=if v<k+1 then oX g p fr v else[])/\Below w1.heap.size w1 ((wa.alloc (.cells #[.int .i64 f1,.int .i64 f2,.int .i64 x] 176)).setCell ⟨w1.heap.size,k,η⟩ (.slice (θ ⟨wa.heap.size,0,η⟩) 1 1))):=by
    intro x h0;have aq:Below wr.heap.size wr (wa.alloc (.cells #[.int .i64 f1,.int .i64 f2,.int .i64 x] 176)):=bK hba (ax wa _);refine⟨_,_,cZ.set cu.out bp aq aD.out.size (r:=[(f1,f2,x)]) (gJ (avg wa f1 f2 x) hba.size),λv hv=>?_,(aD.out.trans (aq.mono aD.out.size)).setCell (p:=⟨w1.heap.size,k,η⟩) (Nat.le_refl _) _⟩;by_cases e:v=k
    .subst e;rw[yh,χ (by omega),h0]
    .rw[wq _ _ e,bu.out v hv];by_cases e2:v<k
     .rw[χ e2,χ (by omega)]
     .rw[ς e2,ς (by omega)]
   have yq:=λo=>(cu.out.below (bK hba (ax wa o))).out bp;have hfz:=λo=>mX (cE hA.own (bK hba (ax wa o))) k;rw[hs1]at yq hfz n9;have zR:=bY.symm;clear hA hI hb eW bY hba hgd;by_cases p3:p=3
   .subst p3;have bx:=aa (n9.out (k:Int) (by rw[aJ.out,χ rfl]));go_wp2_with fail;obtain⟨val',aM,a1,a2,a3⟩:=bx.out;exact⟨⟨k+1,val',aM,by omega,by go_num,by rw[hs1];exact a1,a2,by rw[hs1];exact a3⟩,by simp[intOf];omega⟩
   ·(have aez:((p:Int)==3)=false:=by simp;omega);by_cases pf:(k:Int)=fr
    .have bx:=aa (n9.out 0 (by rw[aJ.out,ς p3,χ pf]));(have avi:((k:Int)==fr)=true:=by simpa using pf);clear pf;go_wp2_with fail;obtain⟨val',aM,a1,a2,a3⟩:=bx.out;exact⟨⟨k+1,val',aM,by omega,by go_num,by rw[hs1];exact a1,a2,by rw[hs1];exact a3⟩,by simp[intOf];omega⟩
    .have bx:=aa (kS.out (by rw[aJ.out,ς p3,ς pf]));(have avi:((k:Int)==fr)=false:=by simpa using pf);clear pf;go_wp2_with fail;obtain⟨val',aM,a1,a2,a3⟩:=bx.out;exact⟨⟨k+1,val',aM,by omega,by go_num,a1,a2,a3⟩,by simp[intOf];omega⟩
  ·(have c6:k=g.lives.length:=by omega);subst c6;have cu:=aa hA;have aD:=aa (aS.out.below hb).aQ;(have bu:Hid (∀v,v<g.lives.length->T v=oX g p fr v):=λv hv=>by rw[hI v hv,χ hv]);have fN:=aa aS.out.aQ.size;clear hA hb hI;go_wp2;go_ret;exact⟨w.heap.size+1,_,_,rfl,by rw[<-hs1];exact cu.out.base fN.out,bu.out,aD.out⟩
theorem avj base go n cap val T w(hA:cZ w base go n val T)(hn:n<=12):Ξ ah 130 #[.slice (θ ⟨go,0,η⟩) n cap] w λe w'=>∃g2 c2,e=.returned (.slice (θ ⟨g2,0,η⟩) n c2)/\w'.ownsRow w.heap.size 127 1 (.slice (θ ⟨g2,0,η⟩) n c2) n ((List.range n).map val)/\Below w.heap.size w w':=by
 obtain⟨i0,hi,cg,hz1,bX⟩:=er Tryz.II;have asp:∀(w:υ) (a:Option bP) (n c n' c':Nat),(binOp .eql 189 (.slice a n c) (.slice η n' c')).run ah w=.ok (.bool a.isNone) w:=λw a n c n' c'=>Lib.run_eql_slice_nil w _ _ a n c n' c' ((cD 189).trans underlying189);have hc:∀o,∀j u,((List.range n).map val)[j]?=θ u->(w.alloc o).cell? ((⟨go,0,η⟩:bP).add j)=θ u:=λo j u h=>by
  have hj:j<n:=by have:=(List.getElem?_eq_some_iff.1 h).1;simpa using this
  have e:u=val j:=by simp[hj]at h;exact h.symm
  subst e;have:=(hA.below (ax w o)).out hj;by_cases h0:j=0
  .subst h0;simpa[jT]using this
  .simpa[jT,h0]using this
 have ak:=aa hc;have hone:∀u∈(List.range n).map val,u.oneCell'=true:=by intro u hu;rw[List.mem_map]at hu;obtain⟨z,hz,rfl⟩:=hu;obtain⟨a,c,h1,_⟩:=j6 (hA.lV z (List.mem_range.1 hz));rw[h1];rfl
 have TH:Hid (((List.range n).map val).length=n*1):=by show _=_;simp
 have TG:=aa hone;clear hc hone hA;go_enter alh,ntmps130;go_wp2_with(at_builtin;refine x7 _ rfl _ _ 189 rfl w.heap.size 127 i0 (.slice η 0 0) 1 24 ((cD 189).trans underlying189) hi cg hz1 bX rfl (by decide) _ _ _ rfl (World.ownsRow_made w #[] 0 (Nat.le_refl _) (Nat.zero_le _) rfl) ⟨go,0,η⟩ n cap ((List.range n).map val) rfl TH.out (ak.out _) TG.out (by unfold maxLen;omega) (by omega) (by simp) ?_;intro v' w1 hown hgrow hnil);have hb:Below w.heap.size w w1:=((Below.refl _ w).alloc (Nat.le_refl _) _).grown hgrow (by simp) (λk hk=>by cases hk;exact Nat.le_refl _);have R:w1.ownsRow w.heap.size 127 1 v' n ((List.range n).map val):=by simpa using hown
 have hno:v'≠.slice η 0 0:=λe=>by have:=(hnil.1 e).1;cases this
 obtain⟨g2,c2,rfl⟩:∃g2 c2,v'=.slice (θ ⟨g2,0,η⟩) n c2:=by
  rcases R.2 with⟨h,_⟩|⟨g2,c2,cur,h,_⟩
  .exact absurd h hno
  .exact⟨g2,c2,h⟩
 clear hown hgrow hnil hno;go_wp2;go_ret;exact⟨g2,c2,rfl,R,hb⟩
open Lo (eH)
theorem avk{ow size go}{v}(h:w.ownsRow ow e size v n xs)(hf:r4 go w w')(hg:go<ow):w'.ownsRow ow e size v n xs:=by
 refine⟨h.1,?_⟩;rcases h.2 with h2|⟨g,cap,cur,rfl,hb,hh,h3⟩
 .exact .inl h2
 .exact .inr ⟨g,cap,cur,rfl,hb,(hf.block g (ξ.1 hh).1 (by omega)).trans hh,h3⟩
structure yA(g:bg)(p:Nat)(fr:Int)(w0:υ)(base go ow:Nat)(pv:ay)(r tH au:Nat)(σ:υ):Prop where
 aQ:Below w0.heap.size w0 σ
 lo:w0.heap.size<=base
 told:∃val T,cZ σ base go g.lives.length val T/\yl g p fr r T/\∀v,v<g.lives.length->aE (12+1000*(r:Int)) (T v)
 news:∃val N,Fb σ tH g.lives.length au val N/\wA g p fr r N/\∀v,v<g.lives.length->aE (12+1000*(r:Int)) (N v)
 paths:σ.ownsRow ow 208 5 pv (eR g p).length (iT (eR g p))
 far:go<ow
 mov:r=0\/∃t:Nat,(t:Int)<g.hor/\¬bH g p fr (r- 1+1) t=bH g p fr (r- 1) t
 few:r<=g.lives.length
theorem avl(h0:aK g=0){p}{fr}{W}{T N H N':Nat->List gP}{M:Nat->Nat->List gP}{B B':Int}(hW:1<=W)(hr:r<=1000000)(hT:yl g p fr r T)(hN:wA g p fr r N)(hM:∀j,j<W->∀v,v<g.lives.length->aE B (M j v)/\∀t,aC (M j v) t=mN N (j:Int) (W:Int) (eR g p) (eR g p).length v t)(hH:∀v,v<g.lives.length->aE B (H v)/\∀t,aC (H v) t=oq M W v t)(aeA :∀v,v<g.lives.length->aE B' (N' v)/\∀t,aC (N' v) t=js (aC (T v) t) (aC (H v) t)):wA g p fr (r+1) N':=
 abI h0 hr hT (asa h0 hW hN (λj hj v hv t=>(hM j hj v hv).2 t) (λv hv=>(hH v hv).1.canon) (λv hv=>(hH v hv).2)) (λv hv=>(aeA v hv).1.canon) (λv hv=>(aeA v hv).2)
theorem yA.next(h0:aK g=0){p}{fr}{σ UO I0}{base go ow go2 E8}{pv}{tH au}{T N' aM}{yx val'}(I:yA g p fr w0 base go ow pv r tH au σ)(hb4:Below σ.heap.size σ UO)(hT:yl g p fr r T)(hN:wA g p fr (r+1) N')(hNs:∀v,v<g.lives.length->aE (12+1000*(r:Int)+1000) (N' v))(hne:¬∀v,v<g.lives.length->N' v=[])(avm:cZ I0 base go g.lives.length val' aM)(lq :∀v,v<g.lives.length->aE (12+1000*(r:Int)+1000) (aM v)/\∀t,aC (aM v) t=iG 1 (aC (T v) t) (aC (N' v) t))(avn:cZ I0 E8 go2 g.lives.length yx N')(bT:Below base UO I0)(hf:r4 go UO I0):yA g p fr w0 base go ow pv (r+1) go2 g.lives.length I0:=by
 obtain⟨v,hv,mg⟩:∃v,v<g.lives.length/\N' v≠[]:=wM λh=>hne λv hv=>wM λh2=>h ⟨v,hv,h2⟩;have e:(12+1000*(r:Int)+1000)=12+1000*((r+1:Nat):Int):=by omega
 rw[e]at hNs lq;refine⟨(I.aQ.trans (hb4.mono I.aQ.size)).trans (bT.mono I.lo),I.lo,⟨val',aM,avm,arS h0 hT hN (λv hv=>(lq v hv).1.canon) (λv hv t=>by rw[(lq v hv).2 t,as5]),λv hv=>(lq v hv).1⟩,⟨yx,N',avn.qL,hN,hNs⟩,avk (cE I.paths hb4) hf I.far,I.far,.inr ?_,?_⟩
 .rw[show r+1- 1=r from rfl];exact as4 h0 hN hv mg
 .have:=arU h0 hN hv mg;omega
theorem yA.first(h0:aK g=0){p}{fr}{σ}{base go ow}{pv}{tH au HT}{T}(aQ:Below w0.heap.size w0 σ)(lo:w0.heap.size<=base)(A:cZ σ base go g.lives.length val T)(hT:∀v,v<g.lives.length->T v=oX g p fr v)(hN:σ.ownsRow HT 127 1 (.slice (θ ⟨tH,0,η⟩) g.lives.length au) g.lives.length ((List.range g.lives.length).map val))(hP:σ.ownsRow ow 208 5 pv (eR g p).length (iT (eR g p)))(far:go<ow):yA g p fr w0 base go ow pv 0 tH au σ:=by
 obtain⟨f1,f2⟩:=avf h0 p fr;have t1:yl g p fr 0 T:=λv hv=>by rw[hT v hv];exact f1 v hv
 have t2:∀v,v<g.lives.length->aE (12+1000*((0:Nat):Int)) (T v):=λv hv=>by rw[hT v hv];exact(f2 v hv).mono (by omega)
 exact⟨aQ,lo,⟨val,T,A,t1,t2⟩,⟨val,T,⟨⟨HT,hN⟩,λv hv=>⟨base,A.lV v hv⟩⟩,t1,t2⟩,hP,far,.inl rfl,Nat.zero_le _⟩
def UP(g:bg)(la ea:Option bP)(lc ec p:Nat):Prop:=
 ∀w',cL w' la ea g->Ξ ah 129 #[.agg #[.int .i64 g.hor,.slice la g.lives.length lc,.slice ea g.af.length ec],.int .i64 p] w' λe w''=>∃v,e=.returned v/\w''.ownsRow w'.heap.size 208 5 v (eR g p).length (iT (eR g p))/\Below w'.heap.size w' w''
theorem avo g la ea(lc ec p W:Nat)fr w(hG:cL w la ea g)(hE:gh g p fr=0)(h0:aK g=0)(hW:1<=W/\W<=1)(I1:UP g la ea lc ec p):Ξ ah 112 #[.agg #[.int .i64 g.hor,.slice la g.lives.length lc,.slice ea g.af.length ec],.int .i64 p,.int .i64 fr,.int .i64 W] w λe w'=>(∃go val T r,e=.returned (.tuple #[.slice (θ ⟨go,0,η⟩) g.lives.length g.lives.length,.int .i64 r,.int .i64 0])/\cZ w' w.heap.size go g.lives.length val T/\(∀v,v<g.lives.length->T v=fT g p fr v g.hor.toNat)/\r=rS g p fr g.hor.toNat/\Below w.heap.size w w')\/(¬eH eX w.tape/\∃ch,e=.panicked ch/\ji w'):=by
 obtain⟨w1,hw1⟩:∃x,x=w.alloc (.cells #[.int .i64 g.hor,.slice la g.lives.length lc,.slice ea g.af.length ec] 59):=⟨_,rfl⟩;have aA:s7 w w1 w.heap.size g la ea lc ec:=by rw[hw1];exact xW w g la ea lc ec 59
 have vY:=(ei h0).tF;have h1:=adM g la ea lc ec p fr _ (hG.below aA.aQ);rw[hE]at h1;have cH:=aa hG;have aS:=aa aA;have H0:=aa h0;have avp:=aa I1;have fN:=aa hW;have g0:=aA.c0;have g1:=aA.c1;have g2:=aA.c2;have cY:=hw1.symm;have d1:decide ((W:Int)<1)=false:=by simp;omega
 have d2:decide ((64:Int)<W)=false:=by simp;omega
 clear hG aA hw1 hE h0 I1 hW;go_enter YC,ntmps112;go_wp2_with fail;refine h1.mono ?_;rintro e w2 ⟨rfl,aq⟩;have bt:=aS.out.below aq;clear h1 cY g0 g1 g2;have g0:=bt.c0;have g1:=bt.c1;have g2:=bt.c2;go_wp2_with fail;refine(avh g la ea lc ec p fr _ (cH.out.below bt.aQ) H0.out).mono ?_;rintro e w3 ⟨go,val,T,rfl,nE,hT,aB⟩;have gN:=bt.below aB;clear g0 g1 g2;have g0:=gN.c0;have g1:=gN.c1;have g2:=gN.c2;go_wp2_with fail;refine(avp.out _ (cH.out.below gN.aQ)).mono ?_;rintro e w4 ⟨pv,rfl,tA,hb4⟩;have UQ:=nE.below hb4;go_wp2_with fail;refine(avj _ go _ _ val T w4 UQ vY).mono ?_;rintro e aO ⟨tH,au,rfl,aeB,bT⟩;have IZ:yA g p fr w w2.heap.size go w3.heap.size pv 0 tH au aO:=yA.first H0.out (bK (gN.below hb4).aQ bT) (bt.aQ.size) (UQ.below bT) hT aeB (cE tA bT) ((kL nE.own go rfl).2)
 have Me:=aa IZ;have ID:=aa bt.aQ.size;clear g0 g1 g2 IZ UQ aeB tA bT hb4 aB aq nE hT bt gN aS;go_wp2_with fail;go_loopw [14,15,16] (λnv rd _ wr=>∃r tH au:Nat,nv=.slice (θ ⟨tH,0,η⟩) g.lives.length au/\rd=.int .i64 (r:Int)/\yA g p fr w w2.heap.size go w3.heap.size pv r tH au wr) (λ_ rd _ _=>g.lives.length-(intOf rd).toNat)
 case atStart=>exact⟨0,tH,au,rfl,rfl,Me.out⟩
 case round=>
  obtain⟨r,aAY,aAZ,rfl,rfl,I⟩:=hrel;have aA0:r<=12:=Nat.le_trans I.few vY;obtain⟨UR,T1,AT,Fe,sT⟩:=I.told;obtain⟨aA1,aA2,AN,hN1,US⟩:=I.news;have bu:=aa I;have wG:=aa Fe;have HW:=aa hN1;have hgo:=(kL AT.own go rfl).2;clear Me Fe hN1;go_wp2_with fail;refine(ave wr (B:=12+1000*(r:Int)) (by omega) vY fN.out (Nat.le_trans (as6 H0.out p) (by omega)) AN I.paths (λπ fc=>Tx H0.out fc) US).mono ?_;clear I;rintro e bW (⟨ao,M,rfl,UT,hM,dD⟩|⟨hz,ch,rfl,hd⟩)
  .go_wp2_with fail;refine(auG ao W W g.lives.length M (12+1000*(r:Int)+1000) (by omega) vY fN.out.2 bW UT (λj hj v hv=>(hM j hj v hv).1)).mono ?_;rintro e w7 ⟨aA3,avq,rfl,UU,Nj,ko⟩;go_wp2_with fail;refine(auT (θ ⟨go,0,η⟩) (θ ⟨bW.heap.size,0,η⟩) _ _ _ T1 avq (12+1000*(r:Int)+1000) (by omega) vY w7 (AT.read.below (bK dD ko)) UU.read (λv hv=>(sT v hv).mono (by omega)) (λv hv=>(Nj v hv).1)).mono ?_;rintro e jf ⟨avr,I2,rfl,Nk,Cj,AA⟩;have n8:=avl H0.out fN.out.1 (by omega) wG.out HW.out hM Nj Cj;go_wp2_with fail;refine(atL _ _ _ I2 jf Nk.read vY).mono ?_;rintro e uG ⟨rfl,yB⟩;have Ff:Below wr.heap.size wr uG:=bK (bK (bK dD ko) AA) yB;have avs:go<w7.heap.size:=Nat.lt_of_lt_of_le hgo (bK dD ko).size;by_cases hne:∀v,v<g.lives.length->I2 v=[]
   ·(have hnb:yp g.lives.length I2=true:=by unfold yp;exact CR hne);rw[hnb];have hst:=arT H0.out n8 hne;have aJ:Hid (cZ uG w.heap.size go g.lives.length UR T1/\(∀v,v<g.lives.length->T1 v=fT g p fr v g.hor.toNat)/\(r:Int)=rS g p fr g.hor.toNat/\Below w.heap.size w uG):=⟨(AT.below Ff).base ID.out,λv hv=>as3 H0.out wG.out hst hv,(arZ H0.out hst bu.out.mov).symm,bu.out.aQ.trans (Ff.mono bu.out.aQ.size)⟩;clear hst hne n8 hM Nj Cj UU Nk UT dD ko AA yB Ff sT US AT AN;go_wp2;refine cR (v:=.tuple #[.slice (θ ⟨go,0,η⟩) g.lives.length g.lives.length,.int .i64 (r:Int),.int .i64 0]) (by simp[results,results112,go_sem]) rfl (.inl ⟨go,UR,T1,r,rfl,aJ.out.1,aJ.out.2.1,aJ.out.2.2.1,aJ.out.2.2.2⟩)
   ·(have hnb:yp g.lives.length I2=false:=by unfold yp;exact AG hne);rw[hnb];go_wp2_with fail;refine(auD w2.heap.size go g.lives.length _ w7.heap.size w7.heap.size _ UR avr T1 I2 (12+1000*(r:Int)+1000) (by omega) vY uG (AT.below Ff) (Nk.below yB) avs (λv hv=>(sT v hv).mono (by omega)) (λv hv=>(Cj v hv).1)).mono ?_;rintro e zS ⟨rfl,val',aM,aeC,lq,aeD,I3,aeE⟩;(have UW:=yA.next H0.out bu.out Ff wG.out n8 (λv hv=>(Cj v hv).1) hne aeC lq aeD I3 aeE);have aA4:=UW.few;have avt:=aa UW;clear UW n8 hM Nj Cj UU Nk UT dD ko AA yB Ff sT US AT AN aeC aeD lq I3 aeE;(have api :IntKind.i64.wrap ((r:Int)+1)=(r:Int)+1:=by rw[IntKind.wrap_i64];omega);go_wp2_with fail;exact⟨⟨r+1,_,_,rfl,by go_num,avt.out⟩,by simp[intOf];omega⟩
  .exact⟨rfl,.inr ⟨λh=>hz (by rw[bu.out.aQ.tape];exact h),ch,rfl,hd⟩⟩
theorem avu g la ea lc ec p fr W w(hG:cL w la ea g)(hE:gh g p fr≠0):Ξ ah 112 #[.agg #[.int .i64 g.hor,.slice la g.lives.length lc,.slice ea g.af.length ec],.int .i64 p,.int .i64 fr,.int .i64 W] w λe w'=>e=.returned (.tuple #[.slice η 0 0,.int .i64 0,.int .i64 (gh g p fr)])/\Below w.heap.size w w':=by
 obtain⟨w1,hw1⟩:∃x,x=w.alloc (.cells #[.int .i64 g.hor,.slice la g.lives.length lc,.slice ea g.af.length ec] 59):=⟨_,rfl⟩;have aA:s7 w w1 w.heap.size g la ea lc ec:=by rw[hw1];exact xW w g la ea lc ec 59
 have h1:=adM g la ea lc ec p fr _ (hG.below aA.aQ);generalize gh g p fr=x at*;have aS:=aa aA;have g0:=aA.c0;have g1:=aA.c1;have g2:=aA.c2;have cY:=hw1.symm;have e1:(x==0)=false:=by simpa using hE
 clear hG aA hw1;go_enter YC,ntmps112;go_wp2_with fail;refine h1.mono ?_;rintro e w2 ⟨rfl,aq⟩;have aJ:=aa (aS.out.below aq).aQ;clear h1 cY g0 g1 g2 aq aS;go_wp2;exact cR (v:=.tuple #[.slice η 0 0,.int .i64 0,.int .i64 x]) (by simp[results,results112,go_sem]) rfl ⟨rfl,aJ.out⟩
theorem avv g la ea lc ec p fr w(hG:cL w la ea g)(hE:gh g p fr≠0):Ξ ah 79 #[.agg #[.int .i64 g.hor,.slice la g.lives.length lc,.slice ea g.af.length ec],.int .i64 p,.int .i64 fr] w λe w'=>e=.returned (.tuple #[.slice η 0 0,.int .i64 0,.int .i64 (gh g p fr)])/\Below w.heap.size w w':=by
 obtain⟨w1,hw1⟩:∃x,x=w.alloc (.cells #[.int .i64 g.hor,.slice la g.lives.length lc,.slice ea g.af.length ec] 59):=⟨_,rfl⟩;have aA:s7 w w1 w.heap.size g la ea lc ec:=by rw[hw1];exact xW w g la ea lc ec 59
 have h1:=avu g la ea lc ec p fr 1 _ (hG.below aA.aQ) hE;have aS:=aa aA;have g0:=aA.c0;have g1:=aA.c1;have g2:=aA.c2;have cY:=hw1.symm;clear hG aA hw1;go_enter Yv,ntmps79;go_wp2_with fail;refine h1.mono ?_;rintro e w2 ⟨rfl,aq⟩;have aJ:=aa (aS.out.below aq).aQ;clear h1 cY g0 g1 g2 aq aS;go_wp2;exact cR (v:=.tuple #[.slice η 0 0,.int .i64 0,.int .i64 (gh g p fr)]) (by simp[results,results79,go_sem]) rfl ⟨rfl,aJ.out⟩
theorem avw g la ea (lc ec p:Nat)fr w(hG:cL w la ea g)(hE:gh g p fr=0)(h0:aK g=0)(I1:UP g la ea lc ec p):Ξ ah 79 #[.agg #[.int .i64 g.hor,.slice la g.lives.length lc,.slice ea g.af.length ec],.int .i64 p,.int .i64 fr] w λe w'=>(∃go val T r,e=.returned (.tuple #[.slice (θ ⟨go,0,η⟩) g.lives.length g.lives.length,.int .i64 r,.int .i64 0])/\cZ w' w.heap.size go g.lives.length val T/\(∀v,v<g.lives.length->T v=fT g p fr v g.hor.toNat)/\r=rS g p fr g.hor.toNat/\Below w.heap.size w w')\/(¬eH eX w.tape/\∃ch,e=.panicked ch/\ji w'):=by
 obtain⟨w1,hw1⟩:∃x,x=w.alloc (.cells #[.int .i64 g.hor,.slice la g.lives.length lc,.slice ea g.af.length ec] 59):=⟨_,rfl⟩;have aA:s7 w w1 w.heap.size g la ea lc ec:=by rw[hw1];exact xW w g la ea lc ec 59
 have h1:=avo g la ea lc ec p 1 fr _ (hG.below aA.aQ) hE h0 (by omega) I1;have aS:=aa aA;have g0:=aA.c0;have g1:=aA.c1;have g2:=aA.c2;have cY:=hw1.symm;clear hG aA hw1 hE h0 I1;go_enter Yv,ntmps79;go_wp2_with fail;refine h1.mono ?_;rintro e w2 (⟨go,val,T,r,rfl,I4,hT,hr,aq⟩|⟨hz,ch,rfl,hd⟩)
 .have aJ:=aa (aS.out.below aq).aQ;have cu:=aa (I4.base aS.out.aQ.size);have aX:=aa hT;have bI:=aa hr;clear h1 cY g0 g1 g2 aq aS I4 hT hr;go_wp2;exact cR (v:=.tuple #[.slice (θ ⟨go,0,η⟩) g.lives.length g.lives.length,.int .i64 r,.int .i64 0]) (by simp[results,results79,go_sem]) rfl (.inl ⟨go,val,T,r,rfl,cu.out,aX.out,bI.out,aJ.out⟩)
 .exact⟨rfl,.inr ⟨λh=>hz (by rw[aS.out.aQ.tape];exact h),ch,rfl,hd⟩⟩
theorem mO{T:Θ}{b}{x}(hb:b=W.heap.size)(hx:cs[j]?=θ x):(W.alloc (.cells cs T)).cell? ⟨b,j,η⟩=θ x:=by subst hb;simp[hx]
theorem avx{T:Θ}{b}(hb:b=W.heap.size):(W.alloc (.cells cs T)).frozen? ⟨b,j,η⟩=false:=by subst hb;simp
theorem UX(h:Below w.heap.size w W){b}(hb:w.heap.size<=b)x0 x1 x2 x3 iy o:Below w.heap.size w ((((((W.setCell ⟨b,0,η⟩ x0).setCell ⟨b,1,η⟩ x1).setCell ⟨b,2,η⟩ x2).setCell ⟨b,3,η⟩ x3).setCell ⟨b,4,η⟩ iy).alloc o):=by have h5:=((((h.setCell (p:=⟨b,0,η⟩) hb x0).setCell (p:=⟨b,1,η⟩) hb x1).setCell (p:=⟨b,2,η⟩) hb x2).setCell (p:=⟨b,3,η⟩) hb x3).setCell (p:=⟨b,4,η⟩) hb iy;exact h5.alloc h5.size o
structure I5(w W:υ)(A B:Nat)(l1 l2 l4:Int):Prop where
 e0:W.cell? ⟨w.heap.size+1,0,η⟩=θ (.int .i64 (A:Int))
 e1:W.cell? ⟨w.heap.size+1,1,η⟩=θ (.int .i64 (B:Int))
 l0:W.cell? ⟨w.heap.size+1+1,0,η⟩=θ (.int .i64 l1)
 l1:W.cell? ⟨w.heap.size+1+1,1,η⟩=θ (.int .i64 l2)
 l3:W.cell? ⟨w.heap.size+1+1,3,η⟩=θ (.int .i64 l4)
 r:∀j,j<5->W.cell? ⟨w.heap.size+1+1+1,j,η⟩=θ (.int .i64 0)
 fz:∀j,W.frozen? ⟨w.heap.size+1+1+1,j,η⟩=ο
 aQ:Below w.heap.size w W
 lt:w.heap.size+1+1+1<W.heap.size
theorem I5.below{A}{l1 l2 l4}(h:I5 w W A B l1 l2 l4)(hb:Below W.heap.size W W'):I5 w W' A B l1 l2 l4:=by have hl:=h.lt;have hs:=hb.size;have q:∀b j x,b<W.heap.size->W.cell? ⟨b,j,η⟩=θ x->W'.cell? ⟨b,j,η⟩=θ x:=λb j x hlt hx=>(hb.cell (p:=⟨b,j,η⟩) hlt).trans hx;exact⟨q _ _ _ (by omega) h.e0,q _ _ _ (by omega) h.e1,q _ _ _ (by omega) h.l0,q _ _ _ (by omega) h.l1,q _ _ _ (by omega) h.l3,λj hj=>q _ _ _ (by omega) (h.r j hj),λj=>(hb.frozen (p:=⟨w.heap.size+1+1+1,j,η⟩) (by simp only;omega)).trans (h.fz j),bK h.aQ hb,by omega⟩
theorem UY{b}{y0 rM}x0 x1 x2 x3 iy o(h0:W.cell? ⟨b,0,η⟩=θ y0)(h4:W.cell? ⟨b,4,η⟩=θ rM):((((((W.setCell ⟨b,0,η⟩ x0).setCell ⟨b,1,η⟩ x1).setCell ⟨b,2,η⟩ x2).setCell ⟨b,3,η⟩ x3).setCell ⟨b,4,η⟩ iy).alloc o).cell? ⟨b,0,η⟩=θ x0 /\
  ((((((W.setCell ⟨b,0,η⟩ x0).setCell ⟨b,1,η⟩ x1).setCell ⟨b,2,η⟩ x2).setCell ⟨b,3,η⟩ x3).setCell ⟨b,4,η⟩ iy).alloc o).cell? ⟨b,1,η⟩=θ x1 /\
  ((((((W.setCell ⟨b,0,η⟩ x0).setCell ⟨b,1,η⟩ x1).setCell ⟨b,2,η⟩ x2).setCell ⟨b,3,η⟩ x3).setCell ⟨b,4,η⟩ iy).alloc o).cell? ⟨b,2,η⟩=θ x2 /\
  ((((((W.setCell ⟨b,0,η⟩ x0).setCell ⟨b,1,η⟩ x1).setCell ⟨b,2,η⟩ x2).setCell ⟨b,3,η⟩ x3).setCell ⟨b,4,η⟩ iy).alloc o).cell? ⟨b,3,η⟩=θ x3 /\
  ((((((W.setCell ⟨b,0,η⟩ x0).setCell ⟨b,1,η⟩ x1).setCell ⟨b,2,η⟩ x2).setCell ⟨b,3,η⟩ x3).setCell ⟨b,4,η⟩ iy).alloc o).cell? ⟨b,4,η⟩=θ iy:=by
 have hc:∃c t f,W.heap[b]?=θ (.cells c t f):=by
  unfold c7 at h0;split at h0
  .rename_i c t f hh;exact⟨c,t,f,hh⟩
  .cases h0
 obtain⟨c,t,f,hh⟩:=hc;have JQ:4<c.size:=by simp only[c7,hh]at h4;simp at h4;exact(ξ.1 h4).1
 have hz:(((((W.setCell ⟨b,0,η⟩ x0).setCell ⟨b,1,η⟩ x1).setCell ⟨b,2,η⟩ x2).setCell ⟨b,3,η⟩ x3).setCell ⟨b,4,η⟩ iy).heap[b]?=θ (.cells (((((c.setIfInBounds 0 x0).setIfInBounds 1 x1).setIfInBounds 2 x2).setIfInBounds 3 x3).setIfInBounds 4 iy) t f):=by simp[eV,q6,hh]
 have hlt:=(ξ.1 hz).1;generalize ((((W.setCell ⟨b,0,η⟩ x0).setCell ⟨b,1,η⟩ x1).setCell ⟨b,2,η⟩ x2).setCell ⟨b,3,η⟩ x3).setCell ⟨b,4,η⟩ iy=Z at*;have s0:0<c.size:=by omega
 have s1:1<c.size:=by omega
 have s2:2<c.size:=by omega
 have s3:3<c.size:=by omega
 refine⟨?_,?_,?_,?_,?_⟩
 .rw[(ax Z o).cell (by exact hlt)];simp only[c7,hz];simp[s0]
 .rw[(ax Z o).cell (by exact hlt)];simp only[c7,hz];simp[s1]
 .rw[(ax Z o).cell (by exact hlt)];simp only[c7,hz];simp[s2]
 .rw[(ax Z o).cell (by exact hlt)];simp only[c7,hz];simp[s3]
 .rw[(ax Z o).cell (by exact hlt)];simp only[c7,hz];simp[JQ]
theorem avy g la ea lo(lc ec ln cv p:Nat)(e:eF)l w(hG:cL w la ea g)(hA:0<=e.1/\e.1<g.lives.length)(hB:0<=e.2.1/\e.2.1<g.lives.length)(E4:p=1\/p=2\/p=3):Ξ ah 139 #[.agg #[.int .i64 g.hor,.slice la g.lives.length lc,.slice ea g.af.length ec],.agg #[.int .i64 e.1,.int .i64 e.2.1,.slice lo ln cv],.agg #[.int .i64 l.1,.int .i64 l.2.1,.int .i64 l.2.2.1,.int .i64 l.2.2.2],.int .i64 p] w λr w'=>r=.returned (tE (eP g p e l))/\Below w.heap.size w w':=by
 obtain⟨aeF,aeG,Nl⟩:=e;obtain⟨l1,l2,l3,l4⟩:=l;simp only at hA hB ⊢;obtain⟨A,rfl⟩:∃A:Nat,aeF=(A:Int):=⟨aeF.toNat,by omega⟩;obtain⟨B,rfl⟩:∃B:Nat,aeG=(B:Int):=⟨aeG.toNat,by omega⟩;have hAn:A<g.lives.length:=by omega
 have Hq:B<g.lives.length:=by omega
 obtain⟨lb,cC,rfl,hlb,hlc⟩:∃b off,la=θ ⟨b,off,η⟩/\b<w.heap.size/\∀k (hk:k<g.lives.length),(w.cell? ⟨b,off+k*2,η⟩=θ (.int .i64 g.lives[k].1)/\w.cell? ⟨b,off+k*2+1,η⟩=θ (.int .i64 g.lives[k].2)):=by
  rcases hG.lv with h0|⟨b,off,rfl,cp,hc⟩
  .rw[h0]at hAn;simp at hAn
  exact⟨b,off,rfl,cp,λk hk=>eg.get hk hc⟩
 obtain⟨a0,a1⟩:=hlc A hAn;obtain⟨b0,b1⟩:=hlc B Hq;have EF:p5 g (A:Int)=(g.lives[A].1,g.lives[A].2):=by unfold p5;rw[Int.toNat_natCast,List.getD_eq_getElem?_getD,List.getElem?_eq_getElem hAn];rfl
 have B7:p5 g (B:Int)=(g.lives[B].1,g.lives[B].2):=by unfold p5;rw[Int.toNat_natCast,List.getD_eq_getElem?_getD,List.getElem?_eq_getElem Hq];rfl
 have bU:Hid (eP g p ((A:Int),(B:Int),Nl) (l1,l2,l3,l4)=((A:Int),(B:Int),max l1 (max g.lives[A].1 g.lives[B].1),min l2 (min g.lives[A].2 g.lives[B].2),kQ p ((A:Int),(B:Int),l4))):=by show _=_;unfold eP;simp only;rw[EF,B7]
 obtain⟨mx,hmx⟩:∃m,m=(if(if l1<g.lives[A].1 then g.lives[A].1 else l1)<g.lives[B].1 then g.lives[B].1 else(if l1<g.lives[A].1 then g.lives[A].1 else l1)):=⟨_,rfl⟩;obtain⟨mn,hmn⟩:∃m,m=(if g.lives[B].2<(if g.lives[A].2<l2 then g.lives[A].2 else l2)then g.lives[B].2 else(if g.lives[A].2<l2 then g.lives[A].2 else l2)):=⟨_,rfl⟩;have aeH:max l1 (max g.lives[A].1 g.lives[B].1)=mx:=by rw[hmx];split<;>split<;>omega
 have aeI:min l2 (min g.lives[A].2 g.lives[B].2)=mn:=by rw[hmn];split<;>split<;>omega
 rw[aeH,aeI]at bU;have aA5:=hmx.symm;have aA6:=hmn.symm;clear hmx hmn aeH aeI;generalize g.lives[A].1=x1 at*;generalize g.lives[A].2=x2 at*;generalize g.lives[B].1=z1 at*;generalize g.lives[B].2=z2 at*;clear EF B7 hlc hG;obtain⟨w1,hw1⟩:∃x,x=(((w.alloc (.cells #[.int .i64 g.hor,.slice (θ ⟨lb,cC,η⟩) g.lives.length lc,.slice ea g.af.length ec] 59)).alloc (.cells #[.int .i64 (A:Int),.int .i64 (B:Int),.slice lo ln cv] 112)).alloc (.cells #[.int .i64 l1,.int .i64 l2,.int .i64 l3,.int .i64 l4] 167)).alloc (.cells #[.int .i64 0,.int .i64 0,.int .i64 0,.int .i64 0,.int .i64 0] 208):=⟨_,rfl⟩;have aj:Below w.heap.size w w1:=by rw[hw1];exact bK (bK (bK (ax _ _) (ax _ _)) (ax _ _)) (ax _ _)
 have cY:=hw1.symm;have hs1:w1.heap.size=w.heap.size+4:=by rw[hw1];simp
 have k1:w1.cell? ⟨w.heap.size,1,η⟩=θ (.slice (θ ⟨lb,cC,η⟩) g.lives.length lc):=by rw[hw1,(ax _ _).cell (by simp<;>omega),(ax _ _).cell (by simp<;>omega),(ax _ _).cell (by simp<;>omega)];exact mO rfl rfl
 have k2:w1.cell? ⟨w.heap.size+1,0,η⟩=θ (.int .i64 (A:Int)):=by rw[hw1,(ax _ _).cell (by simp<;>omega),(ax _ _).cell (by simp<;>omega)];exact mO (by simp) rfl
 have bz:w1.cell? ⟨w.heap.size+1,1,η⟩=θ (.int .i64 (B:Int)):=by rw[hw1,(ax _ _).cell (by simp<;>omega),(ax _ _).cell (by simp<;>omega)];exact mO (by simp) rfl
 have UZ:=(aj.cell (p:=⟨lb,cC+A*2,η⟩) hlb).trans a0;have U0:=(aj.cell (p:=⟨lb,cC+A*2+1,η⟩) hlb).trans a1;have U1:=(aj.cell (p:=⟨lb,cC+B*2,η⟩) hlb).trans b0;have U2:=(aj.cell (p:=⟨lb,cC+B*2+1,η⟩) hlb).trans b1;have Sz:(A:Int)<(g.lives.length:Int):=by omega
 have Sb:(B:Int)<(g.lives.length:Int):=by omega
 have U3:I5 w w1 A B l1 l2 l4:=by
  refine⟨?_,?_,?_,?_,?_,λj hj=>?_,λj=>?_,aj,by omega⟩
  .exact k2
  .exact bz
  .rw[hw1,(ax _ _).cell (by simp<;>omega)];exact mO (by simp) rfl
  .rw[hw1,(ax _ _).cell (by simp<;>omega)];exact mO (by simp) rfl
  .rw[hw1,(ax _ _).cell (by simp<;>omega)];exact mO (by simp) rfl
  .rw[hw1];refine mO (by simp) ?_
   match j,hj with
   |0,_=>rfl
   |1,_=>rfl
   |2,_=>rfl
   |3,_=>rfl
   |4,_=>rfl
  .rw[hw1];exact avx (by simp)
 clear a0 a1 b0 b1 hw1;have avz:=λo=>((ax w1 o).cell (p:=⟨w.heap.size,1,η⟩) (by simp only;omega)).trans k1;have v0:=λo o'=>((bK (ax w1 o) (ax _ o')).cell (p:=⟨w.heap.size,1,η⟩) (by simp only;omega)).trans k1;have u1:=λo=>((ax w1 o).cell (p:=⟨w.heap.size+1,0,η⟩) (by simp only;omega)).trans k2;have v1:=λo o'=>((bK (ax w1 o) (ax _ o')).cell (p:=⟨w.heap.size+1,0,η⟩) (by simp only;omega)).trans k2;have u2:=λo=>((ax w1 o).cell (p:=⟨w.heap.size+1,1,η⟩) (by simp only;omega)).trans bz;have v2:=λo o'=>((bK (ax w1 o) (ax _ o')).cell (p:=⟨w.heap.size+1,1,η⟩) (by simp only;omega)).trans bz;have u3:=λo=>((ax w1 o).cell (p:=⟨lb,cC+A*2,η⟩) (by simp only;omega)).trans UZ;have v3:=λo o'=>((bK (ax w1 o) (ax _ o')).cell (p:=⟨lb,cC+A*2,η⟩) (by simp only;omega)).trans UZ;have u4:=λo=>((ax w1 o).cell (p:=⟨lb,cC+A*2+1,η⟩) (by simp only;omega)).trans U0;have v4:=λo o'=>((bK (ax w1 o) (ax _ o')).cell (p:=⟨lb,cC+A*2+1,η⟩) (by simp only;omega)).trans U0;have u5:=λo=>((ax w1 o).cell (p:=⟨lb,cC+B*2,η⟩) (by simp only;omega)).trans U1;have v5:=λo o'=>((bK (ax w1 o) (ax _ o')).cell (p:=⟨lb,cC+B*2,η⟩) (by simp only;omega)).trans U1;have u6:=λo=>((ax w1 o).cell (p:=⟨lb,cC+B*2+1,η⟩) (by simp only;omega)).trans U2;have v6:=λo o'=>((bK (ax w1 o) (ax _ o')).cell (p:=⟨lb,cC+B*2+1,η⟩) (by simp only;omega)).trans U2;go_enter aln,ntmps139;go_wp2_with fail;rename_i Q' K hK;have aeJ:∀(pa pb:Nat) (e8:υ),I5 w e8 A B l1 l2 l4->e8.cell? ⟨pa,0,η⟩=θ (.int .i64 x1)->e8.cell? ⟨pa,1,η⟩=θ (.int .i64 x2)->e8.cell? ⟨pb,0,η⟩=θ (.int .i64 z1)->e8.cell? ⟨pb,1,η⟩=θ (.int .i64 z2)->e8.heap.size=w.heap.size+6->K {tmps:=#[.agg #[.int .i64 g.hor,.slice (θ ⟨lb,cC,η⟩) g.lives.length lc,.slice ea g.af.length ec],.agg #[.int .i64 (A:Int),.int .i64 (B:Int),.slice lo ln cv],.agg #[.int .i64 l1,.int .i64 l2,.int .i64 l3,.int .i64 l4],.int .i64 (p:Int),.pointer (θ ⟨w.heap.size,0,η⟩),.pointer (θ ⟨w.heap.size+1,0,η⟩),.pointer (θ ⟨w.heap.size+1+1,0,η⟩),undef,.pointer (θ ⟨w.heap.size+1+1+1,0,η⟩),.pointer (θ ⟨pa,0,η⟩),.pointer (θ ⟨pb,0,η⟩),undef,.pointer (θ ⟨w.heap.size,1,η⟩),.slice (θ ⟨lb,cC,η⟩) g.lives.length lc,.pointer (θ ⟨w.heap.size+1,0,η⟩),.int .i64 (A:Int),.pointer (θ ⟨lb,cC+A*2,η⟩),.agg #[.int .i64 x1,.int .i64 x2],.pointer (θ ⟨w.heap.size,1,η⟩),.slice (θ ⟨lb,cC,η⟩) g.lives.length lc,.pointer (θ ⟨w.heap.size+1,1,η⟩),.int .i64 (B:Int),.pointer (θ ⟨lb,cC+B*2,η⟩),.agg #[.int .i64 z1,.int .i64 z2],undef,undef,undef,undef,undef,undef,undef,undef,undef,undef,undef,undef,undef,undef,undef,undef,undef,undef,undef,undef,undef,undef,undef,undef,undef,undef,undef,undef,undef],defers:=[] } e8:=by
  intro pa pb e8 F q0 q1 q2 dR hs2;refine hK _ _ ?_;have e0:=F.e0;have e1:=F.e1;have l0:=F.l0;have aA7:=F.l1;have aA8:=F.l3;have r0:=F.r 0 (by omega);have r1:=F.r 1 (by omega);have r2:=F.r 2 (by omega);have r3:=F.r 3 (by omega);have U4:=F.r 4 (by omega);have fz:=F.fz;have sY:=aa F.aQ;clear hK F U3 avz u1 u2 u3 u4 u5 u6 v0 v1 v2 v3 v4 v5 v6 k1 k2 bz UZ U0 U1 U2 cY hs1 aj;rcases E4 with rfl|rfl|rfl
  ·(have e6:Hid (eP g 1 ((A:Int),(B:Int),Nl) (l1,l2,l3,l4)=((A:Int),(B:Int),mx,mn,1)):=by show _=_;rw[bU.out];rfl);go_wp2;obtain⟨t0,t1,t2,t3,t4⟩:=UY (.int .i64 (A:Int)) (.int .i64 (B:Int)) (.int .i64 mx) (.int .i64 mn) (.int .i64 1) (.cells #[.int .i64 (A:Int),.int .i64 (B:Int),.int .i64 mx,.int .i64 mn,.int .i64 1] 208) r0 U4;refine cR (v:=tE ((A:Int),(B:Int),mx,mn,1)) (by simp[results,results139,go_sem,tE,t0,t1,t2,t3,t4]) rfl ⟨by rw[e6.out],?_⟩;exact UX sY.out (by omega) _ _ _ _ _ _
  ·(have e6:Hid (eP g 2 ((A:Int),(B:Int),Nl) (l1,l2,l3,l4)=((A:Int),(B:Int),mx,mn,l4)):=by show _=_;rw[bU.out];rfl);go_wp2;obtain⟨t0,t1,t2,t3,t4⟩:=UY (.int .i64 (A:Int)) (.int .i64 (B:Int)) (.int .i64 mx) (.int .i64 mn) (.int .i64 l4) (.cells #[.int .i64 (A:Int),.int .i64 (B:Int),.int .i64 mx,.int .i64 mn,.int .i64 l4] 208) r0 U4;refine cR (v:=tE ((A:Int),(B:Int),mx,mn,l4)) (by simp[results,results139,go_sem,tE,t0,t1,t2,t3,t4]) rfl ⟨by rw[e6.out],?_⟩;exact UX sY.out (by omega) _ _ _ _ _ _
  ·(have e6:Hid (eP g 3 ((A:Int),(B:Int),Nl) (l1,l2,l3,l4)=((A:Int),(B:Int),mx,mn,0)):=by show _=_;rw[bU.out];rfl);go_wp2;obtain⟨t0,t1,t2,t3,t4⟩:=UY (.int .i64 (A:Int)) (.int .i64 (B:Int)) (.int .i64 mx) (.int .i64 mn) (.int .i64 0) (.cells #[.int .i64 (A:Int),.int .i64 (B:Int),.int .i64 mx,.int .i64 mn,.int .i64 0] 208) r0 U4;refine cR (v:=tE ((A:Int),(B:Int),mx,mn,0)) (by simp[results,results139,go_sem,tE,t0,t1,t2,t3,t4]) rfl ⟨by rw[e6.out],?_⟩;exact UX sY.out (by omega) _ _ _ _ _ _
 go_region
 .obtain⟨e8,gM⟩:∃x,x=((w1.alloc (.cells #[.int .i64 x1,.int .i64 x2] 109)).alloc (.cells #[.int .i64 z1,.int .i64 z2] 109)).drew:=⟨_,rfl⟩;have gj:Below w1.heap.size w1 e8:=by rw[gM];exact(bK (ax w1 _) (ax _ _)).drew
  have q0:e8.cell? ⟨w.heap.size+4,0,η⟩=θ (.int .i64 x1):=by rw[gM];exact(((ax _ _).cell (by simp<;>omega)).trans (mO (by omega) rfl))
  have q1:e8.cell? ⟨w.heap.size+4,1,η⟩=θ (.int .i64 x2):=by rw[gM];exact(((ax _ _).cell (by simp<;>omega)).trans (mO (by omega) rfl))
  have q2:e8.cell? ⟨w.heap.size+4+1,0,η⟩=θ (.int .i64 z1):=by rw[gM];exact(mO (by simp;omega) rfl)
  have dR:e8.cell? ⟨w.heap.size+4+1,1,η⟩=θ (.int .i64 z2):=by rw[gM];exact(mO (by simp;omega) rfl)
  have hs2:e8.heap.size=w.heap.size+6:=by rw[gM];simp[World.drew,hs1]
  rw[<-gM];exact aeJ _ _ e8 (U3.below gj) q0 q1 q2 dR hs2
 .obtain⟨e8,gM⟩:∃x,x=((w1.alloc (.cells #[.int .i64 z1,.int .i64 z2] 109)).alloc (.cells #[.int .i64 x1,.int .i64 x2] 109)).drew:=⟨_,rfl⟩;have gj:Below w1.heap.size w1 e8:=by rw[gM];exact(bK (ax w1 _) (ax _ _)).drew
  have q0:e8.cell? ⟨w.heap.size+4+1,0,η⟩=θ (.int .i64 x1):=by rw[gM];exact(mO (by simp;omega) rfl)
  have q1:e8.cell? ⟨w.heap.size+4+1,1,η⟩=θ (.int .i64 x2):=by rw[gM];exact(mO (by simp;omega) rfl)
  have q2:e8.cell? ⟨w.heap.size+4,0,η⟩=θ (.int .i64 z1):=by rw[gM];exact(((ax _ _).cell (by simp<;>omega)).trans (mO (by omega) rfl))
  have dR:e8.cell? ⟨w.heap.size+4,1,η⟩=θ (.int .i64 z2):=by rw[gM];exact(((ax _ _).cell (by simp<;>omega)).trans (mO (by omega) rfl))
  have hs2:e8.heap.size=w.heap.size+6:=by rw[gM];simp[World.drew,hs1]
  rw[<-gM];exact aeJ _ _ e8 (U3.below gj) q0 q1 q2 dR hs2
theorem Tryz.avA:(ah.info? 208).map (λi=>(i.zero,i.size,i.bytes))=θ (θ (.agg #[.int .i64 0,.int .i64 0,.int .i64 0,.int .i64 0,.int .i64 0]),5,40):=by kernel_rfl
def oY(g:bg)(p:Nat)(e:eF)(j:Nat):List oo:=(e.2.2.take j).flatMap λl=>lW g p e l
def wH(g:bg)(p:Nat)(k:Nat):List oo:=(g.af.take k).flatMap λe=>e.2.2.flatMap λl=>lW g p e l
theorem avB g p e(hj:j<e.2.2.length):oY g p e (j+1)=oY g p e j++lW g p e e.2.2[j]:=by unfold oY;rw[List.take_succ_eq_append_getElem hj,List.flatMap_append,List.flatMap_singleton]
theorem avC g p e:oY g p e e.2.2.length=e.2.2.flatMap λl=>lW g p e l:=by unfold oY;rw[List.take_length]
theorem avD g p(hk:k<g.af.length):wH g p (k+1)=wH g p k++oY g p g.af[k] g.af[k].2.2.length:=by rw[avC];unfold wH;rw[List.take_succ_eq_append_getElem hk,List.flatMap_append,List.flatMap_singleton]
theorem avE g p:wH g p g.af.length=eR g p:=by unfold wH eR;rw[List.take_length]
theorem avF(h0:aK g=0)p k:(wH g p k).length<=360:=by
 have R:=ei h0;have h1:=EV (λe:eF=>e.2.2.flatMap λl=>lW g p e l) 12 (g.af.take k) (λe he=>by
  have h2:=EV (λl=>lW g p e l) 2 e.2.2 (λl _=>TV g p e l);have h3:=(R.ends e (List.mem_of_mem_take he)).2.2;omega)
 have h4:=R.qm;have h5:(g.af.take k).length<=g.af.length:=by rw[List.length_take];omega
 unfold wH;omega
theorem avG p{e}(he:e.2.2.length<=6)j:(oY g p e j).length<=12:=by
 have h2:=EV (λl=>lW g p e l) 2 (e.2.2.take j) (λl _=>TV g p e l);have h5:(e.2.2.take j).length<=e.2.2.length:=by rw[List.length_take];omega
 unfold oY;omega
theorem avH g la ea lc ec p(h0:aK g=0)(E4:p=1\/p=2\/p=3):UP g la ea lc ec p:=by
 intro w hG;obtain⟨i0,hi,cg,hz1,bX⟩:=er Tryz.avA;obtain⟨w1,hw1⟩:∃x,x=w.alloc (.cells #[.int .i64 g.hor,.slice la g.lives.length lc,.slice ea g.af.length ec] 59):=⟨_,rfl⟩;have aA:s7 w w1 w.heap.size g la ea lc ec:=by rw[hw1];exact xW w g la ea lc ec 59
 have R:=ei h0;have jE:=R.qm;have eO:=aa R;have cH:=aa hG;have H0:=aa h0;have aS:=aa aA;have g0:=aA.c0;have g2:=aA.c2;have cY:=hw1.symm;clear hG aA hw1 R h0;go_enter alg,ntmps129;go_wp2_with fail;clear cY;go_loopw [5,14] (λu d wr=>∃k:Nat,k<=g.af.length/\d=.int .i64 (k:Int)/\wr.ownsRow w1.heap.size 208 5 u (wH g p k).length (iT (wH g p k))/\Below w1.heap.size w1 wr) (λ_ d _=>g.af.length-(intOf d).toNat)
 case atStart=>exact⟨0,by omega,by simp,dJ _ _ _ _,Below.refl _ _⟩
 case round=>
  clear g0 g2;obtain⟨k,hk,rfl,hown,hb⟩:=hrel;have eW:=aS.out.below hb;have hol:=avF H0.out p k;by_cases bp:k<g.af.length
  .obtain⟨b,off,lo,cv,rfl,cp,c0,c1,c2,hL⟩:∃b off lo cv,ea=θ ⟨b,off,η⟩/\b<w.heap.size/\w.cell? ⟨b,off+k*3,η⟩=θ (.int .i64 g.af[k].1)/\w.cell? ⟨b,off+k*3+1,η⟩=θ (.int .i64 g.af[k].2.1)/\w.cell? ⟨b,off+k*3+2,η⟩=θ (.slice lo g.af[k].2.2.length cv)/\pn w lo g.af[k].2.2:=by
    rcases cH.out.ed with h0|⟨b,off,rfl,cp,hc⟩
    .rw[h0]at bp;simp at bp
    obtain⟨c0,c1,lo,cv,c2,hL,_,_⟩:=hc k bp;exact⟨b,off,lo,cv,rfl,cp,c0,c1,c2,hL⟩
   have e0:=(eW.aQ.cell (p:=⟨b,off+k*3,η⟩) cp).trans c0;have e1:=(eW.aQ.cell (p:=⟨b,off+k*3+1,η⟩) cp).trans c1;have e2:=(eW.aQ.cell (p:=⟨b,off+k*3+2,η⟩) cp).trans c2;have cA:=aa hL;obtain⟨hA,Ef,hlen⟩:=eO.out.ends _ (List.getElem_mem bp);have aU:=aa (avD g p bp);generalize g.af[k]=ed at*;obtain⟨wb,nk⟩:∃x,x=wr.alloc (.cells #[.int .i64 ed.1,.int .i64 ed.2.1,.slice lo ed.2.2.length cv] 112):=⟨_,rfl⟩;(have bQ:Below wr.heap.size wr wb:=by rw[nk];exact ax _ _);obtain⟨kB,U5⟩:∃x,x=wr.heap.size:=⟨_,rfl⟩;(have LL:wb.heap[kB]?=θ (.cells #[.int .i64 ed.1,.int .i64 ed.2.1,.slice lo ed.2.2.length cv] 112):=by rw[nk,U5];show (wr.heap.push _)[_]?=_;simp);(have f2:wb.cell? ⟨kB,2,η⟩=θ (.slice lo ed.2.2.length cv):=by simp[c7,LL]);have dL:=cE hown bQ;(have aeK:u5.ownBlock≠θ kB:=λe=>by have:=(hown.lt _ e).2;omega);have hb0:Below w1.heap.size w1 wb:=hb.trans (bQ.mono hb.size);have LW:=nk.symm;have aA9:=U5.symm;obtain⟨out,hout⟩:∃o,o=wH g p k:=⟨_,rfl⟩;rw[<-hout]at dL hol aU;have g2:=eW.c2;clear hown nk U5 c0 c1 c2 hL eW hb bQ;go_wp2_with fail;clear LW e0 e1 e2 g2;go_loopw [5,21] (λu i ws=>∃j:Nat,j<=ed.2.2.length/\i=.int .i64 (j:Int)/\ws.ownsRow w1.heap.size 208 5 u (out++oY g p ed j).length (iT (out++oY g p ed j))/\Below w1.heap.size w1 ws/\ws.heap[kB]?=θ (.cells #[.int .i64 ed.1,.int .i64 ed.2.1,.slice lo ed.2.2.length cv] 112)/\u.ownBlock≠θ kB) (λ_ i _=>ed.2.2.length-(intOf i).toNat)
   case atStart=>exact⟨0,Nat.zero_le _,rfl,by simpa[oY]using dL,hb0,LL,aeK⟩
   case round=>
    clear dL hb0 LL aeK f2;obtain⟨j,hj,rfl,hown,hb,CG,hne⟩:=hrel;have eW:=aS.out.below hb;have aBa:=avG (g:=g) p hlen j;by_cases hjl:j<ed.2.2.length
    .obtain⟨b2,off2,rfl,aq,l0,l1,l2,l3⟩:∃b2 off2,lo=θ ⟨b2,off2,η⟩/\b2<w.heap.size/\w.cell? ⟨b2,off2+j*4,η⟩=θ (.int .i64 ed.2.2[j].1)/\w.cell? ⟨b2,off2+j*4+1,η⟩=θ (.int .i64 ed.2.2[j].2.1)/\w.cell? ⟨b2,off2+j*4+2,η⟩=θ (.int .i64 ed.2.2[j].2.2.1)/\w.cell? ⟨b2,off2+j*4+3,η⟩=θ (.int .i64 ed.2.2[j].2.2.2):=by
      rcases cA.out with h0|⟨b2,off2,rfl,hlt,hc⟩
      .rw[h0]at hjl;simp at hjl
      .have h1:=hc j hjl;(have e:ed.2.2.getD j (0,0,0,0)=ed.2.2[j]:=by rw[List.getD_eq_getElem?_getD,List.getElem?_eq_getElem hjl];rfl);rw[e]at h1;exact⟨b2,off2,rfl,hlt,h1⟩
     have m0:=(eW.aQ.cell (p:=⟨b2,off2+j*4,η⟩) aq).trans l0;have m1:=(eW.aQ.cell (p:=⟨b2,off2+j*4+1,η⟩) aq).trans l1;have m2:=(eW.aQ.cell (p:=⟨b2,off2+j*4+2,η⟩) aq).trans l2;have m3:=(eW.aQ.cell (p:=⟨b2,off2+j*4+3,η⟩) aq).trans l3;have Nn:=aa (avB g p ed hjl);generalize ed.2.2[j]=l at*;obtain⟨wl,lN⟩:∃x,x=wr.alloc (.cells #[.int .i64 l.1,.int .i64 l.2.1,.int .i64 l.2.2.1,.int .i64 l.2.2.2] 167):=⟨_,rfl⟩;(have fM:Below wr.heap.size wr wl:=by rw[lN];exact ax _ _);have I6:=eW.below fM;have CH:kB<wr.heap.size:=(ξ.1 CG).1;have Np:=(fM.block kB CH).trans CG;have Ei:=I6.c0;have Ej:=I6.c1;have LU:=I6.c2;(have avI:wl.cell? ⟨kB,0,η⟩=θ (.int .i64 ed.1):=by simp[c7,Np]);(have avJ:wl.cell? ⟨kB,1,η⟩=θ (.int .i64 ed.2.1):=by simp[c7,Np]);(have avK:wl.cell? ⟨kB,2,η⟩=θ (.slice (θ ⟨b2,off2,η⟩) ed.2.2.length cv):=by simp[c7,Np]);(have avL:wl.cell? ⟨wr.heap.size,0,η⟩=θ (.int .i64 l.1):=by rw[lN];exact mO rfl rfl);(have avM:wl.cell? ⟨wr.heap.size,1,η⟩=θ (.int .i64 l.2.1):=by rw[lN];exact mO rfl rfl);(have avN:wl.cell? ⟨wr.heap.size,2,η⟩=θ (.int .i64 l.2.2.1):=by rw[lN];exact mO rfl rfl);(have avO:wl.cell? ⟨wr.heap.size,3,η⟩=θ (.int .i64 l.2.2.2):=by rw[lN];exact mO rfl rfl);have hcl:=avy g la (θ ⟨b,off,η⟩) (θ ⟨b2,off2,η⟩) lc ec ed.2.2.length cv p ed l wl (cH.out.below I6.aQ) hA Ef E4;have avP:=lN.symm;have zI:=aa CG;have Nq:=aa CH;have Fg:=aa hne;have avQ:=aa fM;have Mr:=aa hb;have aBb:=aa eW;clear CG CH hne Np fM hb I6 eW lN;go_wp2_with fail;refine hcl.mono ?_;rintro e w3 ⟨rfl,aB⟩;have CG:=zI.out;have CH:=Nq.out;have hne:=Fg.out;have fM:=avQ.out;have hb:=Mr.out;have U6:Hid (lW g p ed l=if(eP g p ed l).2.2.2.1<=(eP g p ed l).2.2.1 then[]else if p=3 then[eP g p ed l,((eP g p ed l).2.1,(eP g p ed l).1,(eP g p ed l).2.2)]else[eP g p ed l]):=rfl;generalize eP g p ed l=π at*;generalize lW g p ed l=hU at*;obtain⟨w4,fZ⟩:∃x,x=w3.alloc (.cells #[.int .i64 π.1,.int .i64 π.2.1,.int .i64 π.2.2.1,.int .i64 π.2.2.2.1,.int .i64 π.2.2.2.2] 208):=⟨_,rfl⟩;(have hb4:Below wr.heap.size wr w4:=by rw[fZ];exact bK (bK fM aB) (ax w3 _));(have tA:w4.heap[w3.heap.size]?=θ (.cells #[.int .i64 π.1,.int .i64 π.2.1,.int .i64 π.2.2.1,.int .i64 π.2.2.2.1,.int .i64 π.2.2.2.2] 208):=by rw[fZ];show (w3.heap.push _)[_]?=_;simp);(have x0:w4.cell? ⟨w3.heap.size,0,η⟩=θ (.int .i64 π.1):=by simp[c7,tA]);(have x1:w4.cell? ⟨w3.heap.size,1,η⟩=θ (.int .i64 π.2.1):=by simp[c7,tA]);(have x2:w4.cell? ⟨w3.heap.size,2,η⟩=θ (.int .i64 π.2.2.1):=by simp[c7,tA]);(have x3:w4.cell? ⟨w3.heap.size,3,η⟩=θ (.int .i64 π.2.2.2.1):=by simp[c7,tA]);(have iy:w4.cell? ⟨w3.heap.size,4,η⟩=θ (.int .i64 π.2.2.2.2):=by simp[c7,tA]);have hs3:wr.heap.size<=w3.heap.size:=(bK fM aB).size;(have hs4:w4.heap.size=w3.heap.size+1:=by rw[fZ];simp);have o1:=cE hown hb4;have o2:Below w1.heap.size w1 w4:=hb.trans (hb4.mono hb.size);have Nr:=(hb4.block kB CH).trans CG;have aeL:=λz (e:u5.ownBlock=θ z)=>(hown.lt z e).2;have zM:=fZ.symm;clear hcl avP Ei Ej LU avI avJ avK avL avM avN avO m0 m1 m2 m3 l0 l1 l2 l3 fZ hown hb CG fM aB hb4;by_cases hle:π.2.2.2.1<=π.2.2.1
     ·(have w9:hU=[]:=by rw[U6.out,χ hle]);(have hd:decide (π.2.2.2.1<=π.2.2.1)=true:=by simpa using hle);have ck:=aa o1;have eA:=aa o2;have Ns:=aa Nr;have aBc:=aa Nn.out;clear o1 o2 Nr;unfold tE;go_wp2_with fail;exact⟨⟨j+1,by omega,by go_num,by rw[Nn.out,w9,List.append_nil];exact ck.out,eA.out,Ns.out,Fg.out⟩,by simp[intOf];omega⟩
     ·(have hd:decide (π.2.2.2.1<=π.2.2.1)=false:=by simpa using hle);have hs5:=o2.size;(have uo:(out++oY g p ed j).length<=400:=by rw[List.length_append];omega);have rI:Hid (∀(o:Obj) (aO:υ),(w4.alloc o).grownBy aO u5.ownBlock->Below w1.heap.size w1 aO):=λo aO kH=>(o2.alloc o2.size o).grown kH (by have:=o2.size;simp at this ⊢;omega) (λk hk=>(o1.lt k hk).1);have U7:Hid (∀(o:Obj) (aO:υ),(w4.alloc o).grownBy aO u5.ownBlock->∀q,q<w4.heap.size->u5.ownBlock≠θ q->aO.heap[q]?=w4.heap[q]?):=λo aO kH q hq hn=>(kH.block q (by simp;omega) (jx hn)).trans ((ax w4 o).block q hq);(have EE:Hid (kB<w4.heap.size):=by show _<_;omega);(have Mc:Hid (u5.ownBlock≠θ w3.heap.size):=λe=>by have:=aeL _ e;omega);have ck:=aa o1;have Ns:=aa Nr;have avR:=aa tA;clear o1 o2 Nr tA aeL CH hne;by_cases p3:p=3
      ·(have aez:((p:Int)==3)=true:=by simp;omega);(have w9:hU=[π,(π.2.1,π.1,π.2.2)]:=by rw[U6.out,ς hle,χ p3]);clear p3;(have avS:w3.heap.size<w4.heap.size:=by omega);have aBd:=Mr.out.size;unfold tE;go_wp2_with(at_builtin;refine Ni ?_);refine aa ?_;refine TX _ rfl _ _ 191 rfl w1.heap.size 208 i0 _ 5 40 ((cD 191).trans underlying191) hi cg hz1 bX rfl (by decide) _ _ _ rfl (fW (w:=w4) ck.out _) ⟨w3.heap.size+1,0,η⟩ 1 1 [.int .i64 π.1,.int .i64 π.2.1,.int .i64 π.2.2.1,.int .i64 π.2.2.2.1,.int .i64 π.2.2.2.2] rfl rfl (M0 _ _ _ _ _ _ _ _ hs4.symm) (by intro u hu;simp at hu;rcases hu with rfl|rfl|rfl|rfl|rfl<;>rfl) (by unfold maxLen;omega) (by omega) (by simp;omega) ?_;intro v' aO iE hgrow _ hat;have bT:=rI.out _ _ hgrow;have rQ:=(U7.out _ _ hgrow kB EE.out Fg.out).trans Ns.out;have AB:=(U7.out _ _ hgrow w3.heap.size avS Mc.out).trans avR.out;have I7:v'.ownBlock≠θ kB:=λe=>by
        rcases hat with h|h
        .exact Fg.out (h.symm.trans e)
        .rw[h]at e;simp at e;have:=EE.out;omega
       have U8:v'.ownBlock≠θ w3.heap.size:=λe=>by
        rcases hat with h|h
        .exact Mc.out (h.symm.trans e)
        .rw[h]at e;simp at e;omega
       (have U9:w3.heap.size≠kB:=λe=>by rw[e]at AB;rw[AB]at rQ;simp at rQ);have aBe:w3.heap.size<aO.heap.size:=(ξ.1 AB).1;(have y0:aO.cell? ⟨w3.heap.size,0,η⟩=θ (.int .i64 π.1):=by simp[c7,AB]);(have y1:aO.cell? ⟨w3.heap.size,1,η⟩=θ (.int .i64 π.2.1):=by simp[c7,AB]);(have aBf:∀q,aO.frozen? ⟨w3.heap.size,q,η⟩=false:=λq=>by simp[qY,AB]);obtain⟨bW,dU⟩:∃x,x=(aO.setCell ⟨w3.heap.size,0,η⟩ (.int .i64 π.2.1)).setCell ⟨w3.heap.size,1,η⟩ (.int .i64 π.1):=⟨_,rfl⟩;(have Fh:bW.heap[w3.heap.size]?=θ (.cells #[.int .i64 π.2.1,.int .i64 π.1,.int .i64 π.2.2.1,.int .i64 π.2.2.2.1,.int .i64 π.2.2.2.2] 208):=by rw[dU];exact Low.aep (Low.aep AB));(have BR:bW.heap.size=aO.heap.size:=by rw[dU];simp[eV]);have Va:=pZ (j:=1) (u:=.int .i64 π.1) (pZ (j:=0) (u:=.int .i64 π.2.1) iE U8) U8;rw[<-dU]at Va;(have dD:Below w1.heap.size w1 bW:=by rw[dU];exact(bT.setCell (p:=⟨w3.heap.size,0,η⟩) (by simp only;omega) _).setCell (p:=⟨w3.heap.size,1,η⟩) (by simp only;omega) _);(have Vb:bW.heap[kB]?=θ (.cells #[.int .i64 ed.1,.int .i64 ed.2.1,.slice (θ ⟨b2,off2,η⟩) ed.2.2.length cv] 112):=by rw[dU,Low.aeq (by exact U9),Low.aeq (by exact U9)];exact rQ);(have z0:bW.cell? ⟨w3.heap.size,0,η⟩=θ (.int .i64 π.2.1):=by simp[c7,Fh]);(have z1:bW.cell? ⟨w3.heap.size,1,η⟩=θ (.int .i64 π.1):=by simp[c7,Fh]);(have z2:bW.cell? ⟨w3.heap.size,2,η⟩=θ (.int .i64 π.2.2.1):=by simp[c7,Fh]);(have z3:bW.cell? ⟨w3.heap.size,3,η⟩=θ (.int .i64 π.2.2.2.1):=by simp[c7,Fh]);(have z4:bW.cell? ⟨w3.heap.size,4,η⟩=θ (.int .i64 π.2.2.2.2):=by simp[c7,Fh]);have avT:=dD.size;have BT:=dU.symm;have aeM:=aa Va;have rR:=aa dD;have avU:=aa Vb;have IG:=aa I7;have Vd:Hid (kB<bW.heap.size):=(ξ.1 Vb).1;clear hgrow hat iE bT rQ AB I7 U8 U9 x0 x1 x2 x3 iy zM dU Fh Va dD Vb;go_wp2_with(at_builtin;refine Ni ?_);refine aa ?_;refine TX _ rfl _ _ 191 rfl w1.heap.size 208 i0 _ 5 40 ((cD 191).trans underlying191) hi cg hz1 bX rfl (by decide) _ _ _ rfl (fW (w:=bW) aeM.out _) ⟨aO.heap.size,0,η⟩ 1 1 [.int .i64 π.2.1,.int .i64 π.1,.int .i64 π.2.2.1,.int .i64 π.2.2.2.1,.int .i64 π.2.2.2.2] rfl rfl (M0 _ _ _ _ _ _ _ _ BR.symm) (by intro u hu;simp at hu;rcases hu with rfl|rfl|rfl|rfl|rfl<;>rfl) (by unfold maxLen;omega) (by omega) (by simp;omega) ?_;intro v7 w7 aeN Ve _ aeO;have ko:Below w1.heap.size w1 w7:=(rR.out.alloc rR.out.size _).grown Ve (by have:=rR.out.size;simp at this ⊢;omega) (λk hk=>(aeM.out.lt k hk).1);have aeP:=((Ve.block kB (by simp;have:=Vd.out;omega) (jx IG.out)).trans ((ax bW _).block kB Vd.out)).trans avU.out;have aeQ:v7.ownBlock≠θ kB:=λe=>by
        rcases aeO with h|h
        .exact IG.out (h.symm.trans e)
        .rw[h]at e;simp at e;have:=Vd.out;omega
       (have aeR:w7.ownsRow w1.heap.size 208 5 v7 (out++oY g p ed (j+1)).length (iT (out++oY g p ed (j+1))):=by rw[Nn.out,w9,<- List.append_assoc,show ([π,(π.2.1,π.1,π.2.2)]:List oo)=[π]++[(π.2.1,π.1,π.2.2)]from rfl,<- List.append_assoc,UK,UK,List.length_append,List.length_append];exact aeN);have aJ:=aa (And.intro aeR (And.intro ko (And.intro aeP aeQ)));clear Ve aeO aeN aeR ko aeP aeQ z0 z1 z2 z3 z4 BT hs4 BR avT;go_wp2_with fail;exact⟨⟨j+1,by omega,by go_num,aJ.out.1,aJ.out.2.1,aJ.out.2.2.1,aJ.out.2.2.2⟩,by simp[intOf];omega⟩
      ·(have aez:((p:Int)==3)=false:=by simp;omega);(have w9:hU=[π]:=by rw[U6.out,ς hle,ς p3]);unfold tE;go_wp2_with(at_builtin;refine Ni ?_);refine aa ?_;refine TX _ rfl _ _ 191 rfl w1.heap.size 208 i0 _ 5 40 ((cD 191).trans underlying191) hi cg hz1 bX rfl (by decide) _ _ _ rfl (fW (w:=w4) ck.out _) ⟨w3.heap.size+1,0,η⟩ 1 1 [.int .i64 π.1,.int .i64 π.2.1,.int .i64 π.2.2.1,.int .i64 π.2.2.2.1,.int .i64 π.2.2.2.2] rfl rfl (M0 _ _ _ _ _ _ _ _ hs4.symm) (by intro u hu;simp at hu;rcases hu with rfl|rfl|rfl|rfl|rfl<;>rfl) (by unfold maxLen;omega) (by omega) (by simp;omega) ?_;intro v' aO iE hgrow _ hat;have bT:=rI.out _ _ hgrow;(have aeS:aO.ownsRow w1.heap.size 208 5 v' (out++oY g p ed (j+1)).length (iT (out++oY g p ed (j+1))):=by rw[Nn.out,w9,<- List.append_assoc,UK,List.length_append];exact iE);have rQ:=(U7.out _ _ hgrow kB EE.out Fg.out).trans Ns.out;have I7:v'.ownBlock≠θ kB:=λe=>by
        rcases hat with h|h
        .exact Fg.out (h.symm.trans e)
        .rw[h]at e;simp at e;have:=EE.out;omega
       have aJ:=aa (And.intro aeS (And.intro bT (And.intro rQ I7)));clear hgrow hat iE aeS bT rQ I7 x0 x1 x2 x3 iy zM;go_wp2_with fail;exact⟨⟨j+1,by omega,by go_num,aJ.out.1,aJ.out.2.1,aJ.out.2.2.1,aJ.out.2.2.2⟩,by simp[intOf];omega⟩
    ·(have hjn:j=ed.2.2.length:=by omega);subst hjn;rw[<-aU.out]at hown;clear eW;go_wp2;go_roundw
     case rel=>exact⟨k+1,by omega,by go_num,hown,hb⟩
     case measure=>simp[intOf];omega
  ·(have c6:k=g.af.length:=by omega);subst c6;rw[avE]at hown;have R:=gJ hown aS.out.aQ.size;have cz:=eW.aQ;clear hown eW;go_wp2;go_ret;exact⟨_,rfl,R,cz⟩
variable{M:kq}
variable{pr:b7->Int}
theorem avV{p}(h:gh g p v=0):∃q:Nat,p=q/\(q=1\/q=2\/q=3):=by
 unfold gh at h;split at h
 .split at h
  .rename_i h2;have h3:=(oI _ _ _).1 h2;exact⟨p.toNat,by omega,by omega⟩
  .simp at h
 .rename_i h0;exact absurd h h0
def Nt(m:List (Int×Int×Int)):Prop:=m.length<=100/\∀q∈m,(0<=q.1/\q.1<=100)/\(0<=q.2.1/\q.2.1<=100)/\0<=q.2.2/\q.2.2<=100000
theorem avW(h0:aK g=0){p}(hp:p=1\/p=2\/p=3)fr{v}(hv:v<g.lives.length):Nt (fT g p fr v g.hor.toNat):=by
 obtain⟨h1,h2,h3⟩:=Tq h0 p fr hv g.hor.toNat;have hor:=(ei h0).hor;have hl:=acr g p fr v g.hor.toNat;refine⟨by omega,λq hq=>?_⟩;have aBg:=G6 h1 q hq;have aBh:=h2 q hq;have ht:=TS h1 q hq;rw[h3]at ht;split at ht
 .unfold nA at ht;split at ht
  .rename_i hx;have h4:=as8 h0 hp fr q.1.toNat hv hx;rw[jP ht]at h4;omega
  .cases ht
 .cases ht
theorem aeT(h:(0<=q.1/\q.1<=100)/\(0<=q.2.1/\q.2.1<=100)/\0<=q.2.2/\q.2.2<=100000):(dK q.1).length<=21/\(dK q.2.1).length<=21/\(dK q.2.2).length<=21:=
 ⟨Al _ (by omega) (by omega),Al _ (by omega) (by omega),Al _ (by omega) (by omega)⟩
theorem avX(h:(0<=q.1/\q.1<=100)/\(0<=q.2.1/\q.2.1<=100)/\0<=q.2.2/\q.2.2<=100000):(oL q).length<=65:=by have:=aeT h;simp only[oL,List.length_append,List.length_cons];omega
theorem aeU(h:Nt m):(jn 44 (m.map oL)).length<=6600/\(lI m).length<=6600:=by
 have h1:=Iz 44 65 (m.map oL) λx hx=>by obtain⟨q,hq,rfl⟩:=List.mem_map.1 hx;exact avX (h.2 q hq)
 rw[List.length_map]at h1;have:=h.1;refine⟨by omega,?_⟩;unfold lI;split
 .simp
 .omega
theorem avY{a}{K}{Q}{E:Prop}(hgd:o.guard=η)s x(ho:o.op=.call {callee:=.builtin .append,args:=#[s,x],argTypes:=#[23,23] })B L v(hs:a.eval s=v)w0 y(hown:w0.ownsRow B 9 1 v L.length (kA L))(hw:w0.alloc (.cells #[.string ⟨y.toArray⟩] 9)=w)(hx:a.eval x=.slice (θ ⟨w0.heap.size,0,η⟩) 1 1)(hB:B<=w0.heap.size)(hl:L.length<=100000)(h:∀g cap w',w'.ownsRow B 9 1 (.slice (θ ⟨g,0,η⟩) (L.length+1) cap) (L.length+1) (kA (L++[y]))->Below B w0 w'->w.grownBy w' v.ownBlock->K (a.put o.dst (.slice (θ ⟨g,0,η⟩) (L.length+1) cap)) w'):if cF o (jv ops a.tmps)=ν then Oper.wp ah o a w K Q else E:=by
 subst hw;obtain⟨i0,hi,cg,hz1,bX⟩:=er Tryz.IB;refine step_append_lies _ hgd s x _ ho B 9 i0 (.string ⟨#[]⟩) 1 16 ((cD 23).trans underlying23) hi cg hz1 bX rfl (by decide) v L.length (kA L) hs (fW hown _) ⟨w0.heap.size,0,η⟩ 1 1 [.string ⟨y.toArray⟩] hx rfl ?c1 ?c2 (by decide) ?c3 ?c4 ?c5 (w0.heap.size+1) (by simp) ?_
 case c1=>exact nR (cs:=#[.string ⟨y.toArray⟩]) (t:=9) (fr:=(0,0)) (heap_alloc_new w0 _)
 case c2=>intro u hu;simp at hu;subst hu;rfl
 case c3=>unfold maxLen;omega
 case c4=>omega
 case c5=>simp;omega
 intro g cap w' h1 h2 _ _;exact h g cap w' (by rw[adK];exact h1) (((Below.refl B w0).alloc hB _).grown h2 (by simp;omega) (λj hj=>(hown.lt j hj).1)) h2
theorem avZ ao cap m w(hP:cm w ao m)(hS:Nt m)(hT:gv w):Ξ ah 80 #[.slice ao m.length cap] w λe w'=>e=.returned (.string ⟨(lI m).toArray⟩)/\Below w.heap.size w w':=by
 by_cases h0:m=[]
 .subst h0;have hb:=Below.refl w.heap.size w;go_enter Yw,ntmps80;go_wp2;go_ret;exact⟨rfl,hb⟩
 have aR:Hid (lI m=jn 44 (m.map oL)):=ς h0;have hl0:¬(m.length:Int)=0:=λh=>h0 (List.eq_nil_of_length_eq_zero (by omega));have d0:((m.length:Int)==0)=false:=by simpa using hl0
 have cA:=aa (aeU hS).1;have bU:=aa hP;have aX:=aa hT.low;have aU:=aa hS;have hml:=hS.1;rw[aR.out];clear hP hT hS h0;go_enter Yw,ntmps80;go_wp2;go_loopw [3,11] (λv i wr=>∃(k:Nat),k<=m.length/\i=.int .i64 k/\wr.ownsRow w.heap.size 9 1 v ((m.take k).map oL).length (kA ((m.take k).map oL))/\Below w.heap.size w wr) (λ_ i _=>m.length-(intOf i).toNat)
 case atStart=>exact⟨0,Nat.zero_le _,rfl,dJ _ _ _ _,Below.refl _ _⟩
 case round=>
  obtain⟨k,hk,rfl,hown,hb⟩:=hrel;have hB:=hb.size;have aD:=aa hb;by_cases hlt:k<m.length
  ·(have i1:(k:Int)<(m.length:Int):=by omega);rcases bU.out.below hb with h|⟨b,off,rfl,hlb,hc⟩
   .subst h;simp at hlt
   (obtain⟨c0,c1,c2⟩:=hc k hlt;(have hg:m.getD k (0,0,0)=m[k]:=by rw[List.getD_eq_getElem?_getD,List.getElem?_eq_getElem hlt];rfl);rw[hg]at c0 c1 c2;have hq:=aU.out.2 _ (List.getElem_mem hlt);have av0:=aeT hq;(have bx:Hid ((m.take (k+1)).map oL=(m.take k).map oL++[oL m[k]]):=by show _=_;rw[jZ m k hlt,List.map_append];rfl);(have hle:((m.take k).map oL).length<=100:=by simp;omega);have aJ:Hid (oL m[k]=dK m[k].1++45::dK m[k].2.1++58::dK m[k].2.2):=rfl;have yC:=aa (aX.out.below hb);obtain⟨hx,hy,hz⟩:=hq;obtain⟨hl1,lF,Hp⟩:=av0;generalize oL m[k]=pf at*;generalize (m.take k).map oL=L at*;generalize m[k].1=x at*;generalize m[k].2.1=y at*;generalize m[k].2.2=z at*;clear hg hc hb;have ak:Hid ((⟨(dK x).toArray⟩:ByteArray)++⟨#[45]⟩++⟨(dK y).toArray⟩++⟨#[58]⟩++⟨(dK z).toArray⟩=⟨pf.toArray⟩):=by show _=_;rw[aJ.out,show (⟨#[45]⟩:ByteArray)=⟨([45]:List UInt8).toArray⟩from rfl,show (⟨#[58]⟩:ByteArray)=⟨([58]:List UInt8).toArray⟩from rfl,uS,uS,uS,uS];simp);(have e1:¬9223372036854775807<(dK x).length+1:=by omega);(have e2:¬9223372036854775807<(dK x).length+1+(dK y).length:=by omega);(have e3:¬9223372036854775807<(dK x).length+1+(dK y).length+1:=by omega);(have iJ:¬9223372036854775807<(dK x).length+1+(dK y).length+1+(dK z).length:=by omega);go_wp2_with fail;obtain⟨aO,CI⟩:∃q,q=wr.alloc (.cells #[.int .i64 x,.int .i64 y,.int .i64 z] 176):=⟨_,rfl⟩;(have bT:Below wr.heap.size wr aO:=by rw[CI];exact ax wr _);(have p0:aO.cell? ⟨wr.heap.size,0,η⟩=θ (.int .i64 x):=by rw[CI];simp);(have p1:aO.cell? ⟨wr.heap.size,1,η⟩=θ (.int .i64 y):=by rw[CI];simp);(have p2:aO.cell? ⟨wr.heap.size,2,η⟩=θ (.int .i64 z):=by rw[CI];simp);(have I8:wr.heap.size<aO.heap.size:=by rw[CI];simp);rw[<-CI];clear CI c0 c1 c2;refine Go.wp_region_held (S:=λw3=>w3.cell? ⟨wr.heap.size,0,η⟩=θ (.int .i64 x)/\w3.cell? ⟨wr.heap.size,1,η⟩=θ (.int .i64 y)/\w3.cell? ⟨wr.heap.size,2,η⟩=θ (.int .i64 z)) (by kernel_rfl) ?_;generalize dU:({aO with drawn:=aO.drawn+1 }:υ)=bW;(have dD:Below aO.heap.size aO bW:=by rw[<-dU];exact below_drewN (Below.refl _ _) 1);have rR:=aa (bK bT dD);have aeV:bW.cell? ⟨wr.heap.size,0,η⟩=θ (.int .i64 x)/\bW.cell? ⟨wr.heap.size,1,η⟩=θ (.int .i64 y)/\bW.cell? ⟨wr.heap.size,2,η⟩=θ (.int .i64 z):=⟨(dD.cell (p:=⟨wr.heap.size,0,η⟩) I8).trans p0,(dD.cell (p:=⟨wr.heap.size,1,η⟩) I8).trans p1,(dD.cell (p:=⟨wr.heap.size,2,η⟩) I8).trans p2⟩;have Vf:wr.heap.size<bW.heap.size:=Nat.lt_of_lt_of_le I8 dD.size;have aeW:∀u v:υ,wr.heap.size<u.heap.size->Below u.heap.size u v->(u.cell? ⟨wr.heap.size,0,η⟩=θ (.int .i64 x)/\u.cell? ⟨wr.heap.size,1,η⟩=θ (.int .i64 y)/\u.cell? ⟨wr.heap.size,2,η⟩=θ (.int .i64 z))->v.cell? ⟨wr.heap.size,0,η⟩=θ (.int .i64 x)/\v.cell? ⟨wr.heap.size,1,η⟩=θ (.int .i64 y)/\v.cell? ⟨wr.heap.size,2,η⟩=θ (.int .i64 z):=λu v hu hv h=>⟨(hv.cell (p:=⟨wr.heap.size,0,η⟩) hu).trans h.1,(hv.cell (p:=⟨wr.heap.size,1,η⟩) hu).trans h.2.1,(hv.cell (p:=⟨wr.heap.size,2,η⟩) hu).trans h.2.2⟩;have Nu:=aa aeW;have Vg:Hid (∀v,Below wr.heap.size wr v->gv v):=λv h=>(yC.out.below (h.mono hB)).tab;clear dU p0 p1 p2 bT dD I8 aeW;refine tk 0 ?_;refine tk 1 ?_;refine tk 2 ?_;refine tk 5 ?_;refine tk 6 ?_;refine tk 10 ?_;refine tk 11 ?_;refine eL (i:=3) rfl (by kernel_rfl) (λK hK=>?_);go_simp;refine(EX x (by omega) bW (Vg.out _ rR.out)).mono ?_;rintro e w7 ⟨rfl,ko⟩;have Vh:=Nu.out _ _ Vf ko aeV;have r5:=aa (bK rR.out ko);have Vi:wr.heap.size<w7.heap.size:=Nat.lt_of_lt_of_le Vf ko.size;refine hK.out _ _ Vh (λ_=>?_);clear hK K aeV ko Vf rR;(try simp only[dz,List.setIfInBounds_toArray,List.set_cons_zero,List.set_cons_succ]);refine tk 4 ?_;refine eL (i:=7) rfl (by kernel_rfl) (λK hK=>?_);go_simp;refine(EX y (by omega) w7 (Vg.out _ r5.out)).mono ?_;rintro e jf ⟨rfl,AA⟩;have Vj:=Nu.out _ _ Vi AA Vh;have Vk:=aa (bK r5.out AA);have Vl:wr.heap.size<jf.heap.size:=Nat.lt_of_lt_of_le Vi AA.size;refine hK.out _ _ Vj (λ_=>?_);clear hK K Vh AA Vi r5;(try simp only[dz,List.setIfInBounds_toArray,List.set_cons_zero,List.set_cons_succ]);refine tk 8 ?_;refine tk 9 ?_;refine eL (i:=12) rfl (by kernel_rfl) (λK hK=>?_);go_simp;refine(EX z (by omega) jf (Vg.out _ Vk.out)).mono ?_;rintro e uG ⟨rfl,yB⟩;have BV:=Nu.out _ _ Vl yB Vj;have Vm:=aa (bK Vk.out yB);have av1:wr.heap.size<uG.heap.size:=Nat.lt_of_lt_of_le Vl yB.size;refine hK.out _ _ BV (λ_=>?_);clear hK K Vj yB Vl Vk;(try simp only[dz,List.setIfInBounds_toArray,List.set_cons_zero,List.set_cons_succ]);refine tk 13 ?_;rw[ak.out];refine eL (i:=14) rfl (by kernel_rfl) (λK hK=>?_);go_simp;have rN:=Nu.out _ _ av1 (ax uG (.cells #[.string ⟨pf.toArray⟩] 9)) BV;refine hK.out _ _ rN (λ_=>?_);clear hK K BV;(try simp only[dz,List.setIfInBounds_toArray,List.set_cons_zero,List.set_cons_succ]);refine eL (i:=15) rfl (by kernel_rfl) (λK hK=>?_);refine avY rfl _ _ rfl w.heap.size L _ rfl uG pf (cE hown Vm.out) rfl rfl (Nat.le_trans hB Vm.out.size) (by omega) ?_;intro gg dm zS aeX I3 Nv;(have Nw:wr.heap.size<(uG.alloc (.cells #[.string ⟨pf.toArray⟩] 9)).heap.size:=by simp;omega);(have hne:θ wr.heap.size≠u3.ownBlock:=λe=>by have:=(hown.lt _ e.symm).2;omega);have aeY:zS.cell? ⟨wr.heap.size,0,η⟩=θ (.int .i64 x)/\zS.cell? ⟨wr.heap.size,1,η⟩=θ (.int .i64 y)/\zS.cell? ⟨wr.heap.size,2,η⟩=θ (.int .i64 z):=⟨(Nv.cell_far ⟨wr.heap.size,0,η⟩ Nw hne).trans rN.1,(Nv.cell_far ⟨wr.heap.size,1,η⟩ Nw hne).trans rN.2.1,(Nv.cell_far ⟨wr.heap.size,2,η⟩ Nw hne).trans rN.2.2⟩;have av2:=aa aeX;have av3:=aa ((aD.out.trans (Vm.out.mono hB)).trans I3);refine hK.out _ _ aeY (λ_=>?_);clear hK K rN aeX I3 Nv Nw hne hown;(try simp only[dz,List.setIfInBounds_toArray,List.set_cons_zero,List.set_cons_succ]);refine tk 16 ?_;refine gU (by kernel_rfl) ?_ _;clear aeY;go_wp2;go_roundw
   case rel=>exact⟨k+1,by omega,by go_num,by rw[bx.out,List.length_append];exact av2.out,av3.out⟩
   case measure=>simp[intOf];omega
  ·(have c6:k=m.length:=by omega);rw[c6,List.take_length]at hown;obtain⟨E3,c',e,hcl,lq⟩:=IA hown;subst e;have hs:=Ua 44 E3 c' (m.map oL) wr lq hcl (by simp;omega) (by have:=cA.out;omega);rw[List.length_map]at hs;clear hown lq hcl hb;go_wp2_with fail;refine hs.mono ?_;rintro e w2 ⟨rfl,aq⟩;have aN:=aa (bK aD.out aq);clear hs aq;go_wp2;go_ret;exact⟨rfl,aN.out⟩
theorem av4 g la ea lc ec p fr w(hG:cL w la ea g)(hT:gv w):Ξ ah 48 #[.agg #[.int .i64 g.hor,.slice la g.lives.length lc,.slice ea g.af.length ec],.int .i64 p,.int .i64 fr] w λe w'=>(∃s,e=.returned (.tuple #[.string ⟨s.toArray⟩,.int .i64 (gh g p fr)])/\(gh g p fr=0->s=vO ((List.range g.lives.length).map λv=>lI (fT g p.toNat fr v g.hor.toNat))/\s.length<=100000)/\Below w.heap.size w w')\/(¬eH eX w.tape/\∃ch,e=.panicked ch/\ji w'):=by
 obtain⟨w1,hw1⟩:∃x,x=w.alloc (.cells #[.int .i64 g.hor,.slice la g.lives.length lc,.slice ea g.af.length ec] 59):=⟨_,rfl⟩;have aA:s7 w w1 w.heap.size g la ea lc ec:=by rw[hw1];exact xW w g la ea lc ec 59
 have g0:=aA.c0;have g1:=aA.c1;have g2:=aA.c2;have cY:=hw1.symm;by_cases hE:gh g p fr=0
 .obtain⟨q,rfl,hq⟩:=avV hE;have h0:aK g=0:=by
   unfold gh at hE;split at hE
   .assumption
   .exact absurd hE (by assumption)
  have h1:=avw g la ea lc ec q fr w1 (hG.below aA.aQ) hE h0 (avH g la ea lc ec q h0 hq);have Nx:Hid (∀v,v<g.lives.length->Nt (fT g q fr v g.hor.toNat)):=λv hv=>avW h0 hq fr hv;have hlv:=(ei h0).tF;have aS:=aa aA;have aX:=aa hT.low;rw[hE];have gw:Hid ((q:Int).toNat=q):=by show _=_;omega
  rw[gw.out];clear hG aA hw1 hE h0 hT hq;go_enter Yr,ntmps48;go_wp2_with fail;refine h1.mono ?_;rintro e w2 (⟨go,val,T,r,rfl,I4,aeZ, -,aq⟩|⟨hz,ch,rfl,hd⟩)
  .have aN:=aa (aS.out.below aq).aQ;have cu:=aa I4;have ae0:=aa aeZ;clear h1 cY g0 g1 g2 aq aS I4 aeZ;have hgo:go<w2.heap.size:=(cu.out.own.lt go rfl).2;go_wp2_with fail;go_loopw [11,27] (λv i wr=>∃(k:Nat),k<=g.lives.length/\i=.int .i64 k/\wr.ownsRow w2.heap.size 9 1 v ((List.range k).map λv=>lI (fT g q fr v g.hor.toNat)).length (kA ((List.range k).map λv=>lI (fT g q fr v g.hor.toNat)))/\Below w2.heap.size w2 wr) (λ_ i _=>g.lives.length-(intOf i).toNat)
   case atStart=>exact⟨0,Nat.zero_le _,rfl,dJ _ _ _ _,Below.refl _ _⟩
   case round=>
    obtain⟨k,hk,rfl,hown,hb⟩:=hrel;have hB:=hb.size;have aD:=aa hb;by_cases hlt:k<g.lives.length
    ·(have i1:(k:Int)<(g.lives.length:Int):=by omega);(have oh:wr.cell? ⟨go,k,η⟩=θ (val k):=by rw[hb.cell (p:=⟨go,k,η⟩) hgo];exact cu.out.out hlt);obtain⟨pa,pc,hv,hP⟩:=j6 (cu.out.lV k hlt);rw[hv]at oh;have hpi:=avZ pa pc (T k) wr (hP.below hb) (by rw[ae0.out k hlt];exact Nx.out k hlt) (aX.out.below (aN.out.trans (hb.mono aN.out.size))).tab;rw[ae0.out k hlt]at oh hpi;(have bx:Hid ((List.range (k+1)).map (λv=>lI (fT g q fr v g.hor.toNat))=((List.range k).map λv=>lI (fT g q fr v g.hor.toNat))++[lI (fT g q fr k g.hor.toNat)]):=by show _=_;rw[List.range_succ,List.map_append];rfl);(have hle:((List.range k).map λv=>lI (fT g q fr v g.hor.toNat)).length<=12:=by simp;omega);generalize ((List.range k).map λv=>lI (fT g q fr v g.hor.toNat))=L at*;generalize fT g q fr k g.hor.toNat=m at*;clear hP hv hb;go_wp2_with fail;refine hpi.mono ?_;rintro e w3 ⟨rfl,aB⟩;have IF:=aB.size;go_wp2_with(at_builtin;refine adL rfl _ _ rfl w2.heap.size L _ rfl w3 (lI m) (cE hown aB) rfl rfl (by omega) (by omega) ?_);intro gg dm w4 rK hb4;have av5:=aa rK;have cr:=aa ((aD.out.trans (aB.mono hB)).trans hb4);clear hown rK hb4 aB hpi;go_wp2;go_roundw
     case rel=>exact⟨k+1,by omega,by go_num,by rw[bx.out,List.length_append];exact av5.out,cr.out⟩
     case measure=>simp[intOf];omega
    ·(have c6:k=g.lives.length:=by omega);rw[c6]at hown;obtain⟨E3,c',e,hcl,lq⟩:=IA hown;subst e;have hjl:(jn 32 ((List.range g.lives.length).map λv=>lI (fT g q fr v g.hor.toNat))).length<=12*6601:=by
      have h1:=Iz 32 6600 ((List.range g.lives.length).map λv=>lI (fT g q fr v g.hor.toNat)) (λx hx=>by
       obtain⟨v,hv,rfl⟩:=List.mem_map.1 hx;exact(aeU (Nx.out v (List.mem_range.1 hv))).2)
      rw[List.length_map,List.length_range]at h1;omega
     have av6:Hid ((vO ((List.range g.lives.length).map λv=>lI (fT g q fr v g.hor.toNat))).length<=100000):=by
      show _<=_;unfold vO;split
      .simp[RF]
      .omega
     have hs:=adC E3 c' ((List.range g.lives.length).map λv=>lI (fT g q fr v g.hor.toNat)) wr lq hcl (by simp;omega) (by omega);clear hown lq hcl hb hjl;generalize hL:((List.range g.lives.length).map λv=>lI (fT g q fr v g.hor.toNat))=L at*;have av7:=aa hL;clear hL;go_wp2_with fail;refine hs.mono ?_;rintro e w3 ⟨rfl,aB⟩;have bw:=aa ((aN.out.trans ((aD.out).mono aN.out.size)).trans (aB.mono (Nat.le_trans aN.out.size aD.out.size)));clear hs aB;go_wp2;go_ret2;exact .inl ⟨_,rfl,λ_=>⟨by rw[av7.out],av6.out⟩,bw.out⟩
  .exact⟨rfl,.inr ⟨λh=>hz (by rw[aS.out.aQ.tape];exact h),ch,rfl,hd⟩⟩
 .have h1:=avv g la ea lc ec p fr w1 (hG.below aA.aQ) hE;have aS:=aa aA;have bx:=aa hE;have e1:(gh g p fr==0)=false:=by simpa using hE
  generalize gh g p fr=x at*;clear hG aA hw1 hE;go_enter Yr,ntmps48;go_wp2_with fail;refine h1.mono ?_;rintro e w2 ⟨rfl,aq⟩;have aJ:=aa (aS.out.below aq).aQ;clear h1 cY g0 g1 g2 aq aS;go_wp2;exact cR (v:=.tuple #[.string ⟨#[]⟩,.int .i64 x]) (by simp[results,results48,go_sem]) rfl (.inl ⟨[],rfl,λh=>absurd h bx.out,aJ.out⟩)
end Go.Proofs.YtfphigmeppdocaaGreatDoor.Q
