/-
  Several texts in one.
-/
import Derived.OrdersHeld
import Derived.Deep.RegionHeld
import Derived.Shelf.Strings.Builder1
import Derived.Shelf.Strings.Builder2
import Derived.Shelf.Strings.OnBuilder
import Derived.Shelf.Small.Bits
import Derived.Shelf.Strings.BuilderF
import Derived.Shelf.Strings.BuilderK
import Derived.Shelf.Strconv.Itoa0
import Derived.Shelf.Strconv.Itoa1
import Derived.Shelf.LaysM
import Derived.Shelf.Strconv.Itoa2
import Derived.Shelf.Strconv.Itoa3
import Derived.Shelf.Strings.Search1
import Derived.Shelf.Strings.Search2
import Derived.Shelf.Strings.Search3
import Derived.Shelf.Strings.Cut
import Derived.Shelf.Strings.Count
import Derived.Shelf.Strings.Shaped
import Derived.Shelf.Sort.Plain
import Derived.Shelf.Strings.Prefix
import Derived.Shelf.Strings.Split
import Derived.Shelf.Strings.SplitShaped
import Derived.Shelf.Bits.Mul64
import Derived.Ground.Names2Prog
import Derived.Shelf.Slices.CompactI
import Derived.Shelf.Slices.In.SortNone
import Derived.Ground.NamesProg
import Derived.Conc.LeavingOf
import Derived.Conc.Holds
import Derived.ShapedOpen
import Derived.Shelf.Vars
import Derived.SizedLaws
import Derived.SevenTiedAt
import Derived.OwnWalk
import Derived.Laws.CopyOwn
import Derived.OneCell
import Derived.Maps.OwnSet
import Derived.DeepKeys4
import Derived.Test.YtfphigmeppdocaaGreatDoorPk2
open Array renaming getElem?_eq_some_iff->ξ,replicate->Δ,getElem?_eq_none->gx,length_toList->jk,getElem?_push->iV,getElem?_eq_getElem->qT,eq_push_pop_back!_of_size_ne_zero->Ll,getElem?_setIfInBounds->wL,all_eq_true_iff_forall_mem->Fs,getElem_push->Rn,ext->Ro
open Bool renaming true->ν,false->ο
open Go renaming World->υ,TypeId->Θ,Calls->Ξ,Value->ay,bodyPost_ret->cR,info_parts->er,wpAnyH_done->gU,ownsRow_setCell_other->ug,madeCells->fo,wp_region_held->sU,Addr->bP,wpQuiet_nil->pq,mem_ready->lz,wpList_make_full->uh,wp_region_noPanic->BC,step_append_lies->DY,wrap_small->uj,getD_set_true->zj,wpAny->j3,results_none->BD,wp_region_any->Rp,bodyPost_end->DZ,wpAnyH->zk,wpAny_of_quiet->Zv,DataW->GU
open Go.Act renaming put->dz
open Go.Addr renaming add->jT
open Go.Addr.mk renaming injEq->GV
open Go.DataW renaming weightsEach->Zw
open Go.Ending renaming returned->sH
open Go.Exit renaming inBlock->lB
open Go.Instr renaming mapUpdate->C2
open Go.IntKind renaming signed->zl,bits->u6,wrap->zm
open Go.Lib renaming cell_of_heap->eu,itoa->dK,byteCells->mW,frozen_of_heap->vH,pow10Tab->Rq,cut->uk,TabIs->Lm,countB->GW,IsBuilderF->Zx
open Go.NoPanic renaming normal->rB
open Go.OpenSpec renaming ofChange->D2
open Go.Region renaming wanted->cF,ready->dZ,binds->k9,lexB->zn,noSelect->GX,Mode->D3
open Go.Result renaming andThen->qW
open Go.Sort renaming grow->Rs
open Go.Value renaming int->bM,string->gV,ownBlock->oG,slice->j4,oneCell'->zo,bool->sw,agg->BF
open Go.Value.slice renaming injEq->jU
open Go.World renaming ownsRow_nil->dJ,cell?->c7,setCell->eV,news_of_block->nR,size_alloc->lC,var?->BG
open Go.World.ownsRow renaming alloc->fW,frozenAt->mX,lt->kL,cellAt->qi,stored->xE
open Option renaming none->η,some->θ,getD_some->Ω,isSome_some->gu,isSome_none->ic,getD_none->jG,map_some->nK,isNone_iff_eq_none->AU,bind_some->C5
open Option.some renaming injEq->Γ,inj->jP
open Prod.mk renaming injEq->l8
set_option linter.unusedSimpArgs false
set_option maxHeartbeats 8000000
set_option maxRecDepth 100000
namespace Go.Proofs.YtfphigmeppdocaaGreatDoor.Q
open Lo (ah)
open Go.Proofs.Tryz
open Go.RowKit
variable{ops:Array Oper}{cs:Array ay}{d h how t t0 v v0:Int}{F:Int->Int->Option Int}{q:Int×Int×Int}{l:List (Int×Int)}{m:List (Int×Int×Int)}{al:List Bool}{S T ns x:List Int}{xs:List ay}{B cap e aT i j k n r:Nat}{val:Nat->ay}{o st:Oper}{ao:Option bP}{P:Program}{cO cG:ay}{W W' w w' w0:υ}
variable{g:bg}{L:List (eF×ay)}
def D4(o:Option Int):Value:=.tuple #[.int .i64 (o.getD 0),.bool o.isSome]
theorem Ln{l}(h:¬(1<=l.length/\l.length<=4/\¬(l.head?=θ 48/\1<l.length)/\∀b∈l,nP b=ν)):nm l=none:=by unfold nm;rw[ς (λk=>h ((Zk l).1 k))]
theorem am2{l}(h:1<=l.length/\l.length<=4/\¬(l.head?=θ 48/\1<l.length)/\∀b∈l,nP b=ν):nm l=θ ((nv 0 l:Nat):Int):=by unfold nm;rw[χ ((Zk l).2 h)]
theorem oK(s:ByteArray):s.toList=s.data.toList:=ByteArray.toList_eq s
theorem am3(l:List UInt8)k(h:k<l.length):nv 0 (l.take (k+1))=10*nv 0 (l.take k)+(l[k].toNat- 48):=by rw[List.take_succ_eq_append_getElem h,Zl]
theorem am4(l:List UInt8)k(h:k<l.length)(hk:∀b∈l.take k,nP b=ν)(hb:nP l[k]=ν):∀b∈l.take (k+1),nP b=true:=by
 intro b hb';rw[List.take_succ_eq_append_getElem h]at hb';rcases List.mem_append.1 hb' with q|q
 .exact hk b q
 .rw[List.mem_singleton.1 q];exact hb
theorem byte_at(s:ByteArray)k(h:k<s.size)(h':k<s.data.toList.length):s.data.toList[k]=s[k]'h:=by simp[ByteArray.getElem_eq_getElem_data]
theorem am5(s:ByteArray)k(h:k<s.size):s[k]∈s.data.toList:=by
 have h':k<s.data.toList.length:=by rw[jk];exact h
 rw[<-byte_at s k h h'];exact List.getElem_mem h'
theorem am6(s:ByteArray)k(h:k<s.size):nv 0 (s.data.toList.take (k+1))=10*nv 0 (s.data.toList.take k)+(s[k].toNat- 48):=by
 have h':k<s.data.toList.length:=by rw[jk];exact h
 rw[am3 _ k h',byte_at s k h h']
theorem am7(s:ByteArray)k(h:k<s.size)(hk:∀b∈s.data.toList.take k,nP b=ν)(hb:nP s[k]=ν):∀b∈s.data.toList.take (k+1),nP b=true:=by
 have h':k<s.data.toList.length:=by rw[jk];exact h
 exact am4 _ k h' hk (by rw[byte_at s k h h'];exact hb)
theorem Rt s w:Ξ ah 36 #[.string s] w λe w'=>e=.returned (D4 (nm s.data.toList))/\w'=w:=by
 have hsz:s.data.toList.length=s.size:=by rw[jk];rfl
 by_cases h0:s.size=0
 .have hE:s.toList=[]:=by rw[oK];exact List.eq_nil_of_length_eq_zero (by omega)
  have aR:=aa (Ln (l:=s.data.toList) (λk=>by omega));go_enter KV,ntmps36;go_wp2;rw[aR.out];go_ret2;exact⟨rfl,rfl⟩
 have hne:s.toList.isEmpty=false:=by
  rw[oK];cases hl:s.data.toList with
  |nil=>rw[hl]at hsz;simp at hsz;omega
  |cons _ _=>rfl
 have GY:¬s.toList=[]:=λk=>by rw[k]at hne;simp at hne
 by_cases h4:4<s.size
 .have aR:=aa (Ln (l:=s.data.toList) (λk=>by omega));have vk:(4:Int)<(s.size:Int):=by omega
  go_enter KV,ntmps36;go_wp2;rw[aR.out];go_ret2;exact⟨rfl,rfl⟩
 have vk:(s.size:Int)<=4:=by omega
 have hp:0<s.size:=by omega
 have H0:Hid (s.data.toList.head?=θ (s[0]'hp)):=by show _=_;rw[List.head?_eq_getElem?,List.getElem?_eq_getElem (by rw[hsz];exact hp)];rfl
 have H1:Hid (s.toList=s.data.toList):=oK s;by_cases hz:s.data.toList.head?=θ 48/\1<s.data.toList.length
 .have aR:=aa (Ln (l:=s.data.toList) (λk=>k.2.2.1 hz));have e0:s[0]=48:=by have:=H0.out;rw[hz.1]at this;exact(jP this).symm
  have e1:(s.toList==[48])=false:=by(have:¬s.toList=[48]:=λk=>by rw[H1.out]at k;rw[k]at hz;simp at hz);simpa using this
  go_enter KV,ntmps36;go_wp2
  .rw[aR.out];go_ret2;exact⟨rfl,rfl⟩
 .have hd:(s[0]=48/\(s.toList==[48])=ν)\/¬(s[0].toNat:Int)=48:=by
   by_cases e:s[0]=48
   .refine .inl ⟨e,?_⟩;have h1:s.data.toList.length<=1:=by
     rcases Nat.lt_or_ge 1 s.data.toList.length with k|k
     .exact absurd ⟨by rw[H0.out,e],k⟩ hz
     .exact k
    rw[H1.out];cases hl:s.data.toList with
    |nil=>rw[hl]at hsz;simp at hsz;omega
    |cons a t=>
     have h2:=H0.out;rw[hl,List.head?_cons,e]at h2;rw[hl]at h1;have:t=[]:=List.eq_nil_of_length_eq_zero (by rw[List.length_cons]at h1;omega);rw[this,jP h2];rfl
   .exact .inr λk=>e (UInt8.toNat_inj.1 (by have:(48:UInt8).toNat=48:=rfl;omega))
  have mE:=aa hz;have BH:=aa hsz;rcases hd with⟨e0,e1⟩|e0;all_goals
   go_enter KV,ntmps36;go_wp2;go_loopw [4,24] (λn i wr=>∃k:Nat,k<=s.size/\i=.int .i64 k/\n=.int .i64 (nv 0 (s.data.toList.take k):Nat)/\(∀b∈s.data.toList.take k,nP b=ν)/\wr=w) (λ_ i _=>s.size-(intOf i).toNat)
   case atStart=>exact⟨0,Nat.zero_le _,rfl,rfl,by simp,rfl⟩
   case round=>
    obtain⟨k,hk,rfl,rfl,hall,rfl⟩:=hrel;have cu:=aa hall;by_cases hlt:k<s.size
    .have e6:=aa (am6 s k hlt);have Zy:=aa (amQ _ cu.out (by simp;omega));by_cases hg:nP s[k]=ν
     .have hg2:=(Rc _).1 hg;(have g1:(48:Int)<=(s[k].toNat:Int):=by omega);(have g2:(s[k].toNat:Int)<=57:=by omega);(have g3:IntKind.u8.wrap ((s[k].toNat:Int)- 48)=(s[k].toNat:Int)- 48:=by unfold zm;simp[u6,zl];omega);have sV:=aa (am7 s k hlt cu.out hg);have g4:IntKind.i64.wrap (10*((nv 0 (s.data.toList.take k):Nat):Int))=10*((nv 0 (s.data.toList.take k):Nat):Int):=uj _ (by omega) (by have:=Zy.out;omega);have g5:IntKind.i64.wrap (10*((nv 0 (s.data.toList.take k):Nat):Int)+((s[k].toNat:Int)- 48))=10*((nv 0 (s.data.toList.take k):Nat):Int)+((s[k].toNat:Int)- 48):=uj _ (by omega) (by have:=Zy.out;omega);go_wp2;go_roundw
      case rel=>exact⟨k+1,by omega,by go_num,by rw[e6.out];congr 1;omega,sV.out,trivial⟩
      case measure=>simp[intOf];omega
     .have aR:=aa (Ln (l:=s.data.toList) (λq=>hg (q.2.2.2 _ (am5 s k hlt))));have hg2:¬(48<=s[k].toNat/\s[k].toNat<=57):=λq=>hg ((Rc _).2 q);go_wp2;all_goals first
       |(exfalso;omega)
       |(rw[aR.out];go_ret2;exact⟨rfl,rfl⟩)
    ·(have c6:k=s.size:=by omega);subst c6;have ht:s.data.toList.take s.size=s.data.toList:=List.take_of_length_le (by rw[BH.out];exact Nat.le_refl _);rw[ht]at cu ⊢;have aR:=aa (am2 (l:=s.data.toList) ⟨by rw[BH.out];omega,by rw[BH.out];omega,mE.out,cu.out⟩);go_wp2;rw[aR.out];go_ret2;exact⟨rfl,rfl⟩
def Ru(w:υ)(ao:Option bP)(ws:List ByteArray):Prop:=
 ws=[]\/∃b off,ao=θ ⟨b,off,η⟩/\b<w.heap.size/\∀j (h:j<ws.length),w.cell? ⟨b,off+j,η⟩=θ (.string ws[j])
theorem Rv:∀{a:List (List UInt8)} (b:List (List UInt8)),fD a=η->fD (a++b)=η
 |[],b,h=>by simp[fD]at h
 |w::a,b,h=>by
  rw[List.cons_append,fD];rw[fD]at h;cases e:nm w with
  |none=>rfl
  |some n=>
   rw[e]at h;cases e2:fD a with
   |none=>simp only[Rv b e2]
   |some l=>rw[e2]at h;simp at h
theorem Rw:∀{a:List (List UInt8)}{w:List UInt8},nm w=η->fD (a++[w])=η
 |[],w,h=>by simp[fD,h]
 |x::a,w,h=>by rw[List.cons_append,fD,Rw h];cases nm x<;>rfl
theorem Rx:∀{a:List (List UInt8)}{w:List UInt8}{l:List Int}{n:Int},fD a=θ l->nm w=θ n->fD (a++[w])=θ (l++[n])
 |[],w,l,n,h,hn=>by simp[fD]at h;subst h;simp[fD,hn]
 |x::a,w,l,n,h,hn=>by
  rw[fD]at h;rw[List.cons_append,fD];cases e:nm x with
  |none=>rw[e]at h;simp at h
  |some m=>
   rw[e]at h;cases e2:fD a with
   |none=>rw[e2]at h;simp at h
   |some l' =>
    rw[e2]at h;simp only[Γ]at h;subst h;simp only[Rx e2 hn,List.cons_append]
theorem Ry:∀{a:List (List UInt8)}{l:List Int},fD a=θ l->l.length=a.length
 |[],l,h=>by simp[fD]at h;subst h;rfl
 |x::a,l,h=>by
  rw[fD]at h;cases e:nm x with
  |none=>rw[e]at h;simp at h
  |some m=>
   rw[e]at h;cases e2:fD a with
   |none=>rw[e2]at h;simp at h
   |some l' =>
    rw[e2]at h;simp only[Γ]at h;subst h;simp[Ry e2]
def um(ws:List ByteArray):Option (List Int):=fD (ws.map λs=>s.data.toList)
theorem am8{ws}(h:k<ws.length):(∀l n,um (ws.take k)=θ l->nm ws[k].data.toList=θ n->um (ws.take (k+1))=θ (l++[n]))/\(nm ws[k].data.toList=η->um ws=η):=by
 refine⟨λl n h1 h2=>?_,λh2=>?_⟩
 .unfold um;rw[List.take_succ_eq_append_getElem h,List.map_append];exact Rx h1 h2
 .unfold um;have e:ws=ws.take (k+1)++ws.drop (k+1):=(List.take_append_drop _ _).symm;have e2:ws.map (λs=>s.data.toList)=(ws.take k).map (λs=>s.data.toList)++[ws[k].data.toList]++(ws.drop (k+1)).map (λs=>s.data.toList):=by
   conv=>lhs;rw[e]
   rw[List.map_append,List.take_succ_eq_append_getElem h,List.map_append];rfl
  rw[e2];exact Rv _ (Rw h2)
theorem am9 ao cap ws w(hW:Ru w ao ws)(hn:ws.length<=100000):Ξ ah 103 #[.slice ao ws.length cap] w λe w'=>∃v,e=.returned (.tuple #[v,.bool (um ws).isSome])/\w'.ownsRow w.heap.size 3 1 v ((um ws).getD []).length (((um ws).getD []).map (bM .i64))/\Below w.heap.size w w':=by
 obtain⟨i0,hi,cg,hz1,bX⟩:=er Tryz.ua;go_enter ak5,ntmps103;go_wp2;go_loopw [4,11] (λv i wr=>∃(k:Nat) (l:List Int),k<=ws.length/\i=.int .i64 k/\um (ws.take k)=θ l/\l.length=k/\wr.ownsRow w.heap.size 3 1 v k (l.map (bM .i64))/\Below w.heap.size w wr) (λ_ i _=>ws.length-(intOf i).toNat)
 case atStart=>exact⟨0,[],Nat.zero_le _,rfl,rfl,rfl,dJ _ _ _ _,Below.refl _ _⟩
 case round=>
  obtain⟨k,l,hk,rfl,hl,uo,hown,hb⟩:=hrel;have cA:=aa hl;have Zz:=aa uo;have hsz:=hb.size;by_cases hlt:k<ws.length
  .rcases hW with h0|⟨b,off,rfl,fM,hc⟩
   .subst h0;simp at hlt
   have c0:=(hb.cell (p:=⟨b,off+k,η⟩) fM).trans (hc k hlt);have aU:=aa (am8 hlt);have hx:Hid (∀W,Ξ ah 36 #[.string ws[k]] W λe w'=>e=.returned (D4 (nm ws[k].data.toList))/\w'=W):=λW=>Rt _ W;(have i1:(k:Int)<(ws.length:Int):=by omega);(have i2:(0:Int)<=(k:Int):=by omega);generalize ws[k]=s at*;cases hm:nm s.data.toList with
   |none=>
    have aR:=aa (aU.out.2 hm);simp only[hm]at hx;go_wp2_with(go_at_call 36;refine(hx.out _).mono ?_;rintro e w1 ⟨rfl,rfl⟩;simp only[D4,jG,ic]);rw[aR.out];go_ret2;exact⟨_,rfl,dJ _ _ _ _,hb⟩
   |some n=>
    have aR:=aa (aU.out.1 l n cA.out hm);simp only[hm]at hx;go_wp2_with fail;refine(hx.out _).mono ?_;rintro e w1 ⟨rfl,rfl⟩;simp only[D4,Ω,gu];go_wp2_with(at_builtin;refine wpList_append_lies _ rfl _ _ 50 rfl w.heap.size 3 i0 (.int .i64 0) 1 8 ((cD 50).trans underlying50) hi cg hz1 bX rfl (by decide) _ _ _ rfl (fW (w:=w1) hown _) ⟨w1.heap.size,0,η⟩ 1 1 [.int .i64 n] rfl rfl ?c1 ?c2 (by decide) ?c3 ?c4 ?c5 (w1.heap.size+1) ?nS ?_)
    case c1=>exact nR (cs:=#[.int .i64 n]) (t:=3) (fr:=(0,0)) (heap_alloc_new w1 _)
    case c2=>intro u hu;simp at hu;subst hu;rfl
    case c3=>unfold maxLen;omega
    case c4=>omega
    case c5=>simp;omega
    case nS=>simp
    intro gg dm w2 j5 hgrow hat jl;have eA:=aa j5;have aN:=aa ((hb.alloc hsz (.cells #[.int .i64 n] 3)).grown hgrow (by simp;omega) (λj hj=>(hown.lt j hj).1));go_wp2;go_roundw
    case rel=>exact⟨k+1,l++[n],by omega,by go_num,aR.out,by simp[Zz.out],by rw[List.map_append];exact eA.out,aN.out⟩
    case measure=>simp[intOf];omega
  ·(have c6:k=ws.length:=by omega);subst c6;rw[List.take_length]at cA;go_wp2;rw[cA.out];go_ret2;exact⟨_,rfl,by simpa[Zz.out]using hown,hb⟩
open Go
def pz(ops:Array Oper):Bool:=(List.range ops.size).all λj=>match ops[j]? with
 |some o=>o.guard.isNone&&o.after.all λe=> !Region.binds .any e||decide (e.on<j)
 |none=>ν
def lastB(ops:Array Oper)(st:Oper):Bool:=st.guard.isNone&&(st.after.all (λe=> !Region.binds .any e||decide (e.on<ops.size))&&(List.range ops.size).all λj=>
 st.after.any (λe=>k9 .any e&&e.on==j)||(List.range ops.size).any λk=>decide (j<k)&&match ops[k]? with
  |some o=>o.after.any λe=>k9 .any e&&e.on==j
  |none=>ο)
theorem vI(h:pz ops=ν)(hj:ops[j]?=θ o):o.guard=η/\∀e∈o.after,k9 .any e=ν->e.on<j:=by have hlt:=(ξ.1 hj).1;have:=List.all_eq_true.1 h j (List.mem_range.2 hlt);simp only[hj,Bool.and_eq_true,AU,Fs]at this;refine⟨this.1,λe he hb=>?_⟩;have h2:=this.2 e he;rw[hb]at h2;simpa using h2
def Closed(ops:Array Oper)(listed:Array Bool):Prop:=∀(j:Nat) (o:Oper),ops[j]?=θ o->listed.getD j ν=ν->∀e∈o.after,k9 .any e=ν->listed.getD e.on ο=ν
theorem Rz{listed}(hf:pz ops=ν)(hsz:listed.size=ops.size)(hr:dZ .any ops listed=[]):∀j,j<ops.size->listed.getD j ο=true:=by
 intro j;induction j using Nat.strongRecOn with
 |_ j ih=>
  intro hj;have ho:=qT hj;cases hl:listed.getD j ο with
  |true=>rfl
  |false=>
   (have hm:j∈dZ .any ops listed:=by rw[lz];(have hj':j<listed.size:=by omega);refine⟨by simpa[hj']using hl,_,ho,λe he hb=>?_⟩;have:=(vI hf ho).2 e he hb;exact ih e.on this (by omega));rw[hr]at hm;cases hm
theorem D5{α:Type}{l:Array α}{p:α->Bool}(h:l.any p=ν):∃e∈l,p e=true:=by rw[<-Array.any_toList]at h;obtain⟨e,he,h2⟩:=List.any_eq_true.1 h;exact⟨e,by simpa using he,h2⟩
theorem ana{listed}(hl:lastB ops st=ν)(hc:Closed ops listed)(hsz:listed.size=ops.size)(hs:∀e∈st.after,k9 .any e=ν->e.on<ops.size->listed.getD e.on ο=ν):∀d j,j+d=ops.size->j<ops.size->listed.getD j ο=true:=by
 simp only[lastB,Bool.and_eq_true]at hl;intro d;induction d using Nat.strongRecOn with
 |_ d ih=>
  intro j hd hj;have h1:=List.all_eq_true.1 hl.2.2 j (List.mem_range.2 hj);rw[Bool.or_eq_true]at h1;rcases h1 with h1|h1
  .obtain⟨e,he,h2⟩:=D5 h1;rw[Bool.and_eq_true,wK]at h2;rw[<-h2.2];exact hs e he h2.1 (by rw[h2.2];exact hj)
  .obtain⟨k,hk,h2⟩:=List.any_eq_true.1 h1;rw[List.mem_range]at hk;rw[Bool.and_eq_true,kC]at h2;have ho:=qT hk;simp only[ho]at h2;obtain⟨e,he,h3⟩:=D5 h2.2;rw[Bool.and_eq_true,wK]at h3;have bp:=ih (d-(k-j)) (by omega) k (by omega) hk;rw[<-h3.2];refine hc k _ ho ?_ e he h3.1;(have hk':k<listed.size:=by omega);simpa[hk']using bp
theorem qo{l:Array Bool}d(h:j<l.size):(l.push ο).getD j d=l.getD j d:=by
 have h':j<(l.push ο).size:=by simp;omega
 unfold Array.getD;rw[dif_pos h',dif_pos h];exact Array.getElem_push_lt h
theorem D6(h:j<ops.size):(ops.push st)[j]?=ops[j]?:=by rw[iV,ς (by omega)]
theorem ZA{listed}(hf:pz ops=ν)(hl:lastB ops st=ν)(hc:Closed ops listed)(hsz:listed.size=ops.size)(hne:dZ .any ops listed≠[])i:i∈dZ .any (ops.push st) (listed.push ο)↔i∈dZ .any ops listed:=by
 rw[lz,lz];rcases Nat.lt_trichotomy i ops.size with hi|hi|hi
 .rw[qo ν (by omega),D6 hi];refine CQ λ_=>exists_congr λo=>CQ λho=>wJ λe=>wJ λhe=>wJ λhb=>?_;have:=(vI hf ho).2 e he hb;rw[qo ο (by omega)]
 .subst hi;constructor
  ·(rintro⟨_,o,ho,hall⟩;have ho':o=st:=by rw[iV,χ rfl]at ho;exact(jP ho).symm);subst ho';exfalso;apply hne;have GZ:=ana hl hc hsz (λe he hb hlt=>by have:=hall e he hb;rwa[qo ο (by omega)]at this);apply List.eq_nil_iff_forall_not_mem.2;intro j hj;rw[lz]at hj;obtain⟨h0,o,jH,_⟩:=hj;have kM:=(ξ.1 jH).1;have h1:=GZ (ops.size-j) j (by omega) kM;(have hj':j<listed.size:=by omega);simp[hj']at h0 h1;rw[h0]at h1;cases h1
  .rintro⟨_,o,ho,_⟩;rw[gx (Nat.le_refl _)]at ho;cases ho
 .constructor
  .rintro⟨_,o,ho,_⟩;rw[gx (by simp;omega)]at ho;cases ho
  .rintro⟨_,o,ho,_⟩;rw[gx (by omega)]at ho;cases ho
theorem ZB{listed:Array Bool}(hl:lastB ops st=ν)(hsz:listed.size=ops.size)(hall:∀j,j<ops.size->listed.getD j ο=ν)i:i∈dZ .any (ops.push st) (listed.push ο)↔i=ops.size:=by
 rw[lz];simp only[lastB,Bool.and_eq_true]at hl;rcases Nat.lt_trichotomy i ops.size with hi|hi|hi
 .have h1:=hall i hi;have hi':i<listed.size:=by omega
  constructor
  .rintro⟨h0,_⟩;rw[qo ν hi']at h0;simp[hi']at h0 h1;rw[h0]at h1;cases h1
  .intro h;omega
 .subst hi;refine⟨λ_=>rfl,λ_=>⟨by simp[<-hsz],st,by rw[iV,χ rfl],λe he hb=>?_⟩⟩;have h2:=Fs.1 hl.2.1 e he;rw[hb]at h2;have h3:e.on<ops.size:=by simpa using h2
  rw[qo ο (by omega)];exact hall e.on h3
 .constructor
  .rintro⟨_,o,ho,_⟩;rw[gx (by simp;omega)]at ho;cases ho
  .intro h;omega
theorem ZC{listed:Array Bool}(hsz:listed.size=ops.size)(hall:∀j,j<ops.size->listed.getD j ο=ν):dZ .any (ops.push st) ((listed.push ο).setIfInBounds ops.size ν)=[]:=by
 apply List.eq_nil_iff_forall_not_mem.2;intro j hj;rw[lz]at hj;obtain⟨h0,o,jH,_⟩:=hj;have kM:j<ops.size+1:=by simpa using(ξ.1 jH).1
 by_cases e:j=ops.size
 .subst e;simp[hsz]at h0
 .have hj':j<listed.size:=by omega
  have h1:=hall j (by omega);have h2:((listed.push ο).setIfInBounds ops.size ν).getD j ν=(listed.push ο).getD j true:=by exact getD_set_ne ν (Ne.symm e)
  rw[h2,qo ν hj']at h0;simp[hj']at h0 h1;rw[h0]at h1;cases h1
def lD(P:Program)(st:Oper)(Q:Exit->Act->υ->Prop):Exit->Act->υ->Prop
 | .normal,a,w=>st.wp P a w (λa' w'=>Q .normal a' w') Q
 |e,a,w=>Q e a w
theorem ZD{Q}{K K'}{a}(hK:∀a w,K a w->K' a w)(h:o.wp P a w K (lD P st Q)):o.wp P a w K' Q:=by
 unfold Oper.wp at*;generalize (execOp a.eval o).run P w=r at*;cases r with
 |ok n w' =>
  cases n<;>simp only[Oper.upon]at h ⊢<;>
   first
    |exact hK _ _ h
    |exact Calls.mono h (λe w'' he=>by cases e<;>first|exact hK _ _ he|exact he)
    |exact Rows.mono h (λ_ _ he=>hK _ _ he)
 |halt x w'=>cases x<;>simp only[Oper.upon]at h ⊢<;>exact h
theorem Lp{Q:Exit->Act->υ->Prop}(hf:pz ops=ν)(hl:lastB ops st=ν):∀(fuel:Nat) (listed:Array Bool) (a:Act) (w:υ),listed.size=ops.size->Closed ops listed ->
  j3 P .any ops (lD P st Q) fuel listed a w->j3 P .any (ops.push st) Q (fuel+1) (listed.push ο) a w:=by
 have hgd:st.guard=none:=by simp only[lastB,Bool.and_eq_true,AU]at hl;exact hl.1
 have fin:∀(fuel:Nat) (listed:Array Bool) (a:Act) (w:υ),listed.size=ops.size->dZ .any ops listed=[]->lD P st Q .normal a w->j3 P .any (ops.push st) Q (fuel+1) (listed.push ο) a w:=by
  intro fuel listed a w hsz hr hq;have hall:=Rz hf hsz hr;refine⟨λh=>?_,λi hi=>?_⟩
  .have:=(ZB (st:=st) hl hsz hall ops.size).2 rfl;rw[h]at this;cases this
  .rw[ZB hl hsz hall]at hi;subst hi;(have ho:(ops.push st)[ops.size]?=θ st:=by rw[iV,χ rfl]);unfold wpOp;simp only[ho,cF,hgd,dF];refine .inl (Oper.wp_mono (λa' w' h=>?_) hq);have hd:=ZC (st:=st) hsz hall;cases fuel with
   |zero=>exact⟨hd,h⟩
   |succ n=>exact⟨λ_=>h,by rw[hd];simp⟩
 intro fuel;induction fuel with
 |zero=>
  intro listed a w hsz hc h;exact fin 0 listed a w hsz h.1 h.2
 |succ fuel ih=>
  intro listed a w hsz hc h;by_cases hr:dZ .any ops listed=[]
  .exact fin (fuel+1) listed a w hsz hr (h.1 hr)
  .refine⟨λh0=>?_,λi hi=>?_⟩
   .exfalso;apply hr;apply List.eq_nil_iff_forall_not_mem.2;intro j hj;have:=(ZA hf hl hc hsz hr j).2 hj;rw[h0]at this;cases this
   .have hi':=(ZA hf hl hc hsz hr i).1 hi;have h1:=h.2 i hi';obtain⟨hun,o,ho,BI⟩:=lz.1 hi';have hilt:=(ξ.1 ho).1;(have ho':(ops.push st)[i]?=θ o:=by rw[D6 hilt];exact ho);have hg:=(vI hf ho).1;have RA:(listed.push ο).setIfInBounds i ν=(listed.setIfInBounds i ν).push false:=by
     apply Array.ext_getElem?;intro k;rw[wL,iV,iV,wL];(have hil:i<listed.size:=by omega);by_cases h3:i=k
     .subst h3;simp[hil,Nat.ne_of_lt hil];omega
     .simp[h3]
    have dV:Closed ops (listed.setIfInBounds i ν):=by
     intro j oj jH hlj e he hb;by_cases hij:i=j
     .subst hij;rw[ho]at jH;(cases jH);exact zj (BI e he hb)
     .rw[getD_set_ne ν hij]at hlj;exact zj (hc j oj jH hlj e he hb)
    unfold wpOp at h1 ⊢;simp only[ho,ho',cF,hg,dF]at h1 ⊢;rw[RA];refine h1.imp (λhh=>ZD (λa' w' hk=>ih _ a' w' (by simpa using hsz) dV hk) hh) (λhh=>⟨hh.1,hh.2⟩)
theorem anb{id}{Q}{S}{a}(hm:P.follows .mixedOrders=ν)(hf:pz ops=ν)(hl:lastB ops st=ν)(hS:S w.drew)(h:S w.drew->zk P .any ops (lD P st Q) S ops.size (Δ ops.size ο) a w.drew):(Code.region id (ops.push st) ν).wp P Q a w:=by
 refine Rp hm ?_;have h1:=wpAny_of_held _ _ _ _ (h hS);have h2:=Lp hf hl ops.size _ a w.drew (by simp) (by
  intro j o hj hlj;have:=(ξ.1 hj).1;simp[this]at hlj) h1
 have e1:(Δ ops.size ο).push ο=Δ (ops.push st).size false:=by
  apply Ro
  .simp
  .intro k h1 h2;simp[Rn]
 rw[e1]at h2;have e2:(ops.push st).size=ops.size+1:=by simp
 rw[e2]at h2 ⊢;exact h2
theorem anc{l:List Oper}{Q}{md:D3}{S}{oi}{v:ay}{fuel:Nat}{listed:Array Bool}{a:Act}(hi:l[i]?=θ oi)(hs:GX l.toArray=ν)(hf:Region.free md l.toArray listed i=ν)(hr:(dZ md l.toArray listed).contains i=ν)(hQ:∀c a w,Q (.panic c) (a.put oi.dst v) w->Q (.panic c) a w)(hy:YieldsIf P l.toArray S oi v a)(hS:S w)(h:zk P md l.toArray Q S fuel (listed.setIfInBounds i ν) (a.put oi.dst v) w):zk P md l.toArray Q S (fuel+1) listed a w:=
 wpAnyH_take (by simpa using hi) hs hf hr hQ hy hS h
theorem tk{l:List Oper}{Q}{md:D3}{S}{oi}{v:ay}{fuel:Nat}{listed:Array Bool}{a a':Act}i(h:zk P md l.toArray Q S fuel (listed.setIfInBounds i ν) a' w)(hi:l[i]?=θ oi:=by rfl)(hc:(GX l.toArray&&(Region.free md l.toArray listed i&&(dZ md l.toArray listed).contains i))=true:=by kernel_rfl)(hQ:∀c a w,Q (.panic c) (a.put oi.dst v) w->Q (.panic c) a w:=by exact λ_ _ _ h=>h)(hS:S w:=by assumption)(hy:YieldsIf P l.toArray S oi v a:=by(refine Or.inl ⟨by rfl,?_⟩;intro w hSw;(try dsimp only at hSw);go_simp;try with_reducible rfl))(ha:a.put oi.dst v=a':=by((try simp only[dz,List.setIfInBounds_toArray,List.set_cons_zero,List.set_cons_succ]);rfl)):zk P md l.toArray Q S (fuel+1) listed a w:=by simp only[Bool.and_eq_true]at hc;subst ha;exact anc hi hc.1 hc.2.1 hc.2.2 hQ hy hS h
theorem eL{l:List Oper}{Q}{md:D3}{S}{fuel}{listed}{a}(ho:l[i]?=θ o)(hr:dZ md l.toArray listed=[i])(h:∀K':Act->υ->Prop,Shut (∀a w,S w->(S w->zk P md l.toArray Q S fuel (listed.setIfInBounds i ν) a w)->K' a w)->if cF o (yielded l.toArray a.tmps)=ν then Oper.wp P o a w K' Q else K' (a.put o.dst undef) w):zk P md l.toArray Q S (fuel+1) listed a w:=
 wpAnyH_ready hr (by simp) (AllReadyH.cons (by simpa using ho) h AllReadyH.nil)
theorem D7{id}{full}{Q}{S}{a}(hm:P.follows .mixedOrders=ν)(hn:0<full.size)(hf:pz full.pop=ν)(hl:lastB full.pop full.back! =ν)(hS:S w.drew)(h:S w.drew->zk P .any full.pop (lD P full.back! Q) S full.pop.size (Δ full.pop.size ο) a w.drew):(Code.region id full ν).wp P Q a w:=by have e:full=full.pop.push full.back! :=(Ll (by omega));rw[e];exact anb hm hf hl hS h
theorem pE{Q}{a}(h:∀K,Shut (∀a w,Q .normal a w->K a w)->st.wp P a w K Q):lD P st Q .normal a w:=
 h (λa w=>Q .normal a w) (λ_ _ h=>h)
end Go.Proofs.YtfphigmeppdocaaGreatDoor.Q
namespace Go.Proofs.YtfphigmeppdocaaGreatDoor
open Lo (ah)
open Go.Proofs.Tryz
open Go.Shelf
def Tryz.lays169_ren:Go.Shelf.Ren:=⟨λ|169=>17|n=>n,λ|70=>32|9=>9|0=>0|72=>35|37=>33|127=>64|3=>3|5=>5|n=>n,λ|n=>n⟩
theorem Tryz.lays169:Go.Proofs.Lays.n169 ah Tryz.lays169_ren:={
 mixed:=by kernel_rfl
 f169:=bN func17
 t0:=bA underlying0
 a0:=bB isAgg0
 z0:=bC sizeOf0
 v0:=bE zeroValue0
 t3:=bA underlying3
 a3:=bB isAgg3
 z3:=bC sizeOf3
 v3:=bE zeroValue3
 t9:=bA underlying9
 a9:=bB isAgg9
 z9:=bC sizeOf9
 v9:=bE zeroValue9
 t37:=bA underlying33
 a37:=bB isAgg33
 z37:=bC sizeOf33
 v37:=bE zeroValue33
 t70:=bA underlying32
 a70:=bB isAgg32
 z70:=bC sizeOf32
 v70:=bE zeroValue32
 t72:=bA underlying35
 a72:=bB isAgg35
 z72:=bC sizeOf35
 v72:=bE zeroValue35
 t127:=bA underlying64
 a127:=bB isAgg64
 z127:=bC sizeOf64
 v127:=bE zeroValue64 }
theorem Tryz.Builder_Extra_169:Builder.Extra ah Tryz.lays169_ren:={
 sizeBuilder:=by kernel_rfl
 liesBuilder:=by kernel_rfl
 t5:=bA underlying5
 a5:=bB isAgg5
 z5:=bC sizeOf5
 v5:=bE zeroValue5
 infoByte:=by kernel_rfl
 cellsByte:=by kernel_rfl
 sizeByte:=by kernel_rfl
 neB5:=by decide }
def Tryz.lays156_ren:Go.Shelf.Ren:=⟨λ|156=>38|165=>63|166=>14|169=>17|240=>25|241=>102|276=>33|277=>126|n=>n,λ|31=>23|9=>9|3=>3|4=>4|0=>0|20=>20|72=>35|76=>39|70=>32|37=>33|75=>38|127=>64|164=>66|5=>5|80=>43|n=>n,λ|n=>n⟩
theorem Tryz.lays156:Go.Proofs.Lays.n156 ah Tryz.lays156_ren:={
 mixed:=by kernel_rfl
 f156:=bN func38
 f165:=bN func63
 f166:=bN func14
 f169:=bN func17
 f240:=bN func25
 f241:=bN func102
 f276:=bN func33
 f277:=bN func126
 t0:=bA underlying0
 a0:=bB isAgg0
 z0:=bC sizeOf0
 v0:=bE zeroValue0
 t3:=bA underlying3
 a3:=bB isAgg3
 z3:=bC sizeOf3
 v3:=bE zeroValue3
 t4:=bA underlying4
 a4:=bB isAgg4
 z4:=bC sizeOf4
 v4:=bE zeroValue4
 t9:=bA underlying9
 a9:=bB isAgg9
 z9:=bC sizeOf9
 v9:=bE zeroValue9
 t20:=bA underlying20
 a20:=bB isAgg20
 z20:=bC sizeOf20
 v20:=bE zeroValue20
 t31:=bA underlying23
 a31:=bB isAgg23
 z31:=bC sizeOf23
 v31:=bE zeroValue23
 t37:=bA underlying33
 a37:=bB isAgg33
 z37:=bC sizeOf33
 v37:=bE zeroValue33
 t70:=bA underlying32
 a70:=bB isAgg32
 z70:=bC sizeOf32
 v70:=bE zeroValue32
 t72:=bA underlying35
 a72:=bB isAgg35
 z72:=bC sizeOf35
 v72:=bE zeroValue35
 t75:=bA underlying38
 a75:=bB isAgg38
 z75:=bC sizeOf38
 v75:=bE zeroValue38
 t76:=bA underlying39
 a76:=bB isAgg39
 z76:=bC sizeOf39
 v76:=bE zeroValue39
 t127:=bA underlying64
 a127:=bB isAgg64
 z127:=bC sizeOf64
 v127:=bE zeroValue64
 t164:=bA underlying66
 a164:=bB isAgg66
 z164:=bC sizeOf66
 v164:=bE zeroValue66 }
theorem Tryz.Builder_Extra_156:Builder.Extra ah Tryz.lays156_ren:={
 sizeBuilder:=by kernel_rfl
 liesBuilder:=by kernel_rfl
 t5:=bA underlying5
 a5:=bB isAgg5
 z5:=bC sizeOf5
 v5:=bE zeroValue5
 infoByte:=by kernel_rfl
 cellsByte:=by kernel_rfl
 sizeByte:=by kernel_rfl
 neB5:=by decide }
open Go.RowKit in
theorem Tryz.strings_Join bk o c (xs:List ByteArray)sep w(hcells:∀ (j:Nat) x,xs[j]?=θ x→w.cell? ⟨bk,o+j,η⟩=θ (.string x))(hbk:bk<w.heap.size)(hN:xs.length≤140737488355328)(hcap:xs.length≤c)(hlen:(Lib.join (xs.map (·.data.toList)) sep.data.toList).length≤140737488355328):Ξ ah 38 #[.slice (θ ⟨bk,o,η⟩) xs.length c,.string sep] w λe w'=>e=.returned (.string ⟨(Lib.join (xs.map (·.data.toList)) sep.data.toList).toArray⟩)∧Below w.heap.size w w':=Any.strings_Join Tryz.lays156 Tryz.Builder_Extra_156 bk o c xs sep w hcells hbk hN hcap hlen
open Go.RowKit in
theorem Tryz.Builder_String_any_k B b l w(h:Zx 35 5 B b (mW l) w)(hBw:B≤w.heap.size):Ξ ah 17 #[.pointer (θ ⟨b,0,η⟩)] w λe w'=>e=.returned (.string ⟨l.toArray⟩)∧(Zx 35 5 B b (mW l) w'∧Below B w w'∧Lib.OthersKept 5 (θ b) w w'):=Any.Builder_String_any_k Tryz.lays169 Tryz.Builder_Extra_169 B b l w h hBw
def Tryz.laysM171_ren:Go.Shelf.Ren:=⟨λ|171=>23|243=>31|246=>60|283=>96|284=>97|285=>98|286=>99|129=>121|317=>120|318=>122|319=>123|320=>124|337=>137|338=>138|n=>n,λ|3=>3|9=>9|2=>2|4=>4|171=>155|0=>0|53=>156|37=>33|5=>5|173=>159|212=>185|51=>152|20=>20|213=>186|46=>97|232=>232|233=>233|n=>n,λ|17=>1|18=>4|19=>5|n=>n⟩
theorem Tryz.laysM171:Go.Proofs.LaysM.n171 ah Tryz.laysM171_ren:={
 mixed:=by kernel_rfl
 f129:=bN func121
 f171:=bN func23
 f243:=bN func31
 f246:=bN func60
 f283:=bN func96
 f284:=bN func97
 f285:=bN func98
 f286:=bN func99
 f317:=bN func120
 f318:=bN func122
 f319:=bN func123
 f320:=bN func124
 f337:=bN func137
 f338:=bN func138
 t0:=bA underlying0
 a0:=bB isAgg0
 z0:=bC sizeOf0
 v0:=bE zeroValue0
 t2:=bA underlying2
 a2:=bB isAgg2
 z2:=bC sizeOf2
 v2:=bE zeroValue2
 t3:=bA underlying3
 a3:=bB isAgg3
 z3:=bC sizeOf3
 v3:=bE zeroValue3
 t4:=bA underlying4
 a4:=bB isAgg4
 z4:=bC sizeOf4
 v4:=bE zeroValue4
 t5:=bA underlying5
 a5:=bB isAgg5
 z5:=bC sizeOf5
 v5:=bE zeroValue5
 t9:=bA underlying9
 a9:=bB isAgg9
 z9:=bC sizeOf9
 v9:=bE zeroValue9
 t20:=bA underlying20
 a20:=bB isAgg20
 z20:=bC sizeOf20
 v20:=bE zeroValue20
 t37:=bA underlying33
 a37:=bB isAgg33
 z37:=bC sizeOf33
 v37:=bE zeroValue33
 t46:=bA underlying97
 a46:=bB isAgg97
 z46:=bC sizeOf97
 v46:=bE zeroValue97
 t51:=bA underlying152
 a51:=bB isAgg152
 z51:=bC sizeOf152
 v51:=bE zeroValue152
 t53:=bA underlying156
 a53:=bB isAgg156
 z53:=bC sizeOf156
 v53:=bE zeroValue156
 t171:=bA underlying155
 a171:=bB isAgg155
 z171:=bC sizeOf155
 v171:=bE zeroValue155
 t173:=bA underlying159
 a173:=bB isAgg159
 z173:=bC sizeOf159
 v173:=bE zeroValue159
 t212:=bA underlying185
 a212:=bB isAgg185
 z212:=bC sizeOf185
 v212:=bE zeroValue185
 t213:=bA underlying186
 a213:=bB isAgg186
 z213:=bC sizeOf186
 t232:=bA underlying232
 a232:=bB isAgg232
 z232:=bC sizeOf232
 v232:=bE zeroValue232
 t233:=bA underlying233
 a233:=bB isAgg233
 z233:=bC sizeOf233
 v233:=bE zeroValue233
 g17:=by kernel_rfl
 g18:=by kernel_rfl
 g19:=by kernel_rfl
 i0:=by kernel_rfl
 i2:=by kernel_rfl
 i3:=by kernel_rfl
 i4:=by kernel_rfl
 i5:=by kernel_rfl
 i9:=by kernel_rfl
 i20:=by kernel_rfl
 i37:=by kernel_rfl
 i46:=by kernel_rfl
 i51:=by kernel_rfl
 i53:=by kernel_rfl
 i171:=by kernel_rfl
 i173:=by kernel_rfl
 i212:=by kernel_rfl
 i232:=by kernel_rfl
 i233:=by kernel_rfl
 m17:=by kernel_rfl
 m18:=by kernel_rfl
 m19:=by kernel_rfl }
open Go.RowKit Go.Sort Go.Lib in
theorem Tryz.strconv_Itoa n (h0:-9223372036854775808≤n) (h1:n≤9223372036854775807)  w  (htab:Lm ah w "internal/strconv.uint64pow10" .u64 Rq):
 Ξ ah 23 #[.int .i64 n] w λe w'=>e=.returned (.string ⟨(dK n).toArray⟩)∧∃ k os,w'=grow (w.drewN k) os:=Any.strconv_Itoa Tryz.laysM171 n h0 h1 w htab
def Tryz.lays145_ren:Go.Shelf.Ren:=⟨λ|145=>62|220=>101|219=>30|217=>56|225=>57|224=>58|267=>59|266=>94|314=>95|n=>n,λ|9=>9|4=>4|59=>100|3=>3|5=>5|46=>97|146=>153|51=>152|n=>n,λ|1=>0|n=>n⟩
theorem Tryz.lays145:Go.Proofs.Lays.n145 ah Tryz.lays145_ren:={
 mixed:=by kernel_rfl
 f145:=bN func62
 f217:=bN func56
 f219:=bN func30
 f220:=bN func101
 f224:=bN func58
 f225:=bN func57
 f266:=bN func94
 f267:=bN func59
 f314:=bN func95
 t3:=bA underlying3
 a3:=bB isAgg3
 z3:=bC sizeOf3
 v3:=bE zeroValue3
 t4:=bA underlying4
 a4:=bB isAgg4
 z4:=bC sizeOf4
 v4:=bE zeroValue4
 t5:=bA underlying5
 a5:=bB isAgg5
 z5:=bC sizeOf5
 v5:=bE zeroValue5
 t9:=bA underlying9
 a9:=bB isAgg9
 z9:=bC sizeOf9
 v9:=bE zeroValue9
 t46:=bA underlying97
 a46:=bB isAgg97
 z46:=bC sizeOf97
 v46:=bE zeroValue97
 t51:=bA underlying152
 a51:=bB isAgg152
 z51:=bC sizeOf152
 v51:=bE zeroValue152
 t59:=bA underlying100
 a59:=bB isAgg100
 z59:=bC sizeOf100
 v59:=bE zeroValue100
 t146:=bA underlying153
 a146:=bB isAgg153
 z146:=bC sizeOf153
 v146:=bE zeroValue153
 g1:=by kernel_rfl }
open Go.RowKit Go.Lib in
theorem Tryz.strings_Cut s sep m w(hs:s.size<4294967281)(hm:w.cell? ⟨0,0,η⟩=θ (.int .i64 m)):Ξ ah 62 #[.string s,.string sep] w λe w'=>e=.returned (.tuple #[.string ⟨(uk s.data.toList sep.data.toList).1.toArray⟩,.string ⟨(uk s.data.toList sep.data.toList).2.1.toArray⟩,.bool (uk s.data.toList sep.data.toList).2.2])∧∃ n,w'=w.drewN n:=Any.strings_Cut Tryz.lays145 s sep m w hs hm
def Tryz.lays138_ren:Go.Shelf.Ren:=⟨λ|138=>9|195=>20|218=>21|143=>22|219=>30|217=>56|225=>57|224=>58|267=>59|266=>94|314=>95|n=>n,λ|9=>9|3=>3|4=>4|5=>5|0=>0|46=>97|146=>153|51=>152|n=>n,λ|1=>0|n=>n⟩
theorem Tryz.lays138:Go.Proofs.Lays.n138 ah Tryz.lays138_ren:={
 mixed:=by kernel_rfl
 f138:=bN func9
 f143:=bN func22
 f195:=bN func20
 f217:=bN func56
 f218:=bN func21
 f219:=bN func30
 f224:=bN func58
 f225:=bN func57
 f266:=bN func94
 f267:=bN func59
 f314:=bN func95
 t0:=bA underlying0
 a0:=bB isAgg0
 z0:=bC sizeOf0
 v0:=bE zeroValue0
 t3:=bA underlying3
 a3:=bB isAgg3
 z3:=bC sizeOf3
 v3:=bE zeroValue3
 t4:=bA underlying4
 a4:=bB isAgg4
 z4:=bC sizeOf4
 v4:=bE zeroValue4
 t5:=bA underlying5
 a5:=bB isAgg5
 z5:=bC sizeOf5
 v5:=bE zeroValue5
 t9:=bA underlying9
 a9:=bB isAgg9
 z9:=bC sizeOf9
 v9:=bE zeroValue9
 t46:=bA underlying97
 a46:=bB isAgg97
 z46:=bC sizeOf97
 v46:=bE zeroValue97
 t51:=bA underlying152
 a51:=bB isAgg152
 z51:=bC sizeOf152
 v51:=bE zeroValue152
 t146:=bA underlying153
 a146:=bB isAgg153
 z146:=bC sizeOf153
 v146:=bE zeroValue153
 g1:=by kernel_rfl }
open Go.RowKit Go.Lib in
theorem Tryz.strings_Count_one s c w:Ξ ah 9 #[.string s,.string ⟨#[c]⟩] w λe w'=>e=.returned (.int .i64 (Lib.countByte s.data.toList c))∧w'=w:=Any.strings_Count_one Tryz.lays138 s c w
def Tryz.lays99_ren:Go.Shelf.Ren:=⟨λ|99=>7|206=>19|n=>n,λ|9=>9|4=>4|3=>3|n=>n,λ|n=>n⟩
theorem Tryz.lays99:Go.Proofs.Lays.n99 ah Tryz.lays99_ren:={
 mixed:=by kernel_rfl
 f99:=bN func7
 f206:=bN func19
 t3:=bA underlying3
 a3:=bB isAgg3
 z3:=bC sizeOf3
 v3:=bE zeroValue3
 t4:=bA underlying4
 a4:=bB isAgg4
 z4:=bC sizeOf4
 v4:=bE zeroValue4
 t9:=bA underlying9
 a9:=bB isAgg9
 z9:=bC sizeOf9
 v9:=bE zeroValue9 }
open Go.RowKit Go.Lib in
theorem Tryz.strings_HasPrefix s p w:Ξ ah 7 #[.string s,.string p] w λe w'=>e=.returned (.bool (Lib.hasPrefix s.data.toList p.data.toList))∧w'=w:=Any.strings_HasPrefix Tryz.lays99 s p w
def Tryz.lays146_ren:Go.Shelf.Ren:=⟨λ|146=>24|221=>32|268=>61|138=>9|143=>22|195=>20|197=>100|218=>21|219=>30|260=>125|217=>56|225=>57|224=>58|267=>59|266=>94|314=>95|n=>n,λ|9=>9|31=>23|3=>3|4=>4|0=>0|105=>161|21=>21|5=>5|46=>97|119=>203|139=>206|138=>205|146=>153|51=>152|n=>n,λ|1=>0|3=>2|4=>3|n=>n⟩
theorem Tryz.lays146:Go.Proofs.Lays.n146 ah Tryz.lays146_ren:={
 mixed:=by kernel_rfl
 f138:=bN func9
 f143:=bN func22
 f146:=bN func24
 f195:=bN func20
 f197:=bN func100
 f217:=bN func56
 f218:=bN func21
 f219:=bN func30
 f221:=bN func32
 f224:=bN func58
 f225:=bN func57
 f260:=bN func125
 f266:=bN func94
 f267:=bN func59
 f268:=bN func61
 f314:=bN func95
 t0:=bA underlying0
 a0:=bB isAgg0
 z0:=bC sizeOf0
 v0:=bE zeroValue0
 t3:=bA underlying3
 a3:=bB isAgg3
 z3:=bC sizeOf3
 v3:=bE zeroValue3
 t4:=bA underlying4
 a4:=bB isAgg4
 z4:=bC sizeOf4
 v4:=bE zeroValue4
 t5:=bA underlying5
 a5:=bB isAgg5
 z5:=bC sizeOf5
 v5:=bE zeroValue5
 t9:=bA underlying9
 a9:=bB isAgg9
 z9:=bC sizeOf9
 v9:=bE zeroValue9
 t21:=bA underlying21
 a21:=bB isAgg21
 z21:=bC sizeOf21
 v21:=bE zeroValue21
 t31:=bA underlying23
 a31:=bB isAgg23
 z31:=bC sizeOf23
 v31:=bE zeroValue23
 t46:=bA underlying97
 a46:=bB isAgg97
 z46:=bC sizeOf97
 v46:=bE zeroValue97
 t51:=bA underlying152
 a51:=bB isAgg152
 z51:=bC sizeOf152
 v51:=bE zeroValue152
 t105:=bA underlying161
 a105:=bB isAgg161
 z105:=bC sizeOf161
 v105:=bE zeroValue161
 t119:=bA underlying203
 a119:=bB isAgg203
 z119:=bC sizeOf203
 t138:=bA underlying205
 a138:=bB isAgg205
 z138:=bC sizeOf205
 v138:=bE zeroValue205
 t139:=bA underlying206
 a139:=bB isAgg206
 z139:=bC sizeOf206
 v139:=bE zeroValue206
 t146:=bA underlying153
 a146:=bB isAgg153
 z146:=bC sizeOf153
 v146:=bE zeroValue153
 g1:=by kernel_rfl
 g3:=by kernel_rfl
 g4:=by kernel_rfl }
open Go.RowKit Go.Lib in
theorem Tryz.strings_Split s sep m w(hs:s.size<4294967281)(hm:w.cell? ⟨0,0,η⟩=θ (.int .i64 m))(h1:1≤sep.size):Ξ ah 24 #[.string s,.string sep] w λe w'=>
 e=.returned (.slice (θ ⟨w.heap.size,0,η⟩) (GW s sep+1) (GW s sep+1))∧w'=w.alloc (.cells ((Lib.splitB sep 0 (GW s sep) s).map gV).toArray 9):=Any.strings_Split Tryz.lays146 (by kernel_rfl) s sep m w hs hm h1
def Tryz.lays212_ren:Go.Shelf.Ren:=⟨λ|212=>136|263=>149|264=>150|n=>n,λ|46=>97|51=>152|146=>153|53=>156|148=>230|n=>n,λ|n=>n⟩
theorem Tryz.lays212:Go.Proofs.Lays.n212 ah Tryz.lays212_ren:={
 mixed:=by kernel_rfl
 f212:=bN func136
 f263:=bN func149
 f264:=bN func150
 t46:=bA underlying97
 a46:=bB isAgg97
 z46:=bC sizeOf97
 v46:=bE zeroValue97
 t51:=bA underlying152
 a51:=bB isAgg152
 z51:=bC sizeOf152
 v51:=bE zeroValue152
 t53:=bA underlying156
 a53:=bB isAgg156
 z53:=bC sizeOf156
 v53:=bE zeroValue156
 t146:=bA underlying153
 a146:=bB isAgg153
 z146:=bC sizeOf153
 v146:=bE zeroValue153
 t148:=bA underlying230
 a148:=bB isAgg230
 z148:=bC sizeOf230
 v148:=bE zeroValue230 }
open Go.RowKit Go.Lib in
theorem SQbits_Mul(x y:Nat)(hx:x<18446744073709551616)(hy:y<18446744073709551616)w:Ξ ah 136 #[.int .u64 x,.int .u64 y] w λe w'=>e=.returned (.tuple #[.int .u64 ((x * y/18446744073709551616:Nat):Int),.int .u64 ((x * y % 18446744073709551616:Nat):Int)])∧w'=w:=Any.bits_Mul Tryz.lays212 x y hx hy w
def SQsortInt_ren:Go.Shelf.Ren:=⟨λ|189=>200|125=>205|257=>204|128=>216|129=>121|294=>207|295=>208|296=>209|297=>210|298=>211|299=>212|216=>213|300=>214|301=>215|328=>217|329=>218|330=>219|331=>220|332=>221|215=>222|343=>223|n=>n,λ|28=>50|3=>3|46=>97|0=>0|51=>152|53=>156|4=>4|183=>284|182=>283|131=>73|5=>5|9=>9|218=>290|222=>293|228=>295|229=>296|n=>n,λ|n=>n⟩
theorem SQsortInt:Go.Proofs.Lays.n189 ah SQsortInt_ren:={
 mixed:=by kernel_rfl
 f125:=bN func205
 f128:=bN func216
 f129:=bN func121
 f189:=bN func200
 f215:=bN func222
 f216:=bN func213
 f257:=bN func204
 f294:=bN func207
 f295:=bN func208
 f296:=bN func209
 f297:=bN func210
 f298:=bN func211
 f299:=bN func212
 f300:=bN func214
 f301:=bN func215
 f328:=bN func217
 f329:=bN func218
 f330:=bN func219
 f331:=bN func220
 f332:=bN func221
 f343:=bN func223
 t0:=bA underlying0
 a0:=bB isAgg0
 z0:=bC sizeOf0
 v0:=bE zeroValue0
 t3:=bA underlying3
 a3:=bB isAgg3
 z3:=bC sizeOf3
 v3:=bE zeroValue3
 t4:=bA underlying4
 a4:=bB isAgg4
 z4:=bC sizeOf4
 v4:=bE zeroValue4
 t5:=bA underlying5
 a5:=bB isAgg5
 z5:=bC sizeOf5
 v5:=bE zeroValue5
 t9:=bA underlying9
 a9:=bB isAgg9
 z9:=bC sizeOf9
 v9:=bE zeroValue9
 t28:=bA underlying50
 a28:=bB isAgg50
 z28:=bC sizeOf50
 v28:=bE zeroValue50
 t46:=bA underlying97
 a46:=bB isAgg97
 z46:=bC sizeOf97
 v46:=bE zeroValue97
 t51:=bA underlying152
 a51:=bB isAgg152
 z51:=bC sizeOf152
 v51:=bE zeroValue152
 t53:=bA underlying156
 a53:=bB isAgg156
 z53:=bC sizeOf156
 v53:=bE zeroValue156
 t131:=bA underlying73
 a131:=bB isAgg73
 z131:=bC sizeOf73
 v131:=bE zeroValue73
 t182:=bA underlying283
 a182:=bB isAgg283
 z182:=bC sizeOf283
 v182:=bE zeroValue283
 t183:=bA underlying284
 a183:=bB isAgg284
 z183:=bC sizeOf284
 v183:=bE zeroValue284
 t218:=bA underlying290
 a218:=bB isAgg290
 z218:=bC sizeOf290
 v218:=bE zeroValue290
 t222:=bA underlying293
 a222:=bB isAgg293
 z222:=bC sizeOf293
 v222:=bE zeroValue293
 t228:=bA underlying295
 a228:=bB isAgg295
 z228:=bC sizeOf295
 v228:=bE zeroValue295
 t229:=bA underlying296
 a229:=bB isAgg296
 z229:=bC sizeOf296
 v229:=bE zeroValue296 }
def SQcompInt_ren:Go.Shelf.Ren:=⟨λ|20=>201|n=>n,λ|22=>50|3=>3|4=>4|0=>0|n=>n,λ|n=>n⟩
theorem SQcompInt:Go.Proofs.Lays2.n20 ah SQcompInt_ren:={
 mixed:=by kernel_rfl
 f20:=bN func201
 t0:=bA underlying0
 a0:=bB isAgg0
 z0:=bC sizeOf0
 v0:=bE zeroValue0
 t3:=bA underlying3
 a3:=bB isAgg3
 z3:=bC sizeOf3
 v3:=bE zeroValue3
 t4:=bA underlying4
 a4:=bB isAgg4
 z4:=bC sizeOf4
 v4:=bE zeroValue4
 t22:=bA underlying50
 a22:=bB isAgg50
 z22:=bC sizeOf50
 v22:=bE zeroValue50
 i3:=by kernel_rfl }
end Go.Proofs.YtfphigmeppdocaaGreatDoor
namespace Go.Proofs.YtfphigmeppdocaaGreatDoor.Q
open Lo (ah)
open Go.Proofs.Tryz
open Go.RowKit
variable{ops:Array Oper}{cs:Array ay}{d h how t t0 v v0:Int}{F:Int->Int->Option Int}{q:Int×Int×Int}{l:List (Int×Int)}{m:List (Int×Int×Int)}{al:List Bool}{S T ns x:List Int}{xs:List ay}{B cap e aT i j k n r:Nat}{val:Nat->ay}{o st:Oper}{ao:Option bP}{P:Program}{cO cG:ay}{W W' w w' w0:υ}
variable{g:bg}{L:List (eF×ay)}
structure iN(B:Nat)(w:υ):Prop where
 low:0<B
 cell:∃m,w.cell? ⟨0,0,η⟩=θ (.int .i64 m)
theorem iN.below(h:iN B w)(hb:Below B w w'):iN B w':=by obtain⟨m,hm⟩:=h.cell;exact⟨h.low,m,by rw[hb.cell (p:=⟨0,0,η⟩) h.low];exact hm⟩
structure uq(N:Nat)(g:bg):Prop where
 lv:g.lives.length<=N
 ed:g.af.length<=N
 lg:∀e∈g.af,e.2.2.length<=N
theorem uq.mono{N N'}(h:uq N g)(k:N<=N'):uq N' g:=⟨Nat.le_trans h.lv k,Nat.le_trans h.ed k,λe he=>Nat.le_trans (h.lg e he) k⟩
theorem uq.put{N}{g'}{k}(h:uq N g)(hp:put g k ns=θ g'):uq (N+1) g':=by
 have h1:=h.lv;have h2:=h.ed;unfold Go.Proofs.YtfphigmeppdocaaGreatDoor.Q.put at hp;split at hp
 .split at hp
  .simp only[Γ]at hp;subst hp;exact⟨by simp only;omega,by simp only;omega,λe he=>Nat.le_succ_of_le (h.lg e he)⟩
  .simp at hp
 .split at hp
  .simp only[Γ]at hp;subst hp;exact⟨by simp;omega,by simp only;omega,λe he=>Nat.le_succ_of_le (h.lg e he)⟩
  .split at hp
   .simp only[Γ]at hp;subst hp;refine⟨by simp only;omega,by simp;omega,λe he=>?_⟩;rcases List.mem_append.1 he with k|k
    .exact Nat.le_succ_of_le (h.lg e k)
    .rw[List.mem_singleton.1 k];simp
   .simp at hp
 .split at hp
  .rename_i hk;simp only[Γ]at hp;subst hp;rcases List.eq_nil_or_concat g.af with e|⟨es,e,h0⟩
   .exact absurd e hk.2
   .rw[List.concat_eq_append]at h0;simp only[h0,Zp];rw[h0]at h2;refine⟨by simp only;omega,by simp at h2 ⊢;omega,λx hx=>?_⟩;rcases List.mem_append.1 hx with k|k
    .exact Nat.le_succ_of_le (h.lg x (by rw[h0];simp[k]))
    .rw[List.mem_singleton.1 k];have:=h.lg e (by rw[h0];simp);simp;omega
  .simp at hp
 .simp at hp
theorem uq.line{N}{g'}{l}{first}(h:uq N g)(hp:lu g l first=θ g'):uq (N+1) g':=by obtain⟨k,t,e⟩:=xB 32 l;rw[Zn e]at hp;obtain⟨ns,_,_,h3⟩:=amS hp;exact h.put h3
theorem ane s w(hs:s.size<=8192)(hM:iN B w):Ξ ah 24 #[.string s,.string ⟨#[32]⟩] w λe w'=>∃(s0:ByteArray) (ts:List ByteArray),sp 32 s.data.toList=s0.data.toList::ts.map (λs=>s.data.toList)/\ts.length<=8192/\e=.returned (.slice (θ ⟨w.heap.size,0,η⟩) (ts.length+1) (ts.length+1))/\w'=w.alloc (.cells (gV s0::ts.map gV).toArray 9):=by
 obtain⟨m,hm⟩:=hM.cell;refine(Tryz.strings_Split s ⟨#[32]⟩ m w (by omega) hm (by decide)).mono ?_;rintro e w' ⟨rfl,rfl⟩;have h1:=Rm 32 s;have h2:=Zu 32 s;have h3:=zh 32 s.data.toList;have h4:s.data.toList.length=s.size:=by rw[jk];rfl
 generalize Lib.splitB ⟨#[32]⟩ 0 (GW s ⟨#[32]⟩) s=L at*;cases L with
 |nil=>rw[<-h1]at h2;simp at h2
 |cons s0 ts=>
  have e1:GW s ⟨#[32]⟩=ts.length:=by rw[<-h1]at h2;simpa using h2
  refine⟨s0,ts,h1.symm,?_,by rw[e1],rfl⟩;rw[<-h1]at h3;simp at h3;omega
theorem anf(w:υ)s0 ts:(w.alloc (.cells (gV s0::ts.map gV).toArray 9)).cell? ⟨w.heap.size,0,η⟩=θ (.string s0)/\Ru (w.alloc (.cells (gV s0::ts.map gV).toArray 9)) (θ ⟨w.heap.size,1,η⟩) ts:=by refine⟨by simp,?_⟩;refine .inr ⟨w.heap.size,1,rfl,by simp,λj hj=>?_⟩;rw[show 1+j=j+1 by omega];simp[hj]
theorem k_eq{s:ByteArray}{d}(h:s.data.toList=d)c:(s.toList==c)=(d==c):=by rw[oK,h]
theorem k_ne{s:ByteArray}{c}(h:s.data.toList≠c):(s.toList==c)=false:=by rw[oK];simpa using h
theorem ang(h:ns.length≠1):put g mB ns=none:=by
 unfold put;split
 .simp at h
 .rw[ς (by simp[mB,ru]),ς (by decide)]
 .rw[ς (by simp[mB,ry])]
 .rfl
theorem anh(h:ns.length≠2\/g.af≠[]):put g ru ns=none:=by
 unfold put;split
 .rw[ς (by decide)]
 .rw[ς (λk=>by rcases h with h|h;simp at h;exact h k.2),ς (by decide)]
 .rw[ς (by simp[ru,ry])]
 .rfl
theorem ani(h:ns.length≠2):put g oJ ns=none:=by
 unfold put;split
 .rw[ς (by decide)]
 .simp at h
 .rw[ς (by simp[oJ,ry])]
 .rfl
theorem anj(h:ns.length≠4\/g.af=[]):put g ry ns=none:=by
 unfold put;split
 .rw[ς (by decide)]
 .rw[ς (by simp[ry,ru]),ς (by decide)]
 .rw[ς (λk=>by rcases h with h|h;simp at h;exact k.2 h)]
 .rfl
theorem ank{k}(h1:k≠mB)(h2:k≠ru)(h3:k≠oJ)(h4:k≠ry):put g k ns=none:=by
 unfold put;split
 .rw[ς h1]
 .rw[ς (λk=>h2 k.1),ς h3]
 .rw[ς (λk=>h4 k.1)]
 .rfl
theorem anl{a}:put g mB [a]=θ {g with hor:=a }:=by unfold put;simp only[dF]
theorem anm{a b}(h:g.af=[]):put g ru [a,b]=θ {g with lives:=g.lives++[(a,b)] }:=by unfold put;simp only[h,and_self,dF]
theorem ann{a b}:put g oJ [a,b]=θ {g with af:=g.af++[(a,b,[])] }:=by unfold put;have h:¬(oJ=ru/\g.af=[]):=λk=>absurd k.1 (by decide);simp only[ς h,dF]
theorem ano{a b c}(h:g.af≠[]):put g ry [a,b,c,d]=θ {g with af:=Lh g.af (a,b,c,d) }:=by unfold put;have h':True/\g.af≠[]:=⟨trivial,h⟩;simp only[χ h']
theorem ZE(h:ns.length=1):∃a,ns=[a]:=by
 match ns,h with
 |[a],_=>exact⟨a,rfl⟩
theorem RB(h:ns.length=2):∃a b,ns=[a,b]:=by
 match ns,h with
 |[a,b],_=>exact⟨a,b,rfl⟩
theorem anp(h:ns.length=4):∃a b c d,ns=[a,b,c,d]:=by
 match ns,h with
 |[a,b,c,d],_=>exact⟨a,b,c,d,rfl⟩
theorem anq(B b:Nat)g s first w(hG:sR B b w g)(hM:iN B w)(hs:s.size<=8192)(hS:uq 10000 g)(hB:B<=w.heap.size):Ξ ah 64 #[.pointer (θ ⟨b,0,η⟩),.string s,.bool first] w λe w'=>e=.returned (.bool (lu g s.data.toList first).isSome)/\sR B b w' ((lu g s.data.toList first).getD g)/\Below B w w':=by
 obtain⟨ii,hii,hi0,hi1,hi2⟩:=er Tryz.Y7;obtain⟨anr,ans,ant,anu,anv⟩:=er Tryz.amN;obtain⟨il,hil,hl0,hl1,lF⟩:=er Tryz.amM;obtain⟨cG,cO,L,b8,hL⟩:=hG;have G0:=aa (ane s w hs hM);have ZF:=aa hB;clear hM;go_enter akQ,ntmps64;go_wp2_with fail;refine G0.out.mono ?_;rintro e w1 ⟨s0,ts,hsp,htl,rfl,rfl⟩;obtain⟨c0,ZG⟩:=anf w s0 ts;have fN:=aa ZG;have ZH:=(b8.below (ax w (.cells (gV s0::ts.map gV).toArray 9)));have Lq:=aa ZH;have aS:=aa (ax w (.cells (gV s0::ts.map gV).toArray 9));have hs1:(w.alloc (.cells (gV s0::ts.map gV).toArray 9)).heap.size=w.heap.size+1:=by simp
 clear ZG G0 b8;generalize w.alloc (.cells (gV s0::ts.map gV).toArray 9)=w1 at*;have pF:=aa (λfirst=>Zn (g:=g) (first:=first) hsp);clear hsp;have i1:(1:Int)<=(ts.length:Int)+1:=by omega
 have i3:((ts.length:Int)+1- 1).toNat=ts.length:=by omega
 have Lr:=aa (λao cap (h:Ru w1 ao ts)=>am9 ao cap ts w1 h (by omega));have rC:=aa (ZH.sS);obtain⟨la,lc,ea,ec,rfl,rfl,_,_,_⟩:=rC.out;have D8:Hid (∀w2 w3,Below w1.heap.size w1 w2->Below w2.heap.size w2 w3->lu g s.data.toList first=η->(lu g s.data.toList first).isSome=ο/\sR B b w3 ((lu g s.data.toList first).getD g)/\Below B w w3):=by intro w2 w3 h2 h3 h;rw[h];exact⟨rfl,⟨_,_,L,Lq.out.below (bK h2 h3),hL⟩,(aS.out.mono ZF.out).trans ((bK h2 h3).mono (by omega))⟩
 clear rC;go_wp2_with fail
 case inl h=>
  subst h;refine(Lr.out _ _ (.inl rfl)).mono ?_;rintro e w2 ⟨v,rfl,hv,aq⟩;obtain⟨fX,vc,rfl,_,_⟩:=mD hv;have hp:∀f,lu g s.data.toList f=none:=λf=>by
   rw[pF.out];by_cases e:f=sQ s0.data.toList
   .rw[Li (ns:=[]) rfl e];rfl
   .exact Re e
  have aJ:=aa (D8.out w2 w2 aq (Below.refl _ _) (hp first));have mF:=(Lq.out.below aq).box;have p2:w2.cell? ⟨b,2,η⟩=θ (.slice ea L.length ec):=by rw[eu mF];rfl
  have q1:um []=θ []:=rfl;simp only[q1,gu,Ω,List.length_nil];clear mF hv aq hp Lr;go_wp2;all_goals
   go_ret;exact⟨by rw[aJ.out.1];rfl,aJ.out.2⟩
 case inr h=>
  refine(Lr.out _ _ fN.out).mono ?_;rintro e w2 ⟨v,rfl,hv,aq⟩;have eA:=aa (Lq.out.below aq);have aN:=aa ((aS.out.mono ZF.out).trans (aq.mono (by omega)));have BJ:=aa (λw3=>D8.out w2 w3 aq);have mF:=eA.out.box;have p0:w2.cell? ⟨b,0,η⟩=θ (.int .i64 g.hor):=by rw[eu mF];rfl
  have p1:w2.cell? ⟨b,1,η⟩=θ (.slice la g.lives.length lc):=by rw[eu mF];rfl
  have p2:w2.cell? ⟨b,2,η⟩=θ (.slice ea L.length ec):=by rw[eu mF];rfl
  have gj:B<=w2.heap.size:=by have:=aq.size;omega
  have G1:Hid (g.af=[]↔L=[]):=by show _↔_;rw[hL];simp
  have anw:L.length<=10000:=by have:=hS.ed;rw[hL]at this;simpa using this
  clear mF D8 Lr aq Lq aS fN c0;cases hm:um ts with
  |none=>
   rw[hm]at hv;obtain⟨fX,vc,rfl,_,_⟩:=mD hv;have aJ:=aa (BJ.out w2 (Below.refl _ _) (by rw[pF.out];exact Zo hm));simp only[ic,jG,List.length_nil];clear hv p0 p1 p2;go_wp2;all_goals
    go_ret;exact⟨by rw[aJ.out.1];rfl,aJ.out.2⟩
  |some ns=>
   rw[hm]at hv;simp only[gu,Ω]at hv ⊢;have kN:Hid (first=sQ s0.data.toList->put g s0.data.toList ns=η->(lu g s.data.toList first).isSome=ο/\sR B b w2 ((lu g s.data.toList first).getD g)/\Below B w w2):=λh1 h2=>BJ.out w2 (Below.refl _ _) (by rw[pF.out,Li hm h1];exact h2);have pG:Hid (first≠sQ s0.data.toList->(lu g s.data.toList first).isSome=ο/\sR B b w2 ((lu g s.data.toList first).getD g)/\Below B w w2):=λh1=>BJ.out w2 (Below.refl _ _) (by rw[pF.out];exact Re h1);(have e7:Hid (∀g',first=sQ s0.data.toList->put g s0.data.toList ns=θ g'->lu g s.data.toList first=θ g'):=λg' h1 h2=>by rw[pF.out,Li hm h1];exact h2);(have i5:IntKind.i64.wrap ((L.length:Int)- 1)=(L.length:Int)- 1:=by unfold zm;simp[u6,zl];omega);clear BJ pF hm;by_cases qp:s0.data.toList=mB
   ·(have anx:(s0.toList==[116,105,109,101])=true:=by rw[k_eq qp];rfl);(have ZI:(s0.toList==[118,101,114,116,101,120])=false:=by rw[k_eq qp];rfl);(have RD:(s0.toList==[101,100,103,101])=false:=by rw[k_eq qp];rfl);(have Ls:(s0.toList==[108,101,103])=false:=by rw[k_eq qp];rfl);(have hi:sQ s0.data.toList=true:=by rw[qp];rfl);rw[hi,qp]at kN e7;rw[hi]at pG;clear hi qp;cases first with
    |false=>
     obtain⟨fX,vc,rfl,_,_⟩:=mD hv;have aJ:=aa (pG.out (by decide));clear hv p0 p1 p2 kN pG e7;go_wp2;all_goals
      go_ret;exact⟨by rw[aJ.out.1];rfl,aJ.out.2⟩
    |true=>
     by_cases hn:ns.length=1
     .obtain⟨a,rfl⟩:=ZE hn;obtain⟨gn,vc,rfl,hg1,hg2⟩:=hv.form (by simp);have n0:=hv.cellAt 0 (by simp);have bU:=aa (e7.out _ rfl anl);have fz:w2.frozen? ⟨b,0,η⟩=false:=vH eA.out.box 0;simp only[List.map_cons,List.getElem?_cons_zero,List.length_cons,List.length_nil,Nat.zero_add]at n0 hg2 ⊢;clear hv kN pG e7 hn;go_wp2;go_ret;rw[bU.out];exact⟨rfl,⟨_,_,L,eA.out.amW a,hL⟩,aN.out.setCell (p:=⟨b,0,η⟩) eA.out.low _⟩
     .obtain⟨fX,vc,rfl,_,_⟩:=mD hv;have aJ:=aa (kN.out rfl (ang hn));(have hn2:¬(ns.length:Int)=1:=by omega);clear hv p0 p1 kN pG e7;go_wp2;all_goals
       go_ret;exact⟨by rw[aJ.out.1];rfl,aJ.out.2⟩
   .have anx:(s0.toList==[116,105,109,101])=false:=k_ne qp;(have hi:sQ s0.data.toList=false:=by unfold sQ;simpa using qp);rw[hi]at kN e7 pG;clear hi;cases first with
    |true=>
     obtain⟨fX,vc,rfl,_,_⟩:=mD hv;have aJ:=aa (pG.out (by decide));clear hv p0 p1 p2 kN pG e7;go_wp2;all_goals
      go_ret;exact⟨by rw[aJ.out.1];rfl,aJ.out.2⟩
    |false=>
     by_cases vJ:s0.data.toList=ru
     ·(have ZI:(s0.toList==[118,101,114,116,101,120])=true:=by rw[k_eq vJ];rfl);(have RD:(s0.toList==[101,100,103,101])=false:=by rw[k_eq vJ];rfl);(have Ls:(s0.toList==[108,101,103])=false:=by rw[k_eq vJ];rfl);rw[vJ]at kN e7;clear vJ qp;by_cases hn:ns.length=2/\L=[]
      .obtain⟨hn,rfl⟩:=hn;obtain⟨x,y,rfl⟩:=RB hn;obtain⟨gn,vc,rfl,hg1,hg2⟩:=hv.form (by simp);obtain⟨cn,hcn⟩:=GR hv (b:=gn) rfl;have n0:=hv.cellAt 0 (by simp);have n1:=hv.cellAt 1 (by simp);have bU:=aa (e7.out _ rfl (anm (G1.out.2 rfl)));simp only[List.map_cons,List.map_nil,List.getElem?_cons_zero,List.getElem?_cons_succ,List.length_cons,List.length_nil,Nat.zero_add,Nat.reduceAdd]at n0 n1 ⊢;have azJ:=hS.lv;have fM:=xD eA.out.box;have hne:θ gn≠(j4 la g.lives.length lc).ownBlock:=λk=>kK eA.out.lv hcn (by decide) k.symm;clear hv kN pG e7 hn i5 p0 hcn;go_wp2_with fail;refine BC ?_;refine D7 (S:=λw'=>w'.cell? ⟨b,1,η⟩=θ (.slice la g.lives.length lc)/\w'.cell? ⟨gn,0,η⟩=θ (.int .i64 x)/\w'.cell? ⟨gn,1,η⟩=θ (.int .i64 y)) (by kernel_rfl) (by simp) (by kernel_rfl) (by kernel_rfl) ⟨p1,n0,n1⟩ (λhHeld=>?_);simp only[List.pop_toArray,List.dropLast,List.back!_toArray,List.getLast!];refine tk 0 ?_;refine tk 1 ?_;refine tk 2 ?_;refine tk 3 ?_;refine tk 4 ?_;refine tk 5 ?_;refine tk 6 ?_;refine tk 7 ?_;refine tk 8 ?_;refine tk 9 ?_;refine tk 10 ?_;refine tk 11 ?_;refine eL (i:=12) rfl (by kernel_rfl) (λK hK=>?_);go_simp;have bY:Below w2.heap.size w2 (w2.drew.alloc (.cells #[.int .i64 x,.int .i64 y] 109)):=(Below.refl _ _).drew.alloc (Nat.le_refl _) _;have m1:=(bY.cell (p:=⟨b,1,η⟩) fM).trans p1;have m2:=(bY.cell (p:=⟨gn,0,η⟩) hg2).trans n0;have m3:=(bY.cell (p:=⟨gn,1,η⟩) hg2).trans n1;refine hK.out _ _ ⟨m1,m2,m3⟩ (λhHeld=>?_);clear hK K hHeld;(try simp only[dz,List.setIfInBounds_toArray,List.set_cons_zero,List.set_cons_succ]);refine eL (i:=13) rfl (by kernel_rfl) (λK hK=>?_);refine DY _ (by rfl) _ _ _ (by rfl) B 109 ii _ 2 16 ((cD 56).trans underlying56) hii hi0 hi1 hi2 rfl (by omega) (.slice la g.lives.length lc) g.lives.length (gp g.lives) (by rfl) (cE eA.out.lv bY) ⟨w2.heap.size,0,η⟩ 1 1 [.int .i64 x,.int .i64 y] (by rfl) (by rfl) (nR (cs:=#[.int .i64 x,.int .i64 y]) (t:=109) (fr:=(0,0)) (heap_alloc_new w2.drew _)) (by simp[zo]) (by omega) (by unfold maxLen;omega) (by omega) (Nat.le_trans gj bY.size) (w2.heap.size+1) (by simp) ?_;intro gg dm w4 fP hgrow hat jl;obtain⟨qq,zq⟩:=eA.out.life bY hgrow fP;(have x1:w4.cell? ⟨b,1,η⟩=θ (.slice la g.lives.length lc):=by rw[eu qq];rfl);(have x2:w4.cell? ⟨gn,0,η⟩=θ (.int .i64 x):=by rw[hgrow.cell_far _ (Nat.lt_of_lt_of_le hg2 bY.size) hne];exact m2);(have x3:w4.cell? ⟨gn,1,η⟩=θ (.int .i64 y):=by rw[hgrow.cell_far _ (Nat.lt_of_lt_of_le hg2 bY.size) hne];exact m3);have D9:w4.frozen? ⟨b,1,η⟩=false:=vH qq 1;have cr:=aa (((aN.out.trans (bY.mono gj)).grown hgrow (Nat.le_trans gj bY.size) (λj hj=>(eA.out.lv.lt j hj).1)).setCell (p:=⟨b,1,η⟩) eA.out.low (.slice (θ ⟨gg,0,η⟩) (g.lives.length+1) dm));have zu:=aa zq;refine hK.out _ _ ⟨x1,x2,x3⟩ (λhHeld=>?_);clear hK K bY m1 m2 m3 hgrow fP qq zq hat jl;(try simp only[dz,List.setIfInBounds_toArray,List.set_cons_zero,List.set_cons_succ]);refine tk 14 ?_;refine tk 15 ?_;refine gU (by kernel_rfl) ?_ _;refine pE (λK hK=>?_);clear hHeld;go_simp;refine hK.out _ _ (rB ?_);clear hK K x1 x2 x3 D9;go_wp2;go_ret;rw[bU.out];exact⟨rfl,⟨_,_,[],zu.out,hL⟩,cr.out⟩
      .have hz:ns.length≠2\/g.af≠[]:=by
        rcases Nat.decEq ns.length 2 with q|q
        .exact .inl q
        .exact .inr λk=>hn ⟨q,G1.out.1 k⟩
       obtain⟨fX,vc,rfl,_,_⟩:=mD hv;have aJ:=aa (kN.out rfl (anh hz));have bX:¬(ns.length:Int)=2\/(ns.length:Int)=2/\0<=(L.length:Int)- 1:=by
        rcases Nat.decEq ns.length 2 with q|q
        .exact .inl (by omega)
        .refine .inr ⟨by omega,?_⟩;have:L≠[]:=λk=>hn ⟨q,k⟩;have:=List.length_pos_iff.2 this;omega
       clear hv p0 p1 kN pG e7 hz hn;rcases bX with bX|⟨bX,G2⟩;all_goals
        go_wp2;all_goals
         go_ret;exact⟨by rw[aJ.out.1];rfl,aJ.out.2⟩
     .have ZI:(s0.toList==[118,101,114,116,101,120])=false:=k_ne vJ;by_cases zv:s0.data.toList=oJ
      ·(have RD:(s0.toList==[101,100,103,101])=true:=by rw[k_eq zv];rfl);(have Ls:(s0.toList==[108,101,103])=false:=by rw[k_eq zv];rfl);rw[zv]at kN e7;clear vJ qp zv;by_cases hn:ns.length=2
       .obtain⟨x,y,rfl⟩:=RB hn;obtain⟨gn,vc,rfl,hg1,hg2⟩:=hv.form (by simp);obtain⟨cn,hcn⟩:=GR hv (b:=gn) rfl;have n0:=hv.cellAt 0 (by simp);have n1:=hv.cellAt 1 (by simp);have bU:=aa (e7.out _ rfl ann);simp only[List.map_cons,List.map_nil,List.getElem?_cons_zero,List.getElem?_cons_succ,List.length_cons,List.length_nil,Nat.zero_add,Nat.reduceAdd]at n0 n1 ⊢;have fM:=xD eA.out.box;have hne:θ gn≠(j4 ea L.length ec).ownBlock:=λk=>kK eA.out.ed hcn (by decide) k.symm;clear hv kN pG e7 hn p0 p1 hcn;go_wp2_with fail;refine BC ?_;refine D7 (S:=λw'=>w'.cell? ⟨b,2,η⟩=θ (.slice ea L.length ec)/\w'.cell? ⟨gn,0,η⟩=θ (.int .i64 x)/\w'.cell? ⟨gn,1,η⟩=θ (.int .i64 y)) (by kernel_rfl) (by simp) (by kernel_rfl) (by kernel_rfl) ⟨p2,n0,n1⟩ (λhHeld=>?_);simp only[List.pop_toArray,List.dropLast,List.back!_toArray,List.getLast!];refine tk 0 ?_;refine tk 1 ?_;refine tk 2 ?_;refine tk 3 ?_;refine tk 4 ?_;refine tk 5 ?_;refine tk 6 ?_;refine tk 7 ?_;refine tk 8 ?_;refine tk 9 ?_;refine tk 10 ?_;refine tk 11 ?_;refine eL (i:=12) rfl (by kernel_rfl) (λK hK=>?_);go_simp;have bY:Below w2.heap.size w2 (w2.drew.alloc (.cells #[.int .i64 x,.int .i64 y,.slice η 0 0] 112)):=(Below.refl _ _).drew.alloc (Nat.le_refl _) _;have m1:=(bY.cell (p:=⟨b,2,η⟩) fM).trans p2;have m2:=(bY.cell (p:=⟨gn,0,η⟩) hg2).trans n0;have m3:=(bY.cell (p:=⟨gn,1,η⟩) hg2).trans n1;refine hK.out _ _ ⟨m1,m2,m3⟩ (λhHeld=>?_);clear hK K hHeld;(try simp only[dz,List.setIfInBounds_toArray,List.set_cons_zero,List.set_cons_succ]);refine eL (i:=13) rfl (by kernel_rfl) (λK hK=>?_);refine DY _ (by rfl) _ _ _ (by rfl) B 112 anr _ 3 40 ((cD 57).trans underlying57) ans ant anu anv rfl (by omega) (.slice ea L.length ec) L.length (nQ L) (by rfl) (cE eA.out.ed bY) ⟨w2.heap.size,0,η⟩ 1 1 [.int .i64 x,.int .i64 y,.slice η 0 0] (by rfl) (by rfl) (nR (cs:=#[.int .i64 x,.int .i64 y,.slice η 0 0]) (t:=112) (fr:=(0,0)) (heap_alloc_new w2.drew _)) (by simp[zo]) (by omega) (by unfold maxLen;omega) (by omega) (Nat.le_trans gj bY.size) (w2.heap.size+1) (by simp) ?_;intro gg dm w4 fP hgrow hat jl;obtain⟨qq,zq⟩:=eA.out.Kb bY hgrow fP;(have x1:w4.cell? ⟨b,2,η⟩=θ (.slice ea L.length ec):=by rw[eu qq];rfl);(have x2:w4.cell? ⟨gn,0,η⟩=θ (.int .i64 x):=by rw[hgrow.cell_far _ (Nat.lt_of_lt_of_le hg2 bY.size) hne];exact m2);(have x3:w4.cell? ⟨gn,1,η⟩=θ (.int .i64 y):=by rw[hgrow.cell_far _ (Nat.lt_of_lt_of_le hg2 bY.size) hne];exact m3);have D9:w4.frozen? ⟨b,2,η⟩=false:=vH qq 2;have cr:=aa (((aN.out.trans (bY.mono gj)).grown hgrow (Nat.le_trans gj bY.size) (λj hj=>(eA.out.ed.lt j hj).1)).setCell (p:=⟨b,2,η⟩) eA.out.low (.slice (θ ⟨gg,0,η⟩) (L.length+1) dm));have zu:=aa zq;refine hK.out _ _ ⟨x1,x2,x3⟩ (λhHeld=>?_);clear hK K bY m1 m2 m3 hgrow fP qq zq hat jl;(try simp only[dz,List.setIfInBounds_toArray,List.set_cons_zero,List.set_cons_succ]);refine tk 14 ?_;refine tk 15 ?_;refine gU (by kernel_rfl) ?_ _;refine pE (λK hK=>?_);clear hHeld;go_simp;refine hK.out _ _ (rB ?_);clear hK K x1 x2 x3 D9;go_wp2;go_ret;rw[bU.out];exact⟨rfl,⟨_,_,_,zu.out,by rw[List.map_append,<- hL];rfl⟩,cr.out⟩
       .obtain⟨fX,vc,rfl,_,_⟩:=mD hv;have aJ:=aa (kN.out rfl (ani hn));(have bX:¬(ns.length:Int)=2:=by omega);clear hv p0 p1 kN pG e7 hn;go_wp2;all_goals
         go_ret;exact⟨by rw[aJ.out.1];rfl,aJ.out.2⟩
      .have RD:(s0.toList==[101,100,103,101])=false:=k_ne zv;by_cases Ea:s0.data.toList=ry
       ·(have Ls:(s0.toList==[108,101,103])=true:=by rw[k_eq Ea];rfl);rw[Ea]at kN e7;clear vJ qp zv Ea;by_cases hn:ns.length=4/\L≠[]
        .obtain⟨hn,vK⟩:=hn;obtain⟨x,y,z,u,rfl⟩:=anp hn;obtain⟨gn,vc,rfl,hg1,hg2⟩:=hv.form (by simp);obtain⟨cn,hcn⟩:=GR hv (b:=gn) rfl;have n0:=hv.cellAt 0 (by simp);have n1:=hv.cellAt 1 (by simp);have n2:=hv.cellAt 2 (by simp);have n3:=hv.cellAt 3 (by simp);have bU:=aa (e7.out _ rfl (ano (λk=>vK (G1.out.1 k))));simp only[List.map_cons,List.map_nil,List.getElem?_cons_zero,List.getElem?_cons_succ,List.length_cons,List.length_nil,Nat.zero_add,Nat.reduceAdd]at n0 n1 n2 n3 ⊢;clear hv kN pG e7 hn p0 p1 G1;obtain⟨M,p,anz⟩:∃M p,L=M++[p]:=by
          rcases List.eq_nil_or_concat L with k|⟨M,p,k⟩
          .exact absurd k vK
          .exact⟨M,p,by rw[k,List.concat_eq_append]⟩
         (subst anz;obtain⟨⟨A,C,aH⟩,v⟩:=p;(have hlm:(M++[((A,C,aH),v)]).length=M.length+1:=by simp);simp only[hlm]at p2 eA i5 anw ⊢;have hlr:=eA.out.lg ((A,C,aH),v) (by simp);have G3:aH.length<=10000:=hS.lg (A,C,aH) (by rw[hL];simp);obtain⟨ge,azK,he,anA,anB⟩:=eA.out.ed.form (by simp);simp only[hlm]at he;rw[he]at p2 eA;simp only[jU,yE]at he;obtain⟨rfl,rfl⟩:=he;simp only at hlr;obtain⟨lo,cv,rfl,_,_⟩:=mD hlr;have jE:=eA.out.ed;rw[hlm]at jE;have q2:w2.cell? ⟨ge,M.length*3+2,η⟩=θ (.slice lo aH.length cv):=by rw[jE.cellAt _ (by omega)];have:=(GQ (M++[((A,C,aH),.slice lo aH.length cv)]) M.length (by simp)).2.2;simpa using this);have hne:θ gn≠(j4 lo aH.length cv).ownBlock:=λk=>kK hlr hcn (by decide) k.symm;(have j1:((M.length+1:Nat):Int)- 1=(M.length:Int):=by omega);(have j2:(M.length:Int)<((M.length+1:Nat):Int):=by omega);(have anC:(0:Int)<=(M.length:Int):=by omega);rw[j1]at i5;clear hlm hcn jE vK;go_wp2_with fail;refine BC ?_;refine D7 (S:=λw'=>w'.cell? ⟨ge,M.length*3+2,η⟩=θ (.slice lo aH.length cv)/\w'.cell? ⟨gn,0,η⟩=θ (.int .i64 x)/\w'.cell? ⟨gn,1,η⟩=θ (.int .i64 y)/\w'.cell? ⟨gn,2,η⟩=θ (.int .i64 z)/\w'.cell? ⟨gn,3,η⟩=θ (.int .i64 u)) (by kernel_rfl) (by simp) (by kernel_rfl) (by kernel_rfl) ⟨q2,n0,n1,n2,n3⟩ (λhHeld=>?_);simp only[List.pop_toArray,List.dropLast,List.back!_toArray,List.getLast!];refine tk 0 ?_;refine tk 1 ?_;refine tk 2 ?_;refine tk 3 ?_;refine tk 4 ?_;refine tk 5 ?_;refine tk 6 ?_;refine tk 7 ?_;refine tk 8 ?_;refine tk 9 ?_;refine tk 10 ?_;refine tk 11 ?_;refine tk 12 ?_;refine tk 13 ?_;refine tk 14 ?_;refine tk 15 ?_;refine tk 16 ?_;refine eL (i:=17) rfl (by kernel_rfl) (λK hK=>?_);go_simp;have bY:Below w2.heap.size w2 (w2.drew.alloc (.cells #[.int .i64 x,.int .i64 y,.int .i64 z,.int .i64 u] 167)):=(Below.refl _ _).drew.alloc (Nat.le_refl _) _;have m1:=(bY.cell (p:=⟨ge,M.length*3+2,η⟩) anB).trans q2;have m2:=(bY.cell (p:=⟨gn,0,η⟩) hg2).trans n0;have m3:=(bY.cell (p:=⟨gn,1,η⟩) hg2).trans n1;have m4:=(bY.cell (p:=⟨gn,2,η⟩) hg2).trans n2;have m5:=(bY.cell (p:=⟨gn,3,η⟩) hg2).trans n3;refine hK.out _ _ ⟨m1,m2,m3,m4,m5⟩ (λhHeld=>?_);clear hK K hHeld;(try simp only[dz,List.setIfInBounds_toArray,List.set_cons_zero,List.set_cons_succ]);refine eL (i:=18) rfl (by kernel_rfl) (λK hK=>?_);refine DY _ (by rfl) _ _ _ (by rfl) B 167 il _ 4 32 ((cD 110).trans underlying110) hil hl0 hl1 lF rfl (by omega) (.slice lo aH.length cv) aH.length (mC aH) (by rfl) (cE hlr bY) ⟨w2.heap.size,0,η⟩ 1 1 [.int .i64 x,.int .i64 y,.int .i64 z,.int .i64 u] (by rfl) (by rfl) (nR (cs:=#[.int .i64 x,.int .i64 y,.int .i64 z,.int .i64 u]) (t:=167) (fr:=(0,0)) (heap_alloc_new w2.drew _)) (by simp[zo]) (by omega) (by unfold maxLen;omega) (by omega) (Nat.le_trans gj bY.size) (w2.heap.size+1) (by simp) ?_;intro gg dm w4 fP hgrow hat jl;obtain⟨qq,x1,D9,zq⟩:=eA.out.amX (l:=(x,y,z,u)) bY hgrow fP hat (by omega);(have x2:w4.cell? ⟨gn,0,η⟩=θ (.int .i64 x):=by rw[hgrow.cell_far _ (Nat.lt_of_lt_of_le hg2 bY.size) hne];exact m2);(have x3:w4.cell? ⟨gn,1,η⟩=θ (.int .i64 y):=by rw[hgrow.cell_far _ (Nat.lt_of_lt_of_le hg2 bY.size) hne];exact m3);(have iy:w4.cell? ⟨gn,2,η⟩=θ (.int .i64 z):=by rw[hgrow.cell_far _ (Nat.lt_of_lt_of_le hg2 bY.size) hne];exact m4);(have Lt:w4.cell? ⟨gn,3,η⟩=θ (.int .i64 u):=by rw[hgrow.cell_far _ (Nat.lt_of_lt_of_le hg2 bY.size) hne];exact m5);have cr:=aa (((aN.out.trans (bY.mono gj)).grown hgrow (Nat.le_trans gj bY.size) (λj hj=>(hlr.lt j hj).1)).setCell (p:=⟨ge,M.length*3+2,η⟩) anA (.slice (θ ⟨gg,0,η⟩) (aH.length+1) dm));have zu:=aa zq;refine hK.out _ _ ⟨x1,x2,x3,iy,Lt⟩ (λhHeld=>?_);clear hK K bY m1 m2 m3 m4 m5 hgrow fP qq zq hat jl;(try simp only[dz,List.setIfInBounds_toArray,List.set_cons_zero,List.set_cons_succ]);refine tk 19 ?_;refine gU (by kernel_rfl) ?_ _;refine pE (λK hK=>?_);clear hHeld;go_simp;refine hK.out _ _ (rB ?_);clear hK K x1 x2 x3 iy Lt D9;go_wp2;go_ret;rw[bU.out];refine⟨rfl,⟨_,_,_,zu.out,?_⟩,cr.out⟩;simp only[Ω,hL,List.map_append,List.map_cons,List.map_nil,Zp]
        .have hz:ns.length≠4\/g.af=[]:=by
          rcases Nat.decEq ns.length 4 with q|q
          .exact .inl q
          .exact .inr (by
            by_cases e:L=[]
            .exact G1.out.2 e
            .exact absurd ⟨q,e⟩ hn)
         obtain⟨fX,vc,rfl,_,_⟩:=mD hv;have aJ:=aa (kN.out rfl (anj hz));have bX:¬(ns.length:Int)=4\/(ns.length:Int)=4/\(L.length:Int)- 1<0:=by
          rcases Nat.decEq ns.length 4 with q|q
          .exact .inl (by omega)
          .refine .inr ⟨by omega,?_⟩;have:L=[]:=by
            by_cases e:L=[]
            .exact e
            .exact absurd ⟨q,e⟩ hn
           rw[this];decide
         clear hv p0 p1 kN pG e7 hz hn;rcases bX with bX|⟨bX,G2⟩;all_goals
          go_wp2;all_goals
           go_ret;exact⟨by rw[aJ.out.1];rfl,aJ.out.2⟩
       .have Ls:(s0.toList==[108,101,103])=false:=k_ne Ea;obtain⟨fX,vc,rfl,_,_⟩:=mD hv;have aJ:=aa (kN.out rfl (ank qp vJ zv Ea));clear hv p0 p1 kN pG e7 vJ qp zv Ea;go_wp2;all_goals
         go_ret;exact⟨by rw[aJ.out.1];rfl,aJ.out.2⟩
def gv(w : υ): Prop := Lm ah w "internal/strconv.uint64pow10" .u64 Rq
structure zw(B:Nat)(w:υ):Prop where
 tab:gv w
 low : ∀ g, ah.globalNamed "internal/strconv.uint64pow10" = θ g → g < B
theorem gv.low(h:gv w):zw w.heap.size w:=by
 refine⟨h,λg hg=>?_⟩
 have h' : w.var? ah "internal/strconv.uint64pow10" = θ _ := h
 rcases Nat.lt_or_ge g w.heap.size with k|k
 .exact k
 .simp[BG,hg,gx k]at h'
theorem zw.mono{B'}(h:zw B w)(k:B≤B'):zw B' w:=⟨h.tab,λg hg=>Nat.lt_of_lt_of_le (h.low g hg) k⟩
theorem zw.below(h:zw B w)(hb:Below B w w'):zw B w':=by
 refine⟨?_,h.low⟩
 have h' : w.var? ah "internal/strconv.uint64pow10" = θ _ := h.tab
 obtain ⟨g, hg⟩ : ∃ g, ah.globalNamed "internal/strconv.uint64pow10" = θ g := by
  cases e : ah.globalNamed "internal/strconv.uint64pow10" with
  |none=>simp[BG,e]at h'
  |some g=>exact⟨g,rfl⟩
 exact var?_below hb hg (h.low g hg) h'
theorem ZJ B w(hB:B≤w.heap.size)k os:Below B w (Rs (w.drewN k) os):=
 ⟨rfl,rfl,rfl,by simp[Rs,World.drewN],λj hj=>by
  have hj':j<w.heap.size:=by omega
  simp[Rs,World.drewN,Array.getElem?_append_left hj']⟩
theorem anD n(h0:0≤n)(h1:n≤9999)w(h:gv w):Ξ ah 23 #[.int .i64 n] w λe w'=>e=.returned (.string ⟨(dK n).toArray⟩)∧Below w.heap.size w w':=
 (Tryz.strconv_Itoa n (by omega) (by omega) w h).mono λ_ _ ⟨h1,k,os,h2⟩=>⟨h1,by rw[h2];exact ZJ _ w (Nat.le_refl _) k os⟩
theorem bsize(l:List UInt8):(⟨l.toArray⟩:ByteArray).size=l.length:=by show l.toArray.size=_;simp
end Go.Proofs.YtfphigmeppdocaaGreatDoor.Q
namespace Go.Proofs.YtfphigmeppdocaaGreatDoor
open Go.RowKit Go.Conc fV Lo
theorem ZK:ownKnob Tryz.prog.godebug=none:=by kernel_rfl
theorem ZL{H:Type}{enc:Θ×ay→H}{a}{C}{os}{f}{fn}{s}{conds}{apart fresh handsOn again}{X:υ→Array ay→Prop}(hX:∀(w w':υ) (args:Array ay),w.heap=w'.heap→X w args→X w' args)(own:ownKnob C.prog.godebug=η)(started:os.Started)(hfn:C.prog.funcs[f]?=θ fn)(witness:∃(w:υ) (tape:Tape) (i:Input),w.os=os∧(w.forCall tape i).Shaped C.prog∧i.vars=[]∧Input.okWide C.prog (w.forCall tape i) .any w.heap.size f i∧
  ((s.pre enc C.prog fn conds apart (w.forCall tape i).memory i.args∧X (w.forCall tape i).memory i.args)∧sizedMet enc C.prog fn (D2 s) apart (w.forCall tape i).memory i.args)∧a.holds C.prog (lone (Frame.enter C.prog f i.args .normal) [] (w.forCall tape i)))(runs:∀(W:υ) (base:Nat) (args:Array ay) (ds gs:List (GU H)) (before:List MemPlace),
  (∀(j:Nat) t v,fn.params[j]?=θ t→args[j]?=θ v→Value.okWide C.prog W .any base t v)→
  DataW.Whole enc C.prog fn.params.toList s.vars apart W args.toList ds gs before→X W args→W.ShapedOpen C.prog→
  (Zw C.prog (fn.params.toList++s.plain.varTypes C.prog) (ds++gs)).all (·≤reachBytes)=ν→
  ∃M last o w' t',runNT C.prog (M+1) (solo (G (Frame.enter C.prog f args .normal) []) W) #[]=(.ended o w',t')∧runN C.prog M (solo (G (Frame.enter C.prog f args .normal) []) W)=.next last∧
   step C.prog last=.ended o w'∧Conc.Good C.prog (λv W'=>s.post enc C.prog fn apart fresh handsOn again W args v W') last o w' t'):ReturnsInLeavingWide a C os f .any (λw args=>(s.pre enc C.prog fn conds apart w args∧X w args)∧sizedMet enc C.prog fn (D2 s) apart w args) (s.post enc C.prog fn apart fresh handsOn again):=by
 refine returnsInLeavingWide_of_good own started witness ?_;intro w tape i _ hsh _ hok hpre _;obtain⟨_,_,_,fn',anE,_,_,_,_,hval⟩:=hok;obtain rfl:fn'=fn:=jP (anE.symm.trans hfn);obtain⟨⟨⟨ds,gs,before,hw,_⟩,hx⟩,hz⟩:=hpre;obtain⟨M,last,o,w',t',h1,h2,h3,h4⟩:=runs (w.forCall tape i) w.heap.size i.args ds gs before hval (hw.of_heap (by rfl)) (hX _ _ _ (by rfl) hx) hsh (hz.weights hw);exact⟨M,last,o,w',t',h1,h2,h3,h4.mono λv hp=>ChangeSpec.post_blind hp⟩
theorem ZM{W}(h:W.ShapedOpen Tryz.prog)(τ:Nat→Question→Nat)d:Q.iN (tp (kI W) τ d).heap.size (tp (kI W) τ d):=by
 obtain⟨m,hm⟩:=cell_of_shapedOpen_int (g:=0) (t:=3) (zero:=#[.int .i64 0]) (k:=.i64) h (AF (by kernel_rfl)) (by kernel_rfl) rfl (by kernel_rfl) (by kernel_rfl) Tryz.underlying3;refine⟨?_,m,(al1 W _).trans hm⟩;show _<(kI W).heap.size;rw[K8];rcases Nat.lt_or_ge 0 W.heap.size with k|k
 .exact k
 .simp[c7,gx k]at hm
theorem ZN {W} (h : Lm Tryz.prog W "internal/strconv.uint64pow10" .u64 Rq) (τ : Nat → Question → Nat)  d  : Q.gv (tp (kI W) τ d) := by
 unfold Q.gv Lm
 have e : BG ah (tp (kI W) τ d) "internal/strconv.uint64pow10" = BG Tryz.prog (kI W) "internal/strconv.uint64pow10" := by unfold BG Program.globalNamed;rw [akr];rfl
 rw[e]
 have h' : BG Tryz.prog W "internal/strconv.uint64pow10" = _ := h
 unfold BG at h' ⊢
 obtain ⟨g, hg⟩ : ∃ g, Tryz.prog.globalNamed "internal/strconv.uint64pow10" = θ g := by
  cases e : Tryz.prog.globalNamed "internal/strconv.uint64pow10" with
  |none=>simp[e]at h'
  |some g=>exact⟨g,rfl⟩
 rw[hg]at h' ⊢;simp only[C5]at h' ⊢;rw[K7];cases hb:W.heap[g]? with
 |none=>rw[hb]at h';exact h'
 |some o=>
  rw[hb]at h';cases o<;>exact h'
theorem RE{H:Type}{ts:List Θ}{ds:List (GU H)}{j:Nat}{s:ByteArray}(hsz:(Zw Tryz.prog ts ds).all (·≤reachBytes)=ν)(ht:ts[j]?=θ 9)(hd:ds[j]?=θ (.lit (.string s.data.toList))):s.size≤140737488351232:=by
 have h1:=List.all_eq_true.1 hsz s.size (DataW.weights_mem_each ht hd s.size (by simp[DataW.weights]));have h2:s.size≤reachBytes:=by simpa using h1
 have h3:reachBytes=140737488351232:=by decide
 omega
theorem zV{p}{s}{c}kinds tests har lk(hc:c.holds p s)(hw:c.wfByText s=ν)(htie:c.laidByTextAt .later p kinds tests)(hst:c.start=.entering)(hnb:c.noBlocks=ο∧c.again=ο)(hm:p.checked.prog.mainIs=θ (har.1,har.2.toList))(hn:(!har.1&&har.2.isEmpty&& !lk)=ο)(hl:∀f fn,p.checked.prog.funcNamed c.func=θ f→p.checked.prog.funcs[f]?=θ fn→lk=p.checked.prog.looks []∧∀(j:Nat) t,fn.params[j]?=θ t→p.checked.prog.wantsStandIn t=ο)(hg:ν=c.goesBy p.checked.prog):Claim7.holds p (.plain s) {stood:={row:=c,standIns:=[],harness:=har,looks:=lk },kinds:=[],alts:=[],goes:=ν,laidByText:=ν,laidKinds:=kinds,laidTests:=tests,laidLooks:=.later }:=by
 have h6:Claim7.isSixth {stood:={row:=c,standIns:=[],harness:=har,looks:=lk },kinds:=[] }=false:=by simpa[Claim7.isSixth]using hn
 exact⟨Claim7.tied_new_at .later kinds tests (Claim7.new_of_sixth hc har lk hst hnb hm h6 hl) hw,(λD hD=>by cases hD),htie,(λh=>by cases h),hg⟩
end Go.Proofs.YtfphigmeppdocaaGreatDoor
namespace Go.Proofs.YtfphigmeppdocaaGreatDoor.Q
open Lo (ah)
open Go.Lib
variable{ops:Array Oper}{cs:Array ay}{d h how t t0 v v0:Int}{F:Int->Int->Option Int}{q:Int×Int×Int}{l:List (Int×Int)}{m:List (Int×Int×Int)}{al:List Bool}{S T ns x:List Int}{xs:List ay}{B cap e aT i j k n r:Nat}{val:Nat->ay}{o st:Oper}{ao:Option bP}{P:Program}{cO cG:ay}{W W' w w' w0:υ}
variable{g:bg}{L:List (eF×ay)}
def ek(l:List UInt8):List (List UInt8):=if(sp 10 l).getLast?=θ []then(sp 10 l).dropLast else sp 10 l
def ew(l:List UInt8):List (List UInt8):=(sp 32 l).filter λx=> !x.isEmpty
def mY:List (List UInt8)->Bool
 |[]=>ο
 |w::_=>w.head? !=θ 35
def pH:List UInt8:=[103,114,97,112,104]
def qs:List UInt8:=[99,108,101,97,114]
def gL:List UInt8:=[115,104,111,119]
def lG:List UInt8:=[108,97,98,101,108,115]
def rD:List UInt8:=[104,111,112,115]
def ur:List UInt8:=[99,111,115,116,115]
def kO:List UInt8:=[97,108,108]
def sW:List UInt8:=[101,97,114,108,121]
def vL:List UInt8:=[108,97,116,101]
def vM:List UInt8:=[99,104,101,97,112]
def vN:List UInt8:=[102,101,119]
def mZ:List UInt8:=[102,97,115,116]
def kP:List UInt8:=[103,111]
def lH:List UInt8:=[111,107]
def RF:List UInt8:=[110,111,110,101]
def RG:List UInt8:=[101,114,114,111,114,32]
def sX(k:List UInt8):Option (Nat×Bool):=
 if k=qs\/k=gL then θ (0,ο)else if k=pH then θ (0,ν)else if k=lG then θ (1,ο)
 else if k=rD\/k=ur\/k=kO\/k=sW\/k=vL\/k=vM\/k=vN\/k=mZ then θ (2,ο)
 else if k=kP then θ (2,ν)else η
def zx(w:List UInt8):Option (Int×Int):=
 match nm (cut w [64]).1,nm (cut w [64]).2.1 with
 |some e,θ t=>θ (e,t)
 |_,_=>η
def fY:List (List UInt8)->Option (List (Int×Int))
 |[]=>θ []
 |w::ws=>match zx w with
  |none=>η
  |some h=>match fY ws with
   |none=>η
   |some l=>θ (h::l)
structure nT where
 name:List UInt8
 n:List Int
 further:List (List UInt8)
 hops:List (Int×Int)
def BK(k:List UInt8)(m:Nat)(ws:List (List UInt8)):Option nT:=match fD (ws.take m)with
 |none=>η
 |some ns=>if k=kP then match fY (ws.drop m)with
   |none=>η
   |some hs=>θ ⟨k,ns,ws.drop m,hs⟩
  else θ ⟨k,ns,ws.drop m,[]⟩
def nc:List (List UInt8)->Option nT
 |[]=>η
 |k::ws=>match sX k with
  |none=>η
  |some (m,f)=>if ws.length=m\/(f=ν/\m<ws.length)then BK k m ws else η
theorem anF{a}{w}{h}(ha:fY a=θ l)(hw:zx w=θ h):fY (a++[w])=θ (l++[h]):=by
 induction a generalizing l with
 |nil=>simp[fY]at ha;subst ha;simp[fY,hw]
 |cons x a ih=>
  rw[fY]at ha;rw[List.cons_append,fY];cases e:zx x with
  |none=>rw[e]at ha;simp at ha
  |some m=>
   rw[e]at ha;cases e2:fY a with
   |none=>rw[e2]at ha;simp at ha
   |some l' =>
    rw[e2]at ha;simp only[Γ]at ha;subst ha;simp only[ih e2,List.cons_append]
theorem RH{w}(hw:zx w=η):∀(a b:List (List UInt8)),fY (a++w::b)=η
 |[],b=>by rw[List.nil_append,fY,hw]
 |x::a,b=>by rw[List.cons_append,fY,RH hw a b];cases zx x<;>rfl
theorem ZO{a}(h:fY a=θ l):l.length=a.length:=by
 induction a generalizing l with
 |nil=>simp[fY]at h;subst h;rfl
 |cons x a ih=>
  rw[fY]at h;cases e:zx x with
  |none=>rw[e]at h;simp at h
  |some m=>
   rw[e]at h;cases e2:fY a with
   |none=>rw[e2]at h;simp at h
   |some l'=>rw[e2]at h;simp only[Γ]at h;subst h;simp[ih e2]
def ie(e:Int):List UInt8:=RG++dK e
def nV(n:Int):List UInt8:=if n=1099511627776 then[45]else dK n
def vO(l:List (List UInt8)):List UInt8:=if l=[]then RF else jn 32 l
def pI(l:List Int):List UInt8:=vO (l.map nV)
def oL(p:Int×Int×Int):List UInt8:=dK p.1++45::dK p.2.1++58::dK p.2.2
def lI(m:List (Int×Int×Int)):List UInt8:=if m=[]then[45]else jn 44 (m.map oL)
def fQ(R:bg->nT->List UInt8->Prop)(T:List UInt8)(ws:List (List UInt8))(a aM:List UInt8):Prop:=
 match nc ws with
 |none=>a=ie 3/\aM=T
 |some o=>
  if o.name=pH then(if 8192<(T++jn 32 o.further++[10]).length then a=ie 2/\aM=T else a=lH/\aM=T++jn 32 o.further++[10])
  else if o.name=qs then a=lH/\aM=[]
  else if(parse T).2.2≠0 then a=ie (parse T).2.2++32::dK (parse T).2.1/\aM=T
  else R (parse T).1 o a/\aM=T
inductive ig (R:bg->nT->List UInt8->Prop):List UInt8->List (List UInt8)->List UInt8->List UInt8->Prop
 |nil (T:List UInt8):ig R T [] [] T
 |skip {T l L out aM}:mY (ew l)=ο->ig R T L out aM->ig R T (l::L) out aM
 |ask {T l L a T1 out aM}:mY (ew l)=ν->fQ R T (ew l) a T1->ig R T1 L out aM->ig R T (l::L) (a++10::out) aM
variable {R:bg->nT->List UInt8->Prop}
theorem anG(hR:∀g o a b,aK g=0->R g o a->R g o b->a=b)(hp:∀T,(parse T).2.2=0->aK (parse T).1=0){T}{ws}{a b T1 T2}(h:fQ R T ws a T1)(k:fQ R T ws b T2):a=b/\T1=T2:=by
 unfold fQ at h k;split at h
 .rename_i e;simp only[e]at k;exact⟨h.1.trans k.1.symm,h.2.trans k.2.symm⟩
 .rename_i o e;simp only[e]at k;by_cases h1:o.name=pH
  .simp only[h1,dF]at h k;split at h<;>rename_i e2<;>simp only[e2,dF,fh]at k<;>exact⟨h.1.trans k.1.symm,h.2.trans k.2.symm⟩
  .simp only[h1,fh]at h k;by_cases h2:o.name=qs
   .simp only[h2,dF]at h k;exact⟨h.1.trans k.1.symm,h.2.trans k.2.symm⟩
   .simp only[h2,fh]at h k;by_cases h3:(parse T).2.2=0
    .simp only[h3,ne_eq,Jn,fh]at h k;exact⟨hR _ _ _ _ (hp T h3) h.1 k.1,h.2.trans k.2.symm⟩
    .simp only[ne_eq,h3,NQ,dF]at h k;exact⟨h.1.trans k.1.symm,h.2.trans k.2.symm⟩
theorem ZP T(h:(parse T).2.2=0):aK (parse T).1=0:=by
 unfold parse at h ⊢;split at h
 .simp at h
 .rename_i h8;rw[ς h8];cases e:gT g0 1 ν (sp 10 T)with
  |inr n=>rw[e]at h;simp at h
  |inl g=>
   rw[e]at h;simp only at h ⊢;by_cases hg:aK g=0
   .rw[χ hg];exact hg
   .rw[ς hg]at h;exact absurd h hg
theorem Lu(hR:∀g o a b,aK g=0->R g o a->R g o b->a=b){T}{L}{a T1}(h:ig R T L a T1):∀{b T2},ig R T L b T2->a=b/\T1=T2:=by
 induction h with
 |nil T=>intro b T2 k;cases k;exact⟨rfl,rfl⟩
 |skip h1 _ ih=>
  intro b T2 k;cases k with
  |skip _ k2=>exact ih k2
  |ask k1 _ _=>rw[h1]at k1;cases k1
 |ask h1 h2 _ ih=>
  intro b T2 k;cases k with
  |skip k1 _=>rw[h1]at k1;cases k1
  |ask _ k2 bz=>
   obtain⟨rfl,rfl⟩:=anG hR ZP h2 k2;obtain⟨rfl,rfl⟩:=ih bz;exact⟨rfl,rfl⟩
theorem anH{T}{L M}{a T1}(h:ig R T (L++M) a T1):∃b c T2,ig R T L b T2/\ig R T2 M c T1/\a=b++c:=by
 induction L generalizing T a with
 |nil=>exact⟨[],a,T,.nil T,h,rfl⟩
 |cons l L ih=>
  cases h with
  |skip h1 h2=>
   obtain⟨b,c,T2,k1,k2,rfl⟩:=ih h2;exact⟨b,c,T2,.skip h1 k1,k2,rfl⟩
  |ask h1 h2 h3=>
   obtain⟨b,c,T2,k1,k2,rfl⟩:=ih h3;exact⟨_,c,T2,.ask h1 h2 k1,k2,by simp⟩
theorem ZQ{T}{L}{l out aM}(h:ig R T L out aM)(hl:mY (ew l)=ο):ig R T (L++[l]) out aM:=by
 induction h with
 |nil T=>exact .skip hl (.nil T)
 |skip h1 _ ih=>exact .skip h1 ih
 |ask h1 h2 _ ih=>exact .ask h1 h2 ih
theorem anI{T}{L}{l out aM a T2}(h:ig R T L out aM)(hl:mY (ew l)=ν)(hd:fQ R aM (ew l) a T2):ig R T (L++[l]) (out++(a++[10])) T2:=by
 induction h with
 |nil T=>exact .ask hl hd (.nil T2)
 |skip h1 _ ih=>exact .skip h1 (ih hd)
 |ask h1 h2 _ ih=>
  have:=ig.ask h1 h2 (ih hd);simpa using this
theorem anJ{T}{L}{a T1}(h:ig R T L a T1):(L.filter λl=>mY (ew l)).length<=a.count 10/\(a=[]\/a.getLast?=θ 10):=by
 induction h with
 |nil T=>exact⟨by simp,.inl rfl⟩
 |skip h1 _ ih=>exact⟨by rw[List.filter_cons_of_neg (by simp[h1])];exact ih.1,ih.2⟩
 |@ask T l L a T1 out aM h1 h2 _ ih=>
  refine⟨?_,.inr ?_⟩
  .rw[List.filter_cons_of_pos (by simp[h1]),List.count_append,List.count_cons_self,List.length_cons];omega
  .rcases ih.2 with rfl|h
   .simp
   .rw[List.getLast?_append,List.getLast?_cons];simp[h]
theorem ZR c l m:sp c (l++c::m)=sp c l++sp c m:=by
 induction l with
 |nil=>simp[sp]
 |cons x l ih=>
  have e1:∀y r,sp c (y::r)=if y=c then[]::sp c r else((y::(sp c r).headD [])::(sp c r).tail):=λ_ _=>rfl
  rw[List.cons_append,e1,e1,ih];split
  .simp
  .obtain⟨h,t,e⟩:=xB c l;rw[e];simp
theorem anK:mY (ew [])=false:=by simp[ew,sp,mY]
theorem anL(hR:∀g o a b,aK g=0->R g o a->R g o b->a=b){l m}{a b T1 T2}(h:ig R [] (ek (l++10::m)) a T1)(k:ig R [] (ek l) b T2):∃c,a=b++c:=by
 have key:∀{M:List (List UInt8)},ig R [] (sp 10 l++M) a T1->∃c,a=b++c:=by
  intro M h;obtain⟨b',c,aM,k1,_,rfl⟩:=anH h;have:b'=b:=by
   unfold ek at k;split at k
   ·(rename_i e;have e2:sp 10 l=(sp 10 l).dropLast++[[]]:=by obtain⟨x,hx⟩:=List.getLast?_eq_some_iff.1 e;rw[hx];simp);rw[e2]at k1;exact(Lu hR k1 (ZQ k anK)).1
   .exact(Lu hR k1 k).1
  exact⟨c,by rw[this]⟩
 unfold ek at h;rw[ZR]at h;split at h
 .rename_i e;have:(sp 10 l++sp 10 m).dropLast=sp 10 l++(sp 10 m).dropLast:=List.dropLast_append_of_ne_nil (zg 10 m);rw[this]at h;exact key h
 .exact key h
end Go.Proofs.YtfphigmeppdocaaGreatDoor.Q
namespace Go.Proofs.YtfphigmeppdocaaGreatDoor.Q
open Lo (ah)
open Go.Proofs.Tryz
open Go.RowKit
theorem BL n lo hi w:Ξ ah 65 #[.int .i64 n,.int .i64 lo,.int .i64 hi] w λe w'=>e=.returned (.bool (c9 n lo hi))/\w'=w:=by
 by_cases g1:lo<=n
 .by_cases g2:n<=hi
  .have ak:=aa ((oI n lo hi).2 ⟨g1,g2⟩);go_enter QI,ntmps65;go_wp2;go_ret;exact⟨gK ak.out.symm,rfl⟩
  .have ak:=aa (Y8 (n:=n) (lo:=lo) (hi:=hi) (λh=>g2 h.2));go_enter QI,ntmps65;go_wp2;go_ret;exact⟨gK ak.out.symm,rfl⟩
 .have ak:=aa (Y8 (n:=n) (lo:=lo) (hi:=hi) (λh=>g1 h.1));go_enter QI,ntmps65;go_wp2;go_ret;exact⟨gK ak.out.symm,rfl⟩
theorem RI a b h w:Ξ ah 66 #[.int .i64 a,.int .i64 b,.int .i64 h] w λe w'=>e=.returned (.bool (rq a b h))/\w'=w:=by
 by_cases g1:0<=a
 .by_cases g2:a<b
  .by_cases g3:b<=h
   .have ak:=aa ((Ld a b h).2 ⟨g1,g2,g3⟩);go_enter KY,ntmps66;go_wp2;go_ret;exact⟨gK ak.out.symm,rfl⟩
   .have ak:=aa (Q5 (a:=a) (b:=b) (h:=h) (λk=>g3 k.2.2));go_enter KY,ntmps66;go_wp2;go_ret;exact⟨gK ak.out.symm,rfl⟩
  .have ak:=aa (Q5 (a:=a) (b:=b) (h:=h) (λk=>g2 k.2.1));go_enter KY,ntmps66;go_wp2;go_ret;exact⟨gK ak.out.symm,rfl⟩
 .have ak:=aa (Q5 (a:=a) (b:=b) (h:=h) (λk=>g1 k.1));go_enter KY,ntmps66;go_wp2;go_ret;exact⟨gK ak.out.symm,rfl⟩
theorem Lv l h w:Ξ ah 104 #[.agg #[.int .i64 l.1,.int .i64 l.2.1,.int .i64 l.2.2.1,.int .i64 l.2.2.2],.int .i64 h] w λe w'=>e=.returned (.bool (sN l h))/\Below w.heap.size w w':=by
 have aD:=aa (ax w);have aJ:Hid (sN l h=(rq l.1 l.2.1 h&&(c9 l.2.2.1 1 50&&c9 l.2.2.2 0 1000))):=rfl;cases e1:rq l.1 l.2.1 h<;>cases e2:c9 l.2.2.1 1 50<;>cases e3:c9 l.2.2.2 0 1000<;>rw[e1,e2,e3]at aJ
 all_goals
  go_enter ak6,ntmps104;go_wp2_with(first|(go_at_call 66;refine(RI _ _ _ _).mono ?_;rintro e w' ⟨rfl,rfl⟩)|(go_at_call 65;refine(BL _ _ _ _).mono ?_;rintro e w' ⟨rfl,rfl⟩));go_ret;exact⟨gK aJ.out.symm,aD.out _⟩
theorem G4 h la ea nl lc ne ec v w(hnl:nl<=12):Ξ ah 89 #[.agg #[.int .i64 h,.slice la nl lc,.slice ea ne ec],.int .i64 v] w λr w'=>r=.returned (.bool (c9 v 0 ((nl:Int)- 1)))/\Below w.heap.size w w':=by have aD:=aa (ax w);go_enter ak2,ntmps89;go_wp2_with(go_at_call 65;refine(BL _ _ _ _).mono ?_;rintro e w' ⟨rfl,rfl⟩);go_ret;exact⟨rfl,aD.out _⟩
theorem RJ h la ea nl lc ne ec t w(h0:1<=h)(h1:h<=100):Ξ ah 106 #[.agg #[.int .i64 h,.slice la nl lc,.slice ea ne ec],.int .i64 t] w λr w'=>r=.returned (.bool (c9 t 0 (h- 1)))/\Below w.heap.size w w':=by have aD:=aa (ax w);go_enter ak8,ntmps106;go_wp2_with(go_at_call 65;refine(BL _ _ _ _).mono ?_;rintro e w' ⟨rfl,rfl⟩);go_ret;exact⟨rfl,aD.out _⟩
variable{ops:Array Oper}{cs:Array ay}{d h how t t0 v v0:Int}{F:Int->Int->Option Int}{q:Int×Int×Int}{l:List (Int×Int)}{m:List (Int×Int×Int)}{al:List Bool}{S T ns x:List Int}{xs:List ay}{B cap e aT i j k n r:Nat}{val:Nat->ay}{o st:Oper}{ao:Option bP}{P:Program}{cO cG:ay}{W W' w w' w0:υ}
variable{g:bg}{L:List (eF×ay)}
theorem ZS{n}{e}(k:(c9 e.1 0 (n- 1)&&c9 e.2.1 0 (n- 1))=ο):iL h n e=4:=by unfold iL;rw[χ k]
theorem anM{n}{e}(k:(c9 e.1 0 (n- 1)&&c9 e.2.1 0 (n- 1))=ν)(l:6<e.2.2.length):iL h n e=2:=by unfold iL;rw[ς (by simp[k]),χ l]
theorem anN{n}{e}(k:(c9 e.1 0 (n- 1)&&c9 e.2.1 0 (n- 1))=ν)(l:¬6<e.2.2.length):iL h n e=fC h 0 e.2.2:=by unfold iL;rw[ς (by simp[k]),ς l]
theorem anO h la ea nl lc ne ec e lo cv w(hL:pn w lo e.2.2)(hnl:nl<=12):Ξ ah 67 #[.agg #[.int .i64 h,.slice la nl lc,.slice ea ne ec],.agg #[.int .i64 e.1,.int .i64 e.2.1,.slice lo e.2.2.length cv]] w λr w'=>r=.returned (.int .i64 (iL h nl e))/\Below w.heap.size w w':=by
 obtain⟨A,B,aH⟩:=e;simp only at hL ⊢;have aD:Hid (∀o o',Below w.heap.size w ((w.alloc o).alloc o')):=λo o'=>bK (ax w o) (ax _ o');obtain⟨e8,gM⟩:∃x,x=(w.alloc (.cells #[.int .i64 h,.slice la nl lc,.slice ea ne ec] 59)).alloc (.cells #[.int .i64 A,.int .i64 B,.slice lo aH.length cv] 112):=⟨_,rfl⟩;have uv:Hid (∀W,Below (w.heap.size+2) e8 W->W.cell? ⟨w.heap.size,0,η⟩=θ (.int .i64 h)/\W.cell? ⟨w.heap.size,1,η⟩=θ (.slice la nl lc)/\W.cell? ⟨w.heap.size,2,η⟩=θ (.slice ea ne ec)/\W.cell? ⟨w.heap.size+1,0,η⟩=θ (.int .i64 A)/\W.cell? ⟨w.heap.size+1,1,η⟩=θ (.int .i64 B)/\W.cell? ⟨w.heap.size+1,2,η⟩=θ (.slice lo aH.length cv)):=by
  intro W hb;refine⟨?_,?_,?_,?_,?_,?_⟩
  .rw[hb.cell (p:=⟨w.heap.size,0,η⟩) (by simp),gM];simp
  .rw[hb.cell (p:=⟨w.heap.size,1,η⟩) (by simp),gM];simp
  .rw[hb.cell (p:=⟨w.heap.size,2,η⟩) (by simp),gM];simp
  .rw[hb.cell (p:=⟨w.heap.size+1,0,η⟩) (by simp),gM];simp
  .rw[hb.cell (p:=⟨w.heap.size+1,1,η⟩) (by simp),gM];simp
  .rw[hb.cell (p:=⟨w.heap.size+1,2,η⟩) (by simp),gM];simp
 have hs2:e8.heap.size=w.heap.size+2:=by rw[gM];simp
 have fN:Hid (∀W,Below (w.heap.size+2) e8 W->Below w.heap.size w W):=λW hb=>by rw[gM]at hb;exact(aD.out _ _).trans (hb.mono (by omega))
 have qu:=λW=>G4 h la ea nl lc ne ec A W hnl;have uw:=λW=>G4 h la ea nl lc ne ec B W hnl;have lJ:=aa hs2;have RL:=gM.symm;clear hs2 gM;cases e1:c9 A 0 ((nl:Int)- 1)
 .have ak:=aa (ZS (h:=h) (n:=nl) (e:=(A,B,aH)) (by simp[e1]));rw[e1]at qu;have Q:=uv.out e8 (Below.refl _ _);obtain⟨q0,q1,q2,dR,iH,lf⟩:=Q;go_enter KZ,ntmps67;go_wp2_with fail;refine(qu _).mono ?_;rintro e w3 ⟨rfl,aB⟩;have cz:=fN.out w3 (by rw[lJ.out]at aB;exact aB);go_wp2;go_ret;exact⟨dS ak.out.symm,cz⟩
 cases e2:c9 B 0 ((nl:Int)- 1)
 .have ak:=aa (ZS (h:=h) (n:=nl) (e:=(A,B,aH)) (by simp[e2]));rw[e1]at qu;rw[e2]at uw;obtain⟨q0,q1,q2,dR,iH,lf⟩:=uv.out e8 (Below.refl _ _);go_enter KZ,ntmps67;go_wp2_with fail;refine(qu _).mono ?_;rintro e w3 ⟨rfl,aB⟩;rw[lJ.out]at aB;have bw:=aa aB;clear qu aB RL q0 q1 q2 dR iH lf;obtain⟨q0,q1,q2,dR,iH,lf⟩:=uv.out w3 bw.out;go_wp2_with fail;refine(uw _).mono ?_;rintro e w4 ⟨rfl,hb4⟩;have cz:=fN.out w4 (bw.out.trans (hb4.mono (by have:=bw.out.size;have:=lJ.out;omega)));clear uw hb4 q0 q1 q2 dR iH lf;go_wp2;go_ret;exact⟨dS ak.out.symm,cz⟩
 rw[e1]at qu;rw[e2]at uw;by_cases h6:6<aH.length
 .have ak:=aa (anM (h:=h) (n:=nl) (e:=(A,B,aH)) (by simp[e1,e2]) h6);obtain⟨q0,q1,q2,dR,iH,lf⟩:=uv.out e8 (Below.refl _ _);clear hL e1 e2;go_enter KZ,ntmps67;go_wp2_with fail;refine(qu _).mono ?_;rintro e w3 ⟨rfl,aB⟩;rw[lJ.out]at aB;have bw:=aa aB;clear qu aB RL q0 q1 q2 dR iH lf;obtain⟨q0,q1,q2,dR,iH,lf⟩:=uv.out w3 bw.out;go_wp2_with fail;refine(uw _).mono ?_;rintro e w4 ⟨rfl,hb4⟩;have cr:=aa (bw.out.trans (hb4.mono (by have:=bw.out.size;have:=lJ.out;omega)));have cz:=fN.out w4 cr.out;clear uw hb4 q0 q1 q2 dR iH lf;obtain⟨q0,q1,q2,dR,iH,lf⟩:=uv.out w4 cr.out;go_wp2;go_ret;exact⟨dS ak.out.symm,cz⟩
 have ak:=aa (anN (h:=h) (n:=nl) (e:=(A,B,aH)) (by simp[e1,e2]) h6);have Gr:aH.length<=6:=by omega
 obtain⟨q0,q1,q2,dR,iH,lf⟩:=uv.out e8 (Below.refl _ _);clear e1 e2;go_enter KZ,ntmps67;go_wp2_with fail;refine(qu _).mono ?_;rintro e w3 ⟨rfl,aB⟩;rw[lJ.out]at aB;have bw:=aa aB;clear qu aB RL q0 q1 q2 dR iH lf;obtain⟨q0,q1,q2,dR,iH,lf⟩:=uv.out w3 bw.out;go_wp2_with fail;refine(uw _).mono ?_;rintro e w4 ⟨rfl,hb4⟩;have cr:=aa (bw.out.trans (hb4.mono (by have:=bw.out.size;have:=lJ.out;omega)));clear uw hb4 q0 q1 q2 dR iH lf;obtain⟨q0,q1,q2,dR,iH,lf⟩:=uv.out w4 cr.out;go_wp2_with fail;go_loopw [6,26] (λ_ i wr=>∃k:Nat,k<=aH.length/\i=.int .i64 k/\fC h 0 aH=fC h (sO aH k) (aH.drop k)/\Below (w.heap.size+2) e8 wr) (λ_ i _=>aH.length-(intOf i).toNat)
 case atStart=>exact⟨0,Nat.zero_le _,rfl,rfl,cr.out⟩
 case round=>
  obtain⟨k,hk,rfl,hI,hb⟩:=hrel;have bu:=aa hI;clear hI;have bQ:Below w.heap.size w wr:=fN.out wr hb;clear q0 q1 q2 dR iH lf;by_cases hlt:k<aH.length
  .have hz:=hb.size;rw[lJ.out]at hz;(have cg:w.heap.size<wr.heap.size:=by omega);(have hz1:w.heap.size+1<wr.heap.size:=by omega);rcases hL.below bQ with h0|⟨b,off,rfl,cp,hc⟩
   .subst h0;simp at hlt
   (obtain⟨c0,c1,c2,c3⟩:=pn.get hlt hc;have q0:wr.cell? ⟨w.heap.size,0,η⟩=θ (.int .i64 h):=(uv.out wr hb).1;have aR:Hid (∀o w1,Below (wr.alloc o).heap.size (wr.alloc o) w1->Below w.heap.size w w1/\Below (w.heap.size+2) e8 w1):=by intro o w1 h1;have:=bK (ax wr o) h1;exact⟨bQ.trans (this.mono bQ.size),hb.trans (this.mono (by omega))⟩);cases zy:sN aH[k] h
   .have bI:=aa (amu hlt bu.out zy);clear hc hL;go_wp2_with(go_at_call 104;refine(Lv aH[k] _ _).mono ?_;rintro e w1 ⟨rfl,aj⟩);go_ret;exact⟨dS (by rw[ak.out,bI.out]),(aR.out _ _ aj).1⟩
   .have hf:=(xz aH[k] h).1 zy;by_cases hk0:k=0
    .subst hk0;simp only[Nat.zero_mul,Nat.add_zero]at c0 c1 c2 c3;have bI:=aa (Zc hlt bu.out zy (by simp only[sO];omega));clear hc hL hf;go_wp2_with(go_at_call 104;refine(Lv aH[0] _ _).mono ?_;rintro e w1 ⟨rfl,aj⟩)
     go_quiet (fail)
     go_wp2;go_roundw
     case rel=>exact⟨0+1,by omega,by go_num,bI.out,below_drewN (aR.out _ _ aj).2 _⟩
     case measure=>simp[intOf];omega
    ·(obtain⟨m,rfl⟩:∃m,k=m+1:=⟨k- 1,by omega⟩;(have hm:m<aH.length:=by omega);have ue:=(pn.get hm hc).2.1;have bU:=aa (amy hm);have q2:wr.cell? ⟨w.heap.size+1,2,η⟩=θ (.slice (θ ⟨b,off,η⟩) aH.length cv):=(uv.out wr hb).2.2.2.2.2;have gw:Hid (∀o w1,Below (wr.alloc o).heap.size (wr.alloc o) w1->w1.cell? ⟨w.heap.size+1,2,η⟩=θ (.slice (θ ⟨b,off,η⟩) aH.length cv)/\w1.cell? ⟨b,off+m*4+1,η⟩=θ (.int .i64 aH[m].2.1)):=by intro o w1 h1;have:=bK (ax wr o) h1;exact⟨by rw[this.cell (p:=⟨w.heap.size+1,2,η⟩) (by simp;omega),q2],by rw[this.cell (p:=⟨b,off+m*4+1,η⟩) cp,ue]⟩);by_cases g:aH[m+1].1<aH[m].2.1
     .have bI:=aa (amv hlt bu.out zy (by rw[bU.out];exact g));clear hc hL hf q2 ue;go_wp2_with(go_at_call 104;refine(Lv aH[m+1] _ _).mono ?_;rintro e w1 ⟨rfl,aj⟩);have aq:=aa aj;obtain⟨d2,dp⟩:=gw.out _ _ aq.out;have d0:w1.cell? ⟨wr.heap.size,0,η⟩=θ (.int .i64 aH[m+1].1):=by rw[aq.out.cell (p:=⟨wr.heap.size,0,η⟩) (by simp)];simp
      go_quiet (fail)
      go_wp2;go_ret;exact⟨dS (by rw[ak.out,bI.out]),below_drewN (aR.out _ _ aq.out).1 _⟩
     .have bI:=aa (Zc hlt bu.out zy (by rw[bU.out];exact g));(have dg:decide (aH[m+1].1<aH[m].2.1)=false:=by simpa using g);clear hc hL hf q2 ue;go_wp2_with(go_at_call 104;refine(Lv aH[m+1] _ _).mono ?_;rintro e w1 ⟨rfl,aj⟩);have aq:=aa aj;obtain⟨d2,dp⟩:=gw.out _ _ aq.out;have d0:w1.cell? ⟨wr.heap.size,0,η⟩=θ (.int .i64 aH[m+1].1):=by rw[aq.out.cell (p:=⟨wr.heap.size,0,η⟩) (by simp)];simp
      go_quiet (fail)
      go_wp2;go_roundw
      case rel=>exact⟨m+1+1,by omega,by go_num,bI.out,below_drewN (aR.out _ _ aq.out).2 _⟩
      case measure=>simp[intOf];omega
  ·(have bp:k=aH.length:=by omega);subst bp;have bI:=aa (amx bu.out);go_wp2;go_ret;exact⟨dS (by rw[ak.out,bI.out]),bQ⟩
theorem Eb g la ea lc ec w(hG:cL w la ea g):Ξ ah 40 #[.agg #[.int .i64 g.hor,.slice la g.lives.length lc,.slice ea g.af.length ec]] w λr w'=>r=.returned (.int .i64 (aK g))/\Below w.heap.size w w':=by
 obtain⟨h,lives,af⟩:=g;have aD:=aa (ax w);cases e1:c9 h 1 100
 .have ak:=aa (amF (g:=⟨h,lives,af⟩) e1);go_enter KW,ntmps40;go_wp2_with(go_at_call 65;refine(BL _ _ _ _).mono ?_;rintro e w' ⟨rfl,rfl⟩);go_ret;exact⟨dS ak.out.symm,aD.out _⟩
 by_cases n1:12<lives.length
 .have ak:=aa (Zd (g:=⟨h,lives,af⟩) e1 (.inl n1));go_enter KW,ntmps40;go_wp2_with(go_at_call 65;refine(BL _ _ _ _).mono ?_;rintro e w' ⟨rfl,rfl⟩);go_ret;exact⟨dS ak.out.symm,aD.out _⟩
 by_cases n2:30<af.length
 .have ak:=aa (Zd (g:=⟨h,lives,af⟩) e1 (.inr n2));go_enter KW,ntmps40;go_wp2_with(go_at_call 65;refine(BL _ _ _ _).mono ?_;rintro e w' ⟨rfl,rfl⟩);go_ret;exact⟨dS ak.out.symm,aD.out _⟩
 have cA:=aa (λk=>amG (g:=⟨h,lives,af⟩) e1 (by simp only;omega) k);have bI:=aa (λk=>amH (g:=⟨h,lives,af⟩) e1 (by simp only;omega) k);have hlv:=hG.lv;have jE:=hG.ed;go_enter KW,ntmps40;go_wp2_with(go_at_call 65;refine(BL _ _ _ _).mono ?_;rintro e w' ⟨rfl,rfl⟩);go_loopw [25] (λi wr=>∃k:Nat,k<=lives.length/\i=.int .i64 k/\kJ h lives=kJ h (lives.drop k)/\Below (w.heap.size+1) (w.alloc (.cells #[.int .i64 h,.slice la lives.length lc,.slice ea af.length ec] 59)) wr) (λi _=>lives.length-(intOf i).toNat)
 case atStart=>exact⟨0,Nat.zero_le _,rfl,rfl,Below.refl _ _⟩
 case round=>
  obtain⟨k,hk,rfl,hI,hb⟩:=hrel;have bu:=aa hI;have bQ:=(aD.out _).trans (hb.mono (by omega));have hz:=hb.size;simp only[lC]at hz;have cg:w.heap.size<wr.heap.size:=by omega
  have q0:wr.cell? ⟨w.heap.size,0,η⟩=θ (.int .i64 h):=by rw[hb.cell (p:=⟨w.heap.size,0,η⟩) (by simp)];simp
  have q1:wr.cell? ⟨w.heap.size,1,η⟩=θ (.slice la lives.length lc):=by rw[hb.cell (p:=⟨w.heap.size,1,η⟩) (by simp)];simp
  have q2:wr.cell? ⟨w.heap.size,2,η⟩=θ (.slice ea af.length ec):=by rw[hb.cell (p:=⟨w.heap.size,2,η⟩) (by simp)];simp
  by_cases hlt:k<lives.length
  .rcases hlv.below bQ with h0|⟨b,off,rfl,cp,hc⟩
   .subst h0;simp at hlt
   obtain⟨c0,c1⟩:=eg.get hlt hc;have aR:=aa (λo=>(⟨bQ.alloc bQ.size o,hb.alloc (by omega) o⟩:Below w.heap.size w (wr.alloc o)/\Below (w.heap.size+1) (w.alloc (.cells #[.int .i64 h,.slice (θ ⟨b,off,η⟩) lives.length lc,.slice ea af.length ec] 59)) (wr.alloc o)));cases zy:rq lives[k].1 lives[k].2 h
   .have ak:=aa (amC hlt bu.out zy);go_wp2_with(go_at_call 66;refine(RI _ _ _ _).mono ?_;rintro e w1 ⟨rfl,rfl⟩);go_ret;exact⟨dS (cA.out ak.out).symm,(aR.out _).1⟩
   .have ak:=aa (amD hlt bu.out zy);go_wp2_with(go_at_call 66;refine(RI _ _ _ _).mono ?_;rintro e w1 ⟨rfl,rfl⟩);go_roundw
    case rel=>exact⟨k+1,by omega,by go_num,ak.out,(aR.out _).2⟩
    case measure=>simp[intOf];omega
  ·(have bp:k=lives.length:=by omega);subst bp;have ak:=aa (bI.out (amE bu.out));have ZT:=hlv.below bQ;have anP:=jE.below bQ;have sY:=aa bQ;clear hlv jE bQ hb cA bI;obtain⟨mG,ux⟩:∃mG,mG=wr:=⟨_,rfl⟩;subst ux;go_wp2;go_loopw [7,41] (λ_ i wr=>∃k:Nat,k<=af.length/\i=.int .i64 k/\iM h lives.length af=iM h lives.length (af.drop k)/\Below mG.heap.size mG wr) (λ_ i _=>af.length-(intOf i).toNat)
   case atStart=>exact⟨0,Nat.zero_le _,rfl,rfl,Below.refl _ _⟩
   case round=>
    obtain⟨k,hk,rfl,hI,hb⟩:=hrel;have bu:=aa hI;have hz:=hb.size;(have hz1:w.heap.size<wr.heap.size:=by omega);by_cases hlt:k<af.length
    .rcases anP.below hb with h0|⟨b,off,rfl,cp,hc⟩
     .subst h0;simp at hlt
     (obtain⟨c0,c1,lo,cv,c2,hL,_,_⟩:=hc k hlt;(have p0:wr.cell? ⟨w.heap.size,0,η⟩=θ (.int .i64 h):=by rw[hb.cell (p:=⟨w.heap.size,0,η⟩) cg,q0]);(have p2:wr.cell? ⟨w.heap.size,2,η⟩=θ (.slice (θ ⟨b,off,η⟩) af.length ec):=by rw[hb.cell (p:=⟨w.heap.size,2,η⟩) cg,q2]);(have p1:wr.cell? ⟨w.heap.size,1,η⟩=θ (.slice la lives.length lc):=by rw[hb.cell (p:=⟨w.heap.size,1,η⟩) cg,q1]);have aR:Hid (∀o w1,Below (wr.alloc o).heap.size (wr.alloc o) w1->Below mG.heap.size mG w1):=by intro o w1 h1;exact bK hb (bK (ax wr o) h1));have hcl:=λo=>anO h la (θ ⟨b,off,η⟩) lives.length lc af.length ec af[k] lo cv (wr.alloc o) (hL.below (ax wr o)) (by omega);by_cases he:iL h lives.length af[k]=0
     .have oM:=aa (amA hlt bu.out he);rw[he]at hcl;go_wp2_with(go_at_call 67;refine(hcl _).mono ?_;rintro e w1 ⟨rfl,aj⟩);go_roundw
      case rel=>exact⟨k+1,by omega,by go_num,oM.out,aR.out _ _ aj⟩
      case measure=>simp[intOf];omega
     .have oM:=aa (amz hlt bu.out he);(have hne:(iL h lives.length af[k] !=0)=true:=by simpa using he);generalize iL h lives.length af[k]=ev at*;go_wp2_with(go_at_call 67;refine(hcl _).mono ?_;rintro e w1 ⟨rfl,aj⟩);go_ret;exact⟨dS (by rw[ak.out];exact oM.out.symm),bK sY.out (aR.out _ _ aj)⟩
    ·(have bp:k=af.length:=by omega);subst bp;have oM:=aa (amB bu.out);go_wp2;go_ret;exact⟨dS (by rw[ak.out];exact oM.out.symm),bK sY.out hb⟩
def hasB(a b t:Int):Bool:=decide (a<=t)&&decide (t<b)
def e9(t:Int):List jD->Option jD
 |[]=>η
 |l::ls=>if hasB l.1 l.2.1 t=ν then θ l else e9 t ls
def cU(t:Int)(lives:List (Int×Int)):List Bool:=lives.map λp=>hasB p.1 p.2 t
def bl(t:Int)(lives:List (Int×Int))(v:Int):Bool:=(cU t lives).getD v.toNat ο
def rE(t:Int)(lives:List (Int×Int))(e:eF):List (Int×Int×Int):=
 match e9 t e.2.2 with
 |none=>[]
 |some l=>if(bl t lives e.1&&bl t lives e.2.1)=ν then[(e.1,e.2.1,l.2.2.2)]else[]
def dc(t:Int)(lives:List (Int×Int))(af:List eF):List (Int×Int×Int):=af.flatMap (rE t lives)
def ng(g:bg)(t:Int):Int:=if aK g=0 then(if c9 t 0 (g.hor- 1)=ν then 0 else 1)else aK g
theorem nW a b t:hasB a b t=ν↔a<=t/\t<b:=by unfold hasB;simp
theorem G5{a b}(h:¬(a<=t/\t<b)):hasB a b t=false:=by rw[<-Bool.not_eq_true,nW];exact h
theorem anQ{l}(hk:k<l.length)(hI:e9 t l=e9 t (l.drop k))(h:hasB l[k].1 l[k].2.1 t=ν):e9 t l=θ l[k]:=by rw[hI,xA l k hk,e9,χ h]
theorem ZU{l}(hk:k<l.length)(hI:e9 t l=e9 t (l.drop k))(h:hasB l[k].1 l[k].2.1 t=ο):e9 t l=e9 t (l.drop (k+1)):=by rw[hI,xA l k hk,e9,ς (by simp[h])]
theorem anR{l}(hI:e9 t l=e9 t (l.drop l.length)):e9 t l=none:=by rw[hI,List.drop_length];rfl
theorem nh t lives:(cU t lives).length=lives.length:=by simp[cU]
theorem anS t(lives:List (Int×Int))k(hk:k<lives.length):cU t (lives.take (k+1))=cU t (lives.take k)++[hasB lives[k].1 lives[k].2 t]:=by unfold cU;rw[List.take_succ_eq_append_getElem hk,List.map_append];rfl
theorem pJ t lives (v:Nat)(h:v<lives.length):bl t lives v=hasB lives[v].1 lives[v].2 t:=by unfold bl cU;rw[Int.toNat_natCast,List.getD_eq_getElem?_getD,List.getElem?_map,List.getElem?_eq_getElem h];rfl
theorem anT t lives(af:List eF)k(hk:k<af.length):dc t lives (af.take (k+1))=dc t lives (af.take k)++rE t lives af[k]:=by unfold dc;rw[List.take_succ_eq_append_getElem hk,List.flatMap_append,List.flatMap_singleton]
theorem anU{lives}{e}(h:e9 t e.2.2=η):rE t lives e=[]:=by unfold rE;rw[h]
theorem anV{lives}{e}(h:(bl t lives e.1&&bl t lives e.2.1)=ο):rE t lives e=[]:=by
 unfold rE;cases e9 t e.2.2 with
 |none=>rfl
 |some l=>simp only[h];rfl
theorem ZV{lives}{e}{l}(h:e9 t e.2.2=θ l)(k:(bl t lives e.1&&bl t lives e.2.1)=ν):rE t lives e=[(e.1,e.2.1,l.2.2.2)]:=by unfold rE;rw[h];simp only[k,dF]
theorem anW t lives e:(rE t lives e).length<=1:=by
 unfold rE;split
 .simp
 .split<;>simp
theorem RM t lives:∀af:List eF,(dc t lives af).length<=af.length
 |[]=>by simp[dc]
 |e::es=>by have h1:=RM t lives es;have h2:=anW t lives e;unfold dc at h1 ⊢;rw[List.flatMap_cons,List.length_append,List.length_cons];omega
theorem anX{Z:List Int}{x}(h:x∈Z.take i):∃j,j<i/\Z[j]?=θ x:=by obtain⟨j,hj,e⟩:=List.getElem_of_mem h;rw[List.length_take]at hj;rw[List.getElem_take]at e;exact⟨j,by omega,by rw[List.getElem?_eq_getElem (by omega),e]⟩
structure Ordered(A S:List Int):Prop where
 inc:S.Pairwise (·<·)
 mem:∀x,x∈S↔x∈A
 len:S.length<=A.length
def dW(p:Int×Int×Int):Prop:=cT p.1/\cT p.2.1/\cT p.2.2
def qv(a p:Int×Int×Int):Prop:=a.2.1<p.1\/(a.2.1=p.1/\a.2.2≠p.2.2)
def vP(a p:Int×Int×Int):Bool:=decide (a.2.1<p.1)||(a.2.1==p.1&&a.2.2 !=p.2.2)
theorem Lx a p:vP a p=ν↔qv a p:=by unfold vP qv;simp only[Bool.or_eq_true,Bool.and_eq_true,kC,wK,bne_iff_ne]
def Sound(m:List (Int×Int×Int))(i:Nat):Prop:=dW (m.getD i (0,0,0))/\(m.getD i (0,0,0)).1<(m.getD i (0,0,0)).2.1/\(0<i->qv (m.getD (i- 1) (0,0,0)) (m.getD i (0,0,0)))
def oN(m:List (Int×Int×Int))(k:Nat):Prop:=∀i,i<k->Sound m i
def anY(m:List (Int×Int×Int))(k:Nat):Decidable (oN m k):=by unfold oN Sound dW qv cT;infer_instance
def bZ(m:List (Int×Int×Int)):Int:=if 200<m.length then 2 else@ite Int (oN m m.length) (anY m m.length) 0 5
theorem ZW(h:oN m k)(h1:Sound m k):oN m (k+1):=by
 intro i hi;by_cases e:i=k
 .subst e;exact h1
 .exact h i (by omega)
theorem anZ(h:200<m.length):bZ m=2:=by simp[bZ,h]
theorem ZX(h:m.length<=200)(hn:oN m m.length):bZ m=0:=by unfold bZ;rw[ς (by omega),χ hn]
theorem RN(h:m.length<=200)(hk:k<m.length)(hn:¬Sound m k):bZ m=5:=by unfold bZ;rw[ς (by omega),ς (λhh=>hn (hh k hk))]
theorem Lz m:bZ m=2\/bZ m=5\/(bZ m=0/\m.length<=200/\oN m m.length):=by
 unfold bZ;by_cases h:200<m.length
 .exact .inl (by rw[χ h])
 .rw[ς h];by_cases hn:oN m m.length
  .exact .inr (.inr ⟨by rw[χ hn],by omega,hn⟩)
  .exact .inr (.inl (by rw[ς hn]))
def dh(p:Int×Int×Int)(t:Int):Bool:=decide (p.1<=t)&&decide (t<p.2.1)
theorem nX p t:dh p t=ν↔p.1<=t/\t<p.2.1:=by unfold dh;simp only[Bool.and_eq_true,kC]
def aC:List (Int×Int×Int)->Int->Option Int
 |[],_=>η
 |p::m,t=>if dh p t then θ p.2.2 else aC m t
theorem zz t:aC [] t=none:=rfl
theorem jm p m t:aC (p::m) t=if dh p t then θ p.2.2 else aC m t:=rfl
theorem vR a b t:aC (a++b) t=(aC a t).or (aC b t):=by
 induction a with
 |nil=>rfl
 |cons p a ih=>
  rw[List.cons_append,jm,jm,ih];split<;>rfl
theorem an0(hk:k<m.length)(h:aC (m.take k) t=η)(hn:dh m[k] t=ο):aC (m.take (k+1)) t=none:=by rw[jZ m k hk,vR,h,jm,hn];rfl
theorem an1(hk:k<m.length)(h:aC (m.take k) t=η)(hn:dh m[k] t=ν):aC m t=θ m[k].2.2:=by
 have e:m=m.take k++m[k]::m.drop (k+1):=by rw[List.getElem_cons_drop,List.take_append_drop]
 have e2:=jM (aC · t) e;rw[e2,vR,h,jm,hn];rfl
theorem ZY(h:aC m t=θ v):∃p∈m,dh p t=ν/\p.2.2=v:=by
 induction m with
 |nil=>cases h
 |cons p m ih=>
  rw[jm]at h;split at h
  .rename_i hp;cases h;exact⟨p,by simp,hp,rfl⟩
  .obtain⟨q,hq,h1⟩:=ih h;exact⟨q,by simp[hq],h1⟩
theorem wF(h:∀p∈m,dh p t=ο):aC m t=none:=by
 induction m with
 |nil=>rfl
 |cons p m ih=>
  rw[jm,h p (by simp),ih λq hq=>h q (by simp[hq])];rfl
def eo:List (Int×Int×Int)->Prop
 |[]=>True
 |p::m=>p.1<p.2.1/\(∀q,m.head?=θ q->qv p q)/\eo m
theorem BM{p}(h:eo (p::m)):∀q∈m,p.2.1<=q.1:=by
 induction m generalizing p with
 |nil=>intro q hq;cases hq
 |cons r m ih=>
  intro q hq;obtain⟨h1,h2,h3⟩:=h;have h4:=h2 r rfl;have h5:=h3.1;rcases List.mem_cons.1 hq with e|hq
  .subst e;rcases h4 with h4|h4
   .omega
   .omega
  .have:=ih h3 q hq;rcases h4 with h4|h4<;>omega
theorem G6(h:eo m):∀q∈m,q.1<q.2.1:=by
 induction m with
 |nil=>intro q hq;cases hq
 |cons r m ih=>
  intro q hq;rcases List.mem_cons.1 hq with e|hq
  .subst e;exact h.1
  .exact ih h.2.2 q hq
theorem G7(h:∀q∈m,t<q.1):aC m t=none:=
 wF λp hp=>by have:=h p hp;unfold dh;simp only[Bool.and_eq_false_iff,CP];omega
theorem xF{p}(h1:p.1<=t)(h2:t<p.2.1):aC (p::m) t=θ p.2.2:=by rw[jm,χ ((nX p t).2 ⟨h1,h2⟩)]
theorem LA{p}(h:p.2.1<=t):aC (p::m) t=aC m t:=by rw[jm,ς (λhh=>by have:=(nX p t).1 hh;omega)]
theorem ZZ{p}{a b}(ha:eo (p::a))(_hb:eo (q::b))(h:∀t,aC (p::a) t=aC (q::b) t)(h1:p.1=q.1)(h2:p.2.2=q.2.2)(hlt:p.2.1<q.2.1):False:=by
 have hp:=ha.1;have e:=h p.2.1;rw[LA (Int.le_refl _),xF (p:=q) (by omega) hlt]at e;cases a with
 |nil=>cases e
 |cons r a=>
  have hf:=ha.2.1 r rfl;have hr:=ha.2.2.1;rcases hf with hf|⟨hf,hv⟩
  .rw[G7 (λs hs=>?_)]at e
   .cases e
   .rcases List.mem_cons.1 hs with e'|hs
    .subst e';exact hf
    .have:=BM ha.2.2 s hs;omega
  .rw[xF (p:=r) (by omega) (by omega),Γ]at e;exact hv (by omega)
theorem an2{a b}(ha:eo a)(hb:eo b)(h:∀t,aC a t=aC b t):a=b:=by
 induction a generalizing b with
 |nil=>
  cases b with
  |nil=>rfl
  |cons q b=>
   have:=h q.1;rw[xF (Int.le_refl _) hb.1]at this;cases this
 |cons p a ih=>
  cases b with
  |nil=>
   have:=h p.1;rw[xF (Int.le_refl _) ha.1]at this;cases this
  |cons q b=>
   have hp:=ha.1;have hq:=hb.1;have la:=BM ha;have lb:=BM hb;have h1:p.1=q.1:=by
    rcases Int.lt_trichotomy p.1 q.1 with hc|hc|hc
    .have:=h p.1;rw[xF (Int.le_refl _) hp,G7 (λs hs=>?_)]at this
     .cases this
     .rcases List.mem_cons.1 hs with e|hs
      .subst e;exact hc
      .have:=lb s hs;omega
    .exact hc
    .have:=h q.1;rw[xF (p:=q) (Int.le_refl _) hq,G7 (λs hs=>?_)]at this
     .cases this
     .rcases List.mem_cons.1 hs with e|hs
      .subst e;exact hc
      .have:=la s hs;omega
   (have h2:p.2.2=q.2.2:=by have:=h p.1;rw[xF (Int.le_refl _) hp,xF (p:=q) (by omega) (by omega),Γ]at this;exact this);have h3:p.2.1=q.2.1:=by
    rcases Int.lt_trichotomy p.2.1 q.2.1 with hc|hc|hc
    .exact(ZZ ha hb h h1 h2 hc).elim
    .exact hc
    .exact(ZZ hb ha (λt=>(h t).symm) h1.symm h2.symm hc).elim
   have e:=Prod.ext h1 (Prod.ext h3 h2);subst e;rw[ih ha.2.2 hb.2.2 λt=>?_];by_cases ht:p.2.1<=t
   .have:=h t;rwa[LA ht,LA ht]at this
   .rw[G7 (λs hs=>by have:=la s hs;omega),G7 (λs hs=>by have:=lb s hs;omega)]
theorem zA{o}{p}:eo (o++[p])↔eo o/\p.1<p.2.1/\∀q,o.getLast?=θ q->qv q p:=by
 induction o with
 |nil=>simp[eo]
 |cons r o ih=>
  rw[List.cons_append,eo,eo,ih];cases o with
  |nil=>simp[eo,and_comm]
  |cons s o=>
   simp only[List.cons_append,List.head?_cons,List.getLast?_cons_cons];constructor
   .rintro⟨h1,h2,h3,h4,h5⟩;exact⟨⟨h1,h2,h3⟩,h4,h5⟩
   .rintro⟨⟨h1,h2,h3⟩,h4,h5⟩;exact⟨h1,h2,h3,h4,h5⟩
theorem an3(h:oN m m.length)k(hk:k<=m.length):eo (m.take k):=by
 induction k with
 |zero=>simp[eo]
 |succ k ih=>
  have hlt:k<m.length:=by omega
  have hs:=h k hlt;have hg:m.getD k (0,0,0)=m[k]:=by simp[List.getD_eq_getElem?_getD,List.getElem?_eq_getElem hlt]
  rw[jZ m k hlt,zA];refine⟨ih (by omega),by have:=hs.2.1;rwa[hg]at this,λq hq=>?_⟩;have h0:0<k:=by
   rcases Nat.eq_zero_or_pos k with e|e
   .subst e;simp at hq
   .exact e
  have h2:=hs.2.2 h0;rw[hg]at h2;rw[List.getLast?_eq_getElem?,List.length_take,Nat.min_eq_left (by omega),List.getElem?_take_of_lt (by omega),List.getElem?_eq_getElem (by omega)]at hq;cases hq
  rw[List.getD_eq_getElem?_getD,List.getElem?_eq_getElem (by omega)]at h2;exact h2
theorem Z0(h:oN m m.length):eo m:=by have:=an3 h m.length (Nat.le_refl _);rwa[List.take_length]at this
theorem Z1(h:oN m m.length):∀p∈m,dW p:=by intro p hp;obtain⟨j,hj,rfl⟩:=List.getElem_of_mem hp;have:=(h j hj).1;rwa[List.getD_eq_getElem?_getD,List.getElem?_eq_getElem hj]at this
theorem an4(hc:eo m)(hn:∀p∈m,dW p):oN m m.length:=by
 intro i hi;have hg:m.getD i (0,0,0)=m[i]:=by simp[List.getD_eq_getElem?_getD,List.getElem?_eq_getElem hi]
 unfold Sound;rw[hg];refine⟨hn _ (List.getElem_mem hi),G6 hc _ (List.getElem_mem hi),λh0=>?_⟩;obtain⟨j,rfl⟩:∃j,i=j+1:=⟨i- 1,by omega⟩;have e:m=m.take (j+1)++m[j+1]::m.drop (j+1+1):=by rw[List.getElem_cons_drop,List.take_append_drop]
 have key:∀(o r:List (Int×Int×Int)) (p:Int×Int×Int),eo (o++p::r)->∀q,o.getLast?=θ q->qv q p:=by
  intro o;induction o with
  |nil=>intro r p _ q hq;simp at hq
  |cons s o ih=>
   intro r p hm q hq;rw[List.cons_append]at hm;cases o with
   |nil=>simp at hq;subst hq;exact hm.2.1 p rfl
   |cons u o=>exact ih r p hm.2.2 q (by simpa using hq)
 have dV:=hc;rw[e]at dV;refine key _ _ _ dV _ ?_;rw[List.getLast?_eq_getElem?,List.length_take,Nat.min_eq_left (by omega),List.getElem?_take_of_lt (by omega),Nat.add_sub_cancel,List.getD_eq_getElem?_getD,List.getElem?_eq_getElem (by omega)];rfl
theorem an5(hc:eo m)(hn:∀p∈m,dW p)(hl:m.length<=200):bZ m=0:=ZX hl (an4 hc hn)
def bO(m:List (Int×Int×Int)):List Int:=m.flatMap λp=>[p.1,p.2.1]
theorem zB m:(bO m).length=2*m.length:=by
 induction m with
 |nil=>rfl
 |cons p m ih=>simp only[bO,List.flatMap_cons,List.length_append,List.length_cons,List.length_nil]at ih ⊢;omega
theorem RO(m:List (Int×Int×Int))k(hk:k<m.length):bO (m.take (k+1))=bO (m.take k)++[m[k].1,m[k].2.1]:=by rw[jZ m k hk];unfold bO;rw[List.flatMap_append];rfl
theorem an6{x}(h:x∈bO m):∃p∈m,x=p.1\/x=p.2.1:=by unfold bO at h;rw[List.mem_flatMap]at h;obtain⟨p,hp,hx⟩:=h;simp at hx;exact⟨p,hp,hx⟩
theorem BN{p}(h:p∈m):p.1∈bO m/\p.2.1∈bO m:=by unfold bO;exact⟨List.mem_flatMap.2 ⟨p,h,by simp⟩,List.mem_flatMap.2 ⟨p,h,by simp⟩⟩
def xG(S:List Int)(f:Int->Option Int)(i:Nat)(t:Int):Option Int:=(List.range i).findSome? λk=>if S.getD k 0<=t/\t<S.getD (k+1) 0 then f (S.getD k 0)else η
theorem Ec S f i t:xG S f (i+1) t=(xG S f i t).or (if S.getD i 0<=t/\t<S.getD (i+1) 0 then f (S.getD i 0)else η):=by unfold xG;rw[List.range_succ,List.findSome?_append];congr 1;simp only[List.findSome?_cons,List.findSome?_nil];split<;>simp_all
structure oO(S:List Int)(f:Int->Option Int)(i:Nat)(out:List (Int×Int×Int)):Prop where
 canon:eo out
 pts:∀t,aC out t=xG S f i t
 last:∀q,out.getLast?=θ q->∃j,j<=i/\S[j]?=θ q.2.1
 len:out.length<=i
 mem:∀q∈out,q.1∈S/\q.2.1∈S/\∃s∈S,f s=θ q.2.2
theorem an7 S f:oO S f 0 []:=
 ⟨trivial,λ_=>rfl,λq h=>by simp at h,Nat.le_refl _,λx h=>by simp at h⟩
theorem qw(h:i<S.length):S.getD i 0=S[i]:=by simp[List.getD_eq_getElem?_getD,h]
theorem an8{f}{out}(hi:i+1<S.length)(T:oO S f i out)(hp:f S[i]=η):oO S f (i+1) out:=by
 refine⟨T.canon,λt=>?_,λq h=>?_,by have:=T.len;omega,T.mem⟩
 .rw[Ec,qw (by omega),hp,T.pts];simp
 .obtain⟨j,hj,e⟩:=T.last q h;exact⟨j,by omega,e⟩
theorem an9{f}{out}(hi:i+1<S.length)(hS:S.Pairwise (·<·))(T:oO S f i out)(h:out.getLast?=θ q):q.2.1<=S[i]:=by
 rw[List.pairwise_iff_getElem]at hS;obtain⟨j,hj,ej⟩:=T.last q h;obtain⟨hjl,ej⟩:=List.getElem?_eq_some_iff.1 ej;by_cases hji:j=i
 .subst hji;omega
 .have:=hS j i hjl (by omega) (by omega);omega
theorem Z2{f}{out}(hi:i+1<S.length)(hS:S.Pairwise (·<·))(T:oO S f i out)(hp:f S[i]=θ v)(hn:∀q,out.getLast?=θ q->qv q (S[i],S[i+1],v)):oO S f (i+1) (out++[(S[i],S[i+1],v)]):=by
 have xb:=hS;rw[List.pairwise_iff_getElem]at xb;have Z3:=xb i (i+1) (by omega) hi (by omega);refine⟨?_,λt=>?_,λq h=>?_,?_,λx hx=>?_⟩
 .rw[zA];exact⟨T.canon,Z3,hn⟩
 .rw[Ec,vR,T.pts,qw (by omega:i<S.length),qw hi,hp,jm,zz];congr 1;simp only[dh,Bool.and_eq_true,kC]
 .simp at h;subst h;exact⟨i+1,Nat.le_refl _,List.getElem?_eq_getElem hi⟩
 .have:=T.len;simp only[List.length_append,List.length_singleton];omega
 .rw[List.mem_append]at hx;rcases hx with hx|hx
  .exact T.mem x hx
  .simp only[List.mem_singleton]at hx;subst hx;exact⟨List.getElem_mem _,List.getElem_mem _,S[i],List.getElem_mem _,hp⟩
theorem aoa{f}{o}(hi:i+1<S.length)(hS:S.Pairwise (·<·))(T:oO S f i (o++[q]))(hp:f S[i]=θ v)(hn:q.2.1=S[i])(hv:q.2.2=v):oO S f (i+1) (o++[(q.1,S[i+1],q.2.2)]):=by
 rw[List.pairwise_iff_getElem]at hS;have Z3:=hS i (i+1) (by omega) hi (by omega);have hc:=T.canon;rw[zA]at hc;have Qp:=hc.2.1;refine⟨?_,λt=>?_,λr h=>?_,?_,λx hx=>?_⟩
 .rw[zA];exact⟨hc.1,by simp only;omega,λr hr=>hc.2.2 r hr⟩
 .rw[Ec,vR,<- T.pts,vR,qw (by omega:i<S.length),qw hi,hp,Option.or_assoc];congr 1;rw[jm,jm,zz];by_cases h1:dh q t=ν
  ·(have h2:dh (q.1,S[i+1],q.2.2) t=true:=by rw[nX]at h1 ⊢;simp only;omega);rw[χ h1,χ h2];rfl
  .rw[ς h1];by_cases h2:dh (q.1,S[i+1],q.2.2) t=ν
   .rw[χ h2,χ (by rw[nX]at h1 h2;simp only at h2;omega),<- hv];rfl
   .rw[ς h2,ς (by rw[nX]at h1 h2;simp only at h2;omega)];rfl
 .simp at h;subst h;exact⟨i+1,Nat.le_refl _,List.getElem?_eq_getElem hi⟩
 .have:=T.len;simp only[List.length_append,List.length_singleton]at this ⊢;omega
 .have hm:=T.mem;rw[List.mem_append]at hx;rcases hx with hx|hx
  .exact hm x (by simp[hx])
  .simp only[List.mem_singleton]at hx;subst hx;have:=hm q (by simp);exact⟨this.1,List.getElem_mem _,this.2.2⟩
def uy(A:List Int)(f:Int->Option Int)(n:Int)(r:List (Int×Int×Int)):Prop:=
 ∃S out,Ordered A S/\oO S f (S.length- 1) out/\((¬(∀q∈out,dW q)/\n=5/\r=[])\/((∀q∈out,dW q)/\200<out.length/\n=2/\r=[])\/((∀q∈out,dW q)/\out.length<=200/\n=0/\r=out))
theorem bJ{a b c}(h1:Below a.heap.size a b)(h2:Below b.heap.size b c):Below a.heap.size a c:=h1.trans (h2.mono h1.size)
theorem cw w o:Below w.heap.size w (w.alloc o):=(Below.refl _ _).alloc (Nat.le_refl _) o
def cm(w:υ)(ao:Option bP)(m:List (Int×Int×Int)):Prop:=
 m=[]\/∃b off,ao=θ ⟨b,off,η⟩/\b<w.heap.size/\∀j,j<m.length->w.cell? ⟨b,off+j*3,η⟩=θ (.int .i64 (m.getD j (0,0,0)).1)/\w.cell? ⟨b,off+j*3+1,η⟩=θ (.int .i64 (m.getD j (0,0,0)).2.1)/\w.cell? ⟨b,off+j*3+2,η⟩=θ (.int .i64 (m.getD j (0,0,0)).2.2)
theorem cm.below(h:cm w ao m)(hb:Below w.heap.size w w'):cm w' ao m:=by
 rcases h with h|⟨b,off,rfl,hlt,hc⟩
 .exact .inl h
 .refine .inr ⟨b,off,rfl,Nat.lt_of_lt_of_le hlt hb.size,λj hj=>?_⟩;rw[hb.cell (p:=⟨b,off+j*3,η⟩) hlt,hb.cell (p:=⟨b,off+j*3+1,η⟩) hlt,hb.cell (p:=⟨b,off+j*3+2,η⟩) hlt];exact hc j hj
theorem Tryz.aob:(ah.info? 176).map (λi=>(i.zero,i.size,i.bytes))=θ (θ (.agg #[.int .i64 0,.int .i64 0,.int .i64 0]),3,24):=by kernel_rfl
def pK(m:List (Int×Int×Int)):List Int:=m.flatMap λp=>[p.1,p.2.1,p.2.2]
theorem RP p m:pK (p::m)=p.1::p.2.1::p.2.2::pK m:=by simp[pK]
theorem aoc a b:pK (a++b)=pK a++pK b:=by simp[pK]
theorem aod m:(pK m).length=m.length*3:=by
 induction m with
 |nil=>rfl
 |cons p m ih=>rw[RP];simp only[List.length_cons,ih];omega
theorem RQ m j(h:j<m.length):(pK m)[j*3]?=θ (m.getD j (0,0,0)).1/\(pK m)[j*3+1]?=θ (m.getD j (0,0,0)).2.1/\(pK m)[j*3+2]?=θ (m.getD j (0,0,0)).2.2:=by
 induction m generalizing j with
 |nil=>simp at h
 |cons p m ih=>
  rw[RP];cases j with
  |zero=>exact⟨rfl,rfl,rfl⟩
  |succ j=>
   have:=ih j (by simpa using h);rw[show (j+1)*3=j*3+1+1+1 by omega];simpa using this
def bV(m:List (Int×Int×Int)):List Value:=(pK m).map (bM .i64)
theorem Ed a b:bV (a++b)=bV a++bV b:=by unfold bV;rw[aoc,List.map_append]
theorem xH m:(bV m).length=m.length*3:=by unfold bV;rw[List.length_map,aod]
theorem j6{base}{v}(h:w.ownsRow base e 3 v n (bV m)):∃ao cap,v=.slice ao m.length cap/\cm w ao m:=by
 obtain⟨h1,h2⟩:=h;simp only[xH]at h1;have hn:n=m.length:=by omega
 subst hn;rcases h2 with⟨rfl,h0⟩|⟨g,cap,cur,rfl,hb,hh,h3,h4,h5,h6⟩
 .exact⟨η,0,by rw[h0],.inl (List.eq_nil_of_length_eq_zero h0)⟩
 .have hown:w.ownsRow base e 3 (.slice (θ ⟨g,0,η⟩) m.length cap) m.length (bV m):=⟨by simp[xH],.inr ⟨g,cap,cur,rfl,hb,hh,h3,h4,h5,h6⟩⟩;refine⟨_,cap,rfl,.inr ⟨g,0,rfl,(ξ.1 hh).1,λj hj=>?_⟩⟩;obtain⟨f0,f1,f2⟩:=RQ m j hj;rw[Nat.zero_add,hown.cellAt (j*3) (by omega),hown.cellAt (j*3+1) (by omega),hown.cellAt (j*3+2) (by omega)];simp only[bV,List.getElem?_map,f0,f1,f2];exact⟨rfl,rfl,rfl⟩
theorem RR(w:υ)B (t:Θ)x y z(hB:B=w.heap.size):∀j u,[x,y,z][j]?=θ u->(w.alloc (.cells #[x,y,z] t)).cell? ((⟨B,0,η⟩:bP).add j)=θ u:=by
 subst hB;intro j u hj
 match j,hj with
 |0,hj=>simp at hj;subst hj;simp[jT]
 |1,hj=>simp at hj;subst hj;simp[jT]
 |2,hj=>simp at hj;subst hj;simp[jT]
def LB(w w':υ)(e:Ending)(n:Int)(r:List (Int×Int×Int)):Prop:=
 ∃v,e=.returned (.tuple #[v,.int .i64 n])/\w'.ownsRow w.heap.size 176 3 v r.length (bV r)/\Below w.heap.size w w'
abbrev b9:=Int×Int×Int
def cK(x:List Int)(v:Int):Int:=x.getD v.toNat 0
structure RS(first:List Int)(ai:List b9)(p:b9->Int)(y:Nat->Int):Prop where
 le:∀v,v<first.length->y v<=first.getD v 0
 cl:∀a∈ai,y a.2.1.toNat<=y a.1.toNat+p a
structure jI(first:List Int)(ai:List b9)(p:b9->Int)(x:List Int):Prop where
 len:x.length=first.length
 le:∀v,v<first.length->x.getD v 0<=first.getD v 0
 most:∀y,RS first ai p y->∀v,v<first.length->y v<=x.getD v 0
structure uz(first:List Int)(ai:List b9)(p:b9->Int)(x:List Int):Prop where
 mid:jI first ai p x
 cl:∀a∈ai,cK x a.2.1<=cK x a.1+p a
theorem LC first ai p:jI first ai p first:=⟨rfl,λ_ _=>Int.le_refl _,λ_ h v hv=>h.le v hv⟩
theorem Ee(x:List Int)k v m(hk:k<x.length):(x.set k m).getD v 0=if v=k then m else x.getD v 0:=by
 simp only[List.getD_eq_getElem?_getD,List.getElem?_set];by_cases h:k=v
 .subst h;simp[hk]
 .have:¬v=k:=λe=>h e.symm;simp[h,this]
theorem RU{first}{ai}{p}{m}(h:jI first ai p x)(hk:k<first.length)(hm:m<=x.getD k 0)(ha:∀y,RS first ai p y->y k<=m):jI first ai p (x.set k m):=by
 have hk':k<x.length:=by rw[h.len];exact hk
 refine⟨by rw[List.length_set];exact h.len,λv hv=>?_,λy hy v hv=>?_⟩
 .rw[Ee _ _ _ _ hk'];by_cases e:v=k
  .rw[χ e];subst e;exact Int.le_trans hm (h.le v hv)
  .rw[ς e];exact h.le v hv
 .rw[Ee _ _ _ _ hk'];by_cases e:v=k
  .rw[χ e];subst e;exact ha y hy
  .rw[ς e];exact h.most y hy v hv
def sZ(n:Nat)(ai:List b9):Prop:=∀a∈ai,0<=a.1/\a.1<n/\0<=a.2.1/\a.2.1<n
theorem RV{first}{ai}{p}{a}(h:jI first ai p x)(ha:a∈ai)(hE:sZ first.length ai):∀y,RS first ai p y->y a.2.1.toNat<=cK x a.1+p a:=by intro y hy;have h1:=hy.cl a ha;have h2:=h.most y hy a.1.toNat (by have:=hE a ha;omega);unfold cK;omega
theorem Z4{first}{ai}{p}{x'}(h:uz first ai p x)(h':jI first ai p x'):∀v,v<first.length->x.getD v 0<=x'.getD v 0:=
 h'.most (λv=>x.getD v 0) ⟨h.mid.le,h.cl⟩
theorem Z5{first}{ai}{p}{x'}(h:uz first ai p x)(h':uz first ai p x'):x=x':=by apply List.ext_getElem (by rw[h.mid.len,h'.mid.len]);intro i h1 h2;have a:=Z4 h h'.mid i (by rw[<-h.mid.len];exact h1);have b:=Z4 h' h.mid i (by rw[<-h.mid.len];exact h1);simp only[List.getD_eq_getElem?_getD,List.getElem?_eq_getElem h1,List.getElem?_eq_getElem h2,Ω]at a b;omega
structure iP(first:List Int)(ai:List b9)(p:b9->Int):Prop where
 lo:∀v,v<first.length->0<=first.getD v 0
 hi:∀v,v<first.length->first.getD v 0<=1099511627776
 pl:∀a∈ai,0<=p a/\p a<=1000
 en:sZ first.length ai
theorem jI.lo{first}{ai}{p}(h:jI first ai p x)(f:iP first ai p)v(hv:v<first.length):0<=x.getD v 0:=
 h.most (λ_=>0) ⟨f.lo,λa ha=>by have:=f.pl a ha;show (0:Int)<=0+p a;omega⟩ v hv
theorem jI.hi{first}{ai}{p}(h:jI first ai p x)(f:iP first ai p)v(hv:v<first.length):x.getD v 0<=1099511627776:=Int.le_trans (h.le v hv) (f.hi v hv)
def zC:List Int->Nat
 |[]=>0
 |z::l=>z.toNat+zC l
theorem Z6:∀(x:List Int) (k:Nat) (m:Int),0<=m->k<x.length->m<x.getD k 0->zC (x.set k m)<zC x
 |[],_,_,_,h,_=>by simp at h
 |z::l,0,m,h0,_,h=>by simp at h;simp[zC];omega
 |z::l,k+1,m,h0,hk,h=>by have:=Z6 l k m h0 (by simpa using hk) (by simpa using h);simp[zC];omega
def Seen(ai:List b9)(p:b9->Int)(x:List Int)(i:Nat):Prop:=∀j,(h:j<ai.length)->j<i->cK x ai[j].2.1<=cK x ai[j].1+p ai[j]
structure xI(first:List Int)(ai:List b9)(p:b9->Int)(x z:List Int)(ch:Bool)(i:Nat):Prop where
 mid:jI first ai p z
 same:ch=ο->z=x/\Seen ai p x i
 less:ch=ν->zC z<zC x
theorem aoe{first}{ai}{p}(h:jI first ai p x):xI first ai p x x ο 0:=⟨h,λ_=>⟨rfl,λ_ _ h=>by omega⟩,λh=>by simp at h⟩
theorem aof{first}{ai}{p}{z}{ch}(T:xI first ai p x z ch i)(hi:i<ai.length)(hn:¬cK z ai[i].1+p ai[i]<cK z ai[i].2.1):xI first ai p x z ch (i+1):=by
 refine⟨T.mid,λh=>⟨(T.same h).1,λj hj hji=>?_⟩,T.less⟩;by_cases e:j=i
 .subst e;rw[<-(T.same h).1];omega
 .exact(T.same h).2 j hj (by omega)
theorem aog{first}{ai}{p}{z}{ch}(f:iP first ai p)(T:xI first ai p x z ch i)(hi:i<ai.length)(hn:cK z ai[i].1+p ai[i]<cK z ai[i].2.1):xI first ai p x (z.set ai[i].2.1.toNat (cK z ai[i].1+p ai[i])) ν (i+1):=by
 have hm:=List.getElem_mem hi;have he:=f.en _ hm;have hp:=f.pl _ hm;have hB:ai[i].2.1.toNat<first.length:=by omega
 have h0:0<=cK z ai[i].1:=T.mid.lo f _ (by omega);have hs:=Z6 z ai[i].2.1.toNat (cK z ai[i].1+p ai[i]) (by omega) (by rw[T.mid.len];exact hB) hn;refine⟨RU T.mid hB (by unfold cK at hn ⊢;omega) (RV T.mid hm f.en),λh=>by simp at h,λ_=>?_⟩;cases hc:ch
 .rw[(T.same hc).1]at hs ⊢;exact hs
 .exact Nat.lt_trans hs (T.less hc)
theorem aoh{first}{ai}{p}{z}(T:xI first ai p x z ο ai.length):uz first ai p z:=by obtain⟨rfl,hs⟩:=T.same rfl;refine⟨T.mid,λa ha=>?_⟩;obtain⟨i,hi,rfl⟩:=List.getElem_of_mem ha;exact hs i hi hi
def rF(p:b9->Int)(back:Bool)(x z:List Int)(a:b9):List Int:=
 let z1:=z.set a.2.1.toNat (min (cK z a.2.1) (cK x a.1+p a))
 if back=ν then z1.set a.1.toNat (min (cK z1 a.1) (cK x a.2.1+p a))else z1
def xJ(ai:List b9)(p:b9->Int)(back:Bool)(x:List Int):List Int:=ai.foldl (rF p back x) x
def xK(ai:List b9)(p:b9->Int)(back:Bool):Nat->List Int->List Int
 |0,x=>x
 |k+1,x=>xJ ai p back (xK ai p back k x)
def iC(ai:List b9):List b9:=ai.flatMap λa=>[a,(a.2.1,a.1,a.2.2)]
def ways(back:Bool)(ai:List b9):List b9:=if back=ν then iC ai else ai
theorem BO{ai}{b}:b∈iC ai↔∃a∈ai,b=a\/b=(a.2.1,a.1,a.2.2):=by simp[iC]
def vS(p:b9->Int):Prop:=∀a:b9,p (a.2.1,a.1,a.2.2)=p a
theorem aoi(ai:List b9)k(hk:k<ai.length):iC (ai.take (k+1))=iC (ai.take k)++[ai[k],(ai[k].2.1,ai[k].1,ai[k].2.2)]:=by unfold iC;rw[List.take_succ_eq_append_getElem hk,List.flatMap_append,List.flatMap_singleton]
theorem RX:∀ai:List b9,(iC ai).length=ai.length*2
 |[]=>rfl
 |a::l=>by have:=RX l;unfold iC at this ⊢;rw[List.flatMap_cons,List.length_append,this];simp;omega
theorem aoj p back x z a:(rF p back x z a).length=z.length:=by unfold rF;cases back<;>simp
theorem Z7 p back x:∀(l:List b9) (z:List Int),(l.foldl (rF p back x) z).length=z.length
 |[],_=>rfl
 |a::l,z=>by rw[List.foldl_cons,Z7 p back x l,aoj]
theorem aok ai p back x:(xJ ai p back x).length=x.length:=Z7 _ _ _ _ _
theorem Z8 ai p back:∀(k:Nat) (x:List Int),(xK ai p back k x).length=x.length
 |0,_=>rfl
 |k+1,x=>by rw[xK,aok,Z8 ai p back k]
theorem Z9(ai:List b9)p back x i(hi:i<ai.length):(ai.take (i+1)).foldl (rF p back x) x=rF p back x ((ai.take i).foldl (rF p back x) x) ai[i]:=by rw[List.take_succ_eq_append_getElem hi,List.foldl_append];rfl
structure e5(first:List Int)(ai:List b9)(p:b9->Int)(back:Bool)(x z:List Int)(i:Nat):Prop where
 mid:jI first (ways back ai) p z
 le:∀v,v<first.length->z.getD v 0<=x.getD v 0
 told:∀j,(h:j<ai.length)->j<i->cK z ai[j].2.1<=cK x ai[j].1+p ai[j]/\(back=ν->cK z ai[j].1<=cK x ai[j].2.1+p ai[j])
theorem BP{back}{ai}{a}(h:a∈ai):a∈ways back ai/\(back=ν->(a.2.1,a.1,a.2.2)∈ways back ai):=by
 unfold ways;cases back
 .exact⟨h,λh=>by simp at h⟩
 .exact⟨BO.2 ⟨a,h,.inl rfl⟩,λ_=>BO.2 ⟨a,h,.inr rfl⟩⟩
theorem aol{first}{ai}{p}{back}(h:jI first (ways back ai) p x):e5 first ai p back x x 0:=⟨h,λ_ _=>Int.le_refl _,λ_ _ h=>by omega⟩
theorem aaa{m:Int}(hk:k<x.length):cK (x.set k m) v=if v.toNat=k then m else cK x v:=by unfold cK;exact Ee _ _ _ _ hk
theorem aom{first}{ai}{p}{back}{z}(f:iP first (ways back ai) p)(he:back=ν->vS p)(hx:jI first (ways back ai) p x)(R:e5 first ai p back x z i)(hi:i<ai.length):e5 first ai p back x (rF p back x z ai[i]) (i+1):=by
 have hm:=List.getElem_mem hi;obtain⟨hw,cc⟩:=BP (back:=back) hm;have en:=f.en _ hw;have k1:ai[i].2.1.toNat<first.length:=by omega
 have k2:ai[i].1.toNat<first.length:=by omega
 have dA:jI first (ways back ai) p (z.set ai[i].2.1.toNat (min (cK z ai[i].2.1) (cK x ai[i].1+p ai[i]))):=by refine RU R.mid k1 (by unfold cK;omega) (λy hy=>?_);have h1:=RV hx hw f.en y hy;have h2:=R.mid.most y hy _ k1;unfold cK at h1 ⊢;omega
 have G8:∀v,v<first.length->(z.set ai[i].2.1.toNat (min (cK z ai[i].2.1) (cK x ai[i].1+p ai[i]))).getD v 0<=z.getD v 0:=by
  intro v hv;rw[Ee _ _ _ _ (by rw[R.mid.len];exact k1)];by_cases e:v=ai[i].2.1.toNat
  .rw[χ e,e];unfold cK;omega
  .rw[ς e];exact Int.le_refl _
 have V1:cK (z.set ai[i].2.1.toNat (min (cK z ai[i].2.1) (cK x ai[i].1+p ai[i]))) ai[i].2.1<=cK x ai[i].1+p ai[i]:=by rw[aaa (by rw[R.mid.len];exact k1),χ rfl];omega
 unfold rF;generalize z.set ai[i].2.1.toNat (min (cK z ai[i].2.1) (cK x ai[i].1+p ai[i]))=z1 at dA G8 V1 ⊢;have T1:∀j,(h:j<ai.length)->j<i+1->cK z1 ai[j].2.1<=cK x ai[j].1+p ai[j]:=by
  intro j hj hji;by_cases e:j=i
  .subst e;exact V1
  .have hj2:=BP (back:=back) (List.getElem_mem hj);have:=(R.told j hj (by omega)).1;have h3:=G8 ai[j].2.1.toNat (by have:=f.en _ hj2.1;omega);unfold cK at this ⊢;omega
 cases back
 .simp only[Bool.false_eq_true,fh];exact⟨dA,λv hv=>Int.le_trans (G8 v hv) (R.le v hv),λj hj hji=>⟨T1 j hj hji,λh=>by simp at h⟩⟩
 .simp only[dF];have hev:=he rfl;have RY:∀v,v<first.length->(z1.set ai[i].1.toNat (min (cK z1 ai[i].1) (cK x ai[i].2.1+p ai[i]))).getD v 0<=z1.getD v 0:=by
   intro v hv;rw[Ee _ _ _ _ (by rw[dA.len];exact k2)];by_cases e:v=ai[i].1.toNat
   .rw[χ e,e];unfold cK;omega
   .rw[ς e];exact Int.le_refl _
  refine⟨RU dA k2 (by unfold cK;omega) (λy hy=>?_),λv hv=>Int.le_trans (RY v hv) (Int.le_trans (G8 v hv) (R.le v hv)),λj hj hji=>⟨?_,λ_=>?_⟩⟩
  .have h1:=RV hx (cc rfl) f.en y hy;have h2:=dA.most y hy _ k2;simp only[hev ai[i]]at h1;unfold cK at h1 ⊢;omega
  .have h1:=T1 j hj hji;have hj2:=BP (back:=ν) (List.getElem_mem hj);have h3:=RY ai[j].2.1.toNat (by have:=f.en _ hj2.1;omega);unfold cK at h1 h3 ⊢;omega
  .by_cases e:j=i
   .subst e;rw[aaa (by rw[dA.len];exact k2),χ rfl];omega
   .have hj2:=BP (back:=ν) (List.getElem_mem hj);have h1:=(R.told j hj (by omega)).2 rfl;have h4:=G8 ai[j].1.toNat (by have:=f.en _ hj2.1;omega);have h3:=RY ai[j].1.toNat (by have:=f.en _ hj2.1;omega);unfold cK at h1 h3 h4 ⊢;omega
theorem aab{first}{ai}{p}{back}{x}(f:iP first (ways back ai) p)(he:back=ν->vS p)(hx:jI first (ways back ai) p x):∀i,i<=ai.length->e5 first ai p back x ((ai.take i).foldl (rF p back x) x) i
 |0,_=>by rw[List.take_zero];exact aol hx
 |i+1,h=>by rw[Z9 _ _ _ _ _ (by omega)];exact aom f he hx (aab f he hx i (by omega)) (by omega)
theorem aac{first}{ai}{p}{back}(f:iP first (ways back ai) p)(he:back=ν->vS p)(hx:jI first (ways back ai) p x):e5 first ai p back x (xJ ai p back x) ai.length:=by have:=aab f he hx ai.length (Nat.le_refl _);rw[List.take_length]at this;exact this
theorem aon{first}{ai}{p}{back}(f:iP first (ways back ai) p)(he:back=ν->vS p)(hx:jI first (ways back ai) p x)(h:xJ ai p back x=x):uz first (ways back ai) p x:=by
 have R:=aac f he hx;rw[h]at R;refine⟨hx,λb hb=>?_⟩;have go:∀a∈ai,cK x a.2.1<=cK x a.1+p a/\(back=ν->cK x a.1<=cK x a.2.1+p a):=by intro a ha;obtain⟨i,hi,rfl⟩:=List.getElem_of_mem ha;exact R.told i hi hi
 unfold ways at hb;cases back
 .simp only[Bool.false_eq_true,fh]at hb;exact(go b hb).1
 .simp only[dF]at hb;obtain⟨a,ha,rfl|rfl⟩:=BO.1 hb
  .exact(go _ ha).1
  .have:=(go a ha).2 rfl;rw[he rfl a];exact this
variable{p:b9->Int}{ai:List b9}
def qx(n:Nat)(v:Int):Bool:=decide (0<=v)&&decide (v<(n:Int))
def mH(al:List Bool)(v:Int):Bool:=qx al.length v&&al.getD v.toNat ο
def qy(al:List Bool)(a:b9):Bool:=mH al a.1&&mH al a.2.1
def vT(a:b9):Bool:=decide (0<=a.2.2)&&decide (a.2.2<=1000)
def ij(al:List Bool)(ai:List b9):Int:=
 if 12<al.length\/30<ai.length then 2 else if ai.all (qy al)=ν then(if ai.all vT=ν then 0 else 1)else 4
theorem G9 n v:qx n v=ν↔0<=v/\v<(n:Int):=by unfold qx;simp
theorem aad al v:mH al v=ν↔0<=v/\v<(al.length:Int)/\al.getD v.toNat ο=true:=by unfold mH;rw[Bool.and_eq_true,G9];exact⟨λ⟨⟨a,b⟩,c⟩=>⟨a,b,c⟩,λ⟨a,b,c⟩=>⟨⟨a,b⟩,c⟩⟩
theorem aoo al a:qy al a=ν↔mH al a.1=ν/\mH al a.2.1=true:=by unfold qy;rw[Bool.and_eq_true]
theorem LD a:vT a=ν↔0<=a.2.2/\a.2.2<=1000:=by unfold vT;simp
theorem aop(h:qx al.length v=ο):mH al v=false:=by unfold mH;rw[h];rfl
theorem aoq(h:qx al.length v=ν):mH al v=al.getD v.toNat false:=by unfold mH;rw[h];rfl
theorem aae(h:12<al.length\/30<ai.length):ij al ai=2:=by unfold ij;rw[χ h]
theorem aaf(h:¬(12<al.length\/30<ai.length))(hk:k<ai.length)(he:qy al ai[k]=ο):ij al ai=4:=by unfold ij;rw[ς h,ς];intro hh;rw[List.all_eq_true]at hh;have:=hh _ (List.getElem_mem hk);rw[he]at this;simp at this
theorem aag(h:¬(12<al.length\/30<ai.length))(hE:ai.all (qy al)=ν)(hk:k<ai.length)(he:vT ai[k]=ο):ij al ai=1:=by unfold ij;rw[ς h,χ hE,ς];intro hh;rw[List.all_eq_true]at hh;have:=hh _ (List.getElem_mem hk);rw[he]at this;simp at this
theorem aor(h:¬(12<al.length\/30<ai.length))(hE:ai.all (qy al)=ν)(hC:ai.all vT=ν):ij al ai=0:=by unfold ij;rw[ς h,χ hE,χ hC]
theorem aah{α:Type}{l:List α}{f:α->Bool}(hk:k<l.length)(h0:(l.take k).all f=ν)(h:f l[k]=ν):(l.take (k+1)).all f=true:=by rw[List.take_succ_eq_append_getElem hk,List.all_append,h0];simp[h]
theorem aai{α:Type}{l:List α}{f:α->Bool}(h:(l.take l.length).all f=ν):l.all f=true:=by rwa[List.take_length]at h
structure xL(al:List Bool)(ai:List b9):Prop where
 nv:al.length<=12
 na:ai.length<=30
 ends:∀a∈ai,mH al a.1=ν/\mH al a.2.1=ν
 cost:∀a∈ai,0<=a.2.2/\a.2.2<=1000
theorem RZ(h:ij al ai=0):xL al ai:=by
 unfold ij at h;by_cases h1:12<al.length\/30<ai.length
 .rw[χ h1]at h;omega
 rw[ς h1]at h;by_cases h2:ai.all (qy al)=ν
 .rw[χ h2]at h;by_cases h3:ai.all vT=ν
  .rw[List.all_eq_true]at h2 h3;exact⟨by omega,by omega,λa ha=>(aoo _ _).1 (h2 a ha),λa ha=>(LD _).1 (h3 a ha)⟩
  .rw[ς h3]at h;omega
 .rw[ς h2]at h;omega
theorem xL.en(S:xL al ai):sZ al.length ai:=by intro a ha;have h:=S.ends a ha;rw[aad,aad]at h;omega
def iO(al:List Bool)(f:Int->Int):List Int:=(List.range al.length).map λv=>if al.getD v ο=ν then f v else 1099511627776
def nY(from_:Int)(v:Int):Int:=if v=from_ then 0 else 1099511627776
theorem qz al f:(iO al f).length=al.length:=by simp[iO]
theorem zD al f v(h:v<al.length):(iO al f).getD v 0=if al.getD v ο=ν then f v else 1099511627776:=by unfold iO;rw[List.getD_eq_getElem?_getD,List.getElem?_map,List.getElem?_range h];rfl
theorem aos al f k(h:k<al.length):(iO al f).take (k+1)=(iO al f).take k++[if al.getD k ο=ν then f k else 1099511627776]:=by rw[List.take_succ_eq_append_getElem (by rw[qz];exact h)];have:=zD al f k h;rw[List.getD_eq_getElem?_getD,List.getElem?_eq_getElem (by rw[qz];exact h)]at this;simp only[Ω]at this;rw[this]
theorem xL.fine(S:xL al ai){f}(hf:∀v:Nat,v<al.length->0<=f v/\f v<=1099511627776)(hp:∀a∈ai,0<=p a/\p a<=1000):iP (iO al f) ai p:=by
 refine⟨λv hv=>?_,λv hv=>?_,hp,by rw[qz];exact S.en⟩
 .rw[qz]at hv;rw[zD _ _ _ hv];split
  .exact(hf v hv).1
  .omega
 .rw[qz]at hv;rw[zD _ _ _ hv];split
  .exact(hf v hv).2
  .omega
theorem xL.iC(S:xL al ai){f}(hf:∀v:Nat,v<al.length->0<=f v/\f v<=1099511627776)(hp:∀a:b9,a∈ai->0<=p a/\p a<=1000)(he:vS p):iP (iO al f) (iC ai) p:=by
 have F:=S.fine hf hp;refine⟨F.lo,F.hi,λb hb=>?_,λb hb=>?_⟩
 .obtain⟨a,ha,rfl|rfl⟩:=BO.1 hb
  .exact hp _ ha
  .rw[he a];exact hp a ha
 .obtain⟨a,ha,rfl|rfl⟩:=BO.1 hb
  .exact F.en _ ha
  .have:=F.en a ha;exact⟨this.2.2.1,this.2.2.2,this.1,this.2.1⟩
theorem R1 from_ v:0<=nY from_ v/\nY from_ v<=1099511627776:=by unfold nY;split<;>omega
def kQ(prog:Nat)(a:b9):Int:=if prog=1 then 1 else if prog=2 then a.2.2 else 0
theorem Tryz.aot:(ah.info? 4).map (λi=>(i.zero,i.size,i.bytes))=θ (θ (.bool ο),1,1):=by kernel_rfl
theorem Tryz.aaj:(ah.info? 121).map (λi=>(i.zero,i.size,i.bytes))=θ (θ (.agg #[.int .i64 0,.int .i64 0,.int .i64 0]),3,24):=by kernel_rfl
def nZ(w:υ)(ao:Option bP)(l:List Bool):Prop:=
 l=[]\/∃b off,ao=θ ⟨b,off,η⟩/\b<w.heap.size/\∀j,j<l.length->w.cell? ⟨b,off+j,η⟩=θ (.bool (l.getD j ο))
theorem nZ.below{l}(h:nZ w ao l)(hb:Below w.heap.size w w'):nZ w' ao l:=by
 rcases h with h|⟨b,off,rfl,hlt,hc⟩
 .exact .inl h
 .refine .inr ⟨b,off,rfl,Nat.lt_of_lt_of_le hlt hb.size,λj hj=>?_⟩;rw[hb.cell (p:=⟨b,off+j,η⟩) hlt];exact hc j hj
theorem R2{base}{v}{l}(h:w.ownsRow base e 1 v n (l.map sw)):∃ao cap,v=.slice ao l.length cap/\nZ w ao l:=by
 obtain⟨h1,h2⟩:=h;simp only[List.length_map,Nat.mul_one]at h1;subst h1;rcases h2 with⟨rfl,h0⟩|⟨g,cap,cur,rfl,hb,hh,h3,h4,h5,h6⟩
 .exact⟨η,0,by rw[h0],.inl (List.eq_nil_of_length_eq_zero h0)⟩
 .refine⟨_,cap,rfl,.inr ⟨g,0,rfl,(ξ.1 hh).1,λj hj=>?_⟩⟩;have:=qi (w:=w) (base:=base) (e:=e) (size:=1) (xs:=l.map sw) ⟨by simp,.inr ⟨g,cap,cur,rfl,hb,hh,h3,h4,h5,h6⟩⟩ j (by omega);rw[Nat.zero_add,this,List.getElem?_map,List.getD_eq_getElem?_getD,List.getElem?_eq_getElem hj];rfl
theorem bR{p:Prop}(h:p):Hid p:=h
theorem xM{a b}(h:a=b):sH (.int .i64 a)=.returned (.int .i64 b):=by rw[h]
theorem He{a b}(h:a=b):sH (.bool a)=.returned (.bool b):=by rw[h]
theorem cm.Hf{b off}(hk:k<m.length)(hc:∀j,j<m.length->w.cell? ⟨b,off+j*3,η⟩=θ (.int .i64 (m.getD j (0,0,0)).1)/\w.cell? ⟨b,off+j*3+1,η⟩=θ (.int .i64 (m.getD j (0,0,0)).2.1)/\w.cell? ⟨b,off+j*3+2,η⟩=θ (.int .i64 (m.getD j (0,0,0)).2.2)):w.cell? ⟨b,off+k*3,η⟩=θ (.int .i64 m[k].1)/\w.cell? ⟨b,off+k*3+1,η⟩=θ (.int .i64 m[k].2.1)/\w.cell? ⟨b,off+k*3+2,η⟩=θ (.int .i64 m[k].2.2):=by have h:=hc k hk;simpa only[List.getD_eq_getElem?_getD,List.getElem?_eq_getElem hk,Ω]using h
theorem nZ.s4{b off}{l:List Bool}(hk:k<l.length)(hc:∀j,j<l.length->w.cell? ⟨b,off+j,η⟩=θ (.bool (l.getD j ο))):w.cell? ⟨b,off+k,η⟩=θ (.bool l[k]):=by have h:=hc k hk;simpa only[List.getD_eq_getElem?_getD,List.getElem?_eq_getElem hk,Ω]using h
theorem cm.lt{b off}(h:cm w (θ ⟨b,off,η⟩) m)(hm:m≠[]):b<w.heap.size:=by
 rcases h with h|⟨b',off',e,h,_⟩
 .exact absurd h hm
 .cases e;exact h
def uA(o:Option jD):Value:=.tuple #[.agg #[.int .i64 (o.getD (0,0,0,0)).1,.int .i64 (o.getD (0,0,0,0)).2.1,.int .i64 (o.getD (0,0,0,0)).2.2.1,.int .i64 (o.getD (0,0,0,0)).2.2.2],.bool o.isSome]
theorem Hg A B lo cv aH t w(hL:pn w lo aH)(hn:aH.length<=9223372036854775807):Ξ ah 108 #[.agg #[.int .i64 A,.int .i64 B,.slice lo aH.length cv],.int .i64 t] w λr w'=>r=.returned (uA (e9 t aH))/\Below w.heap.size w w':=by
 have aD:Hid (∀o o',Below w.heap.size w ((w.alloc o).alloc o')):=λo o'=>bK (ax w o) (ax _ o');go_enter ala,ntmps108;go_wp2;go_loopw [11] (λi wr=>∃k:Nat,k<=aH.length/\i=.int .i64 k/\e9 t aH=e9 t (aH.drop k)/\Below (w.heap.size+2) ((w.alloc (.cells #[.int .i64 A,.int .i64 B,.slice lo aH.length cv] 112)).alloc (.cells #[.int .i64 0,.int .i64 0,.int .i64 0,.int .i64 0] 167)) wr) (λi _=>aH.length-(intOf i).toNat)
 case atStart=>exact⟨0,Nat.zero_le _,rfl,rfl,Below.refl _ _⟩
 case round=>
  obtain⟨k,hk,rfl,hI,hb⟩:=hrel;have bu:=aa hI;have bQ:=(aD.out _ _).trans (hb.mono (by omega));have hz:=hb.size;simp only[lC]at hz;have cg:w.heap.size<wr.heap.size:=by omega
  have hz1:w.heap.size+1<wr.heap.size:=by omega
  have r0:wr.cell? ⟨w.heap.size+1,0,η⟩=θ (.int .i64 0):=by rw[hb.cell (p:=⟨w.heap.size+1,0,η⟩) (by simp)];simp
  have r1:wr.cell? ⟨w.heap.size+1,1,η⟩=θ (.int .i64 0):=by rw[hb.cell (p:=⟨w.heap.size+1,1,η⟩) (by simp)];simp
  have r2:wr.cell? ⟨w.heap.size+1,2,η⟩=θ (.int .i64 0):=by rw[hb.cell (p:=⟨w.heap.size+1,2,η⟩) (by simp)];simp
  have r3:wr.cell? ⟨w.heap.size+1,3,η⟩=θ (.int .i64 0):=by rw[hb.cell (p:=⟨w.heap.size+1,3,η⟩) (by simp)];simp
  have f0:∀j,wr.frozen? ⟨w.heap.size+1,j,η⟩=false:=λj=>by rw[hb.frozen (p:=⟨w.heap.size+1,j,η⟩) (by simp)];simp
  by_cases hlt:k<aH.length
  .rcases hL.below bQ with h0|⟨b,off,rfl,cp,hc⟩
   .subst h0;simp at hlt
   obtain⟨c0,c1,c2,c3⟩:=pn.get hlt hc;have aR:=aa (λo=>hb.alloc (by omega) o);by_cases g1:aH[k].1<=t
   .by_cases g2:t<aH[k].2.1
    .have bI:=aa (anQ hlt bu.out ((nW _ _ _).2 ⟨g1,g2⟩));go_wp2;refine cR (v:=uA (θ aH[k])) (by simp[results,results108,go_sem,uA,r0,r1,r2,r3,hz1]) rfl ⟨by rw[bI.out],?_⟩;exact(((((bQ.setCell (p:=⟨w.heap.size+1,0,η⟩) (by simp) _).setCell (p:=⟨w.heap.size+1,1,η⟩) (by simp) _).setCell (p:=⟨w.heap.size+1,2,η⟩) (by simp) _).setCell (p:=⟨w.heap.size+1,3,η⟩) (by simp) _).alloc (by simp;omega) _)
    .have bI:=aa (ZU hlt bu.out (G5 (by omega)));go_wp2;go_roundw
     case rel=>exact⟨k+1,by omega,by go_num,bI.out,aR.out _⟩
     case measure=>simp[intOf];omega
   .have bI:=aa (ZU hlt bu.out (G5 (by omega)));go_wp2;go_roundw
    case rel=>exact⟨k+1,by omega,by go_num,bI.out,aR.out _⟩
    case measure=>simp[intOf];omega
  ·(have bp:k=aH.length:=by omega);subst bp;have bI:=aa (anR bu.out);go_wp2;refine cR (v:=uA η) (by simp[results,results108,go_sem,uA,r0,r1,r2,r3]) rfl ⟨by rw[bI.out],?_⟩;exact((((bQ.setCell (p:=⟨w.heap.size+1,0,η⟩) (by simp) _).setCell (p:=⟨w.heap.size+1,1,η⟩) (by simp) _).setCell (p:=⟨w.heap.size+1,2,η⟩) (by simp) _).setCell (p:=⟨w.heap.size+1,3,η⟩) (by simp) _)
structure bf(w0:υ) where
 w:υ
 h:Below w0.heap.size w0 w
theorem wp_region_held w0{id}{Q}{a}{l}(h0:Below w0.heap.size w0 w)(hm:P.follows .mixedOrders=ν)(hB:zn .any l.toArray=ν)(h:wpQuiet P l.toArray (λw'=>∃s:bf w0,w'=s.w) (λa'=>∀w',(∃s:bf w0,w'=s.w)->Q .normal a' w') l a):(Code.region id l.toArray ν).wp P Q a w:=
 wp_region_quiet (C:=λw'=>∃s:bf w0,w'=s.w) hm hB ⟨⟨_,h0.drew⟩,rfl⟩ (by simpa using h)
theorem mI{f}{args}{s:bf w0}{v}(h:Ξ P f args s.w λe w'=>e=.returned v/\Below s.w.heap.size s.w w'):Ξ P f args s.w λe w''=>e=.returned v/\∃s':bf w0,w''=s'.w:=
 h.mono λ_ w' ⟨he,hb⟩=>⟨he,⟨w',s.h.trans (hb.mono s.h.size)⟩,rfl⟩
theorem Dl{f}{args}{s:bf w0}{v}(h:Ξ P f args s.w λe w'=>e=.returned v/\w'=s.w):Ξ P f args s.w λe w''=>e=.returned v/\∃s':bf w0,w''=s'.w:=
 h.mono λ_ _ ⟨he,hb⟩=>⟨he,s,hb⟩
theorem s5(h:Below w.heap.size w w')row:w.grownBy w' row:=⟨h.os,h.tape,h.output,h.size,λk hk _=>h.block k hk⟩
theorem n4{a b c:υ}{row}(h:a.grownBy b row)(k:b.grownBy c row):a.grownBy c row:=
 ⟨k.os.trans h.os,k.tape.trans h.tape,k.output.trans h.output,Nat.le_trans h.size k.size,λi hi hne=>(k.block i (Nat.lt_of_lt_of_le hi h.size) hne).trans (h.block i hi hne)⟩
theorem Hh(w:υ)row:w.grownBy w row:=⟨rfl,rfl,rfl,Nat.le_refl _,λ_ _ _=>rfl⟩
theorem aak(w:υ)b j u:w.grownBy (w.setCell ⟨b,j,η⟩ u) (θ b):=
 ⟨rfl,rfl,rfl,by simp[eV],λk _ hk=>Below.heap_setCell _ _ _ _ (λe=>hk (by simp[e]))⟩
theorem aal w0{id}{full}{Q}{a}(h0:Below w0.heap.size w0 w)(hm:P.follows .mixedOrders=ν)(hn:0<full.size)(hB:zn .any full.pop=ν)(hf:pz full.pop=ν)(hl:lastB full.pop full.back! =ν)(h:wpQuiet P full.pop (λw'=>∃s:bf w0,w'=s.w) (λa'=>∀w',(∃s:bf w0,w'=s.w)->lD P full.back! Q .normal a' w') full.pop.toList a):(Code.region id full ν).wp P Q a w:=by
 have e:full=full.pop.push full.back! :=(Ll (by omega));generalize full.pop=ops at*;generalize full.back! =st at*;subst e;simp only[zn,Bool.and_eq_true]at hB;refine Rp hm ?_;have h1:j3 P .any ops (lD P st Q) ops.size (Δ ops.size ο) a w.drew:=by refine Zv (C:=λw'=>∃s:bf w0,w'=s.w) (Q:=λa'=>∀w',(∃s:bf w0,w'=s.w)->lD P st Q .normal a' w') (λ_ w' hw' h=>h w' hw') _ _ _ _ ⟨⟨_,h0.drew⟩,rfl⟩ ?_;have:=wpAnyQ_lex (C:=λw'=>∃s:bf w0,w'=s.w) (md:=.any) hB.1 ops.toList 0 (Δ ops.size ο) a (by simp) (by simpa using hB.2) h;simpa using this
 have h2:=Lp hf hl ops.size _ a w.drew (by simp) (by
  intro j o hj hlj;have:=(ξ.1 hj).1;simp[this]at hlj) h1
 have e1:(Δ ops.size ο).push ο=Δ (ops.push st).size false:=by
  apply Ro
  .simp
  .intro k h1 h2;simp[Rn]
 rw[e1]at h2;have e2:(ops.push st).size=ops.size+1:=by simp
 rw[e2]at h2 ⊢;exact h2
theorem Hi(w:υ)b j u:w.grownBy (w.setCell ⟨b,j,η⟩ u) (θ b):=
 ⟨rfl,rfl,rfl,by simp[eV],λk _ hk=>Below.heap_setCell _ _ _ _ (λe=>hk (by simp[e]))⟩
theorem cm.grown(h:cm w ao m)(hg:w.grownBy w' (θ aT))(hne:∀b off,ao=θ ⟨b,off,η⟩->b≠aT):cm w' ao m:=by
 rcases h with h|⟨b,off,rfl,hlt,hc⟩
 .exact .inl h
 .have hn:θ b≠θ aT:=λe=>hne b off rfl (jP e);refine .inr ⟨b,off,rfl,Nat.lt_of_lt_of_le hlt hg.size,λj hj=>?_⟩;rw[hg.cell_far ⟨b,off+j*3,η⟩ hlt hn,hg.cell_far ⟨b,off+j*3+1,η⟩ hlt hn,hg.cell_far ⟨b,off+j*3+2,η⟩ hlt hn];exact hc j hj
abbrev dx(w:υ)(base aT n cap:Nat)(x:List Int):Prop:=w.ownsRow base 3 1 (.slice (θ ⟨aT,0,η⟩) n cap) n (x.map (bM .i64))
theorem dx.len{base}(h:dx w base aT n cap x):x.length=n:=by have:=h.1;simpa using this
theorem dx.cell{base}(h:dx w base aT n cap x)(hk:k<n):w.cell? ⟨aT,k,η⟩=θ (.int .i64 (x.getD k 0)):=by have hl:=h.len;rw[qi h k (by omega),List.getElem?_map,List.getD_eq_getElem?_getD,List.getElem?_eq_getElem (by omega)];rfl
theorem dx.set{base}(h:dx w base aT n cap x)k v:dx (w.setCell ⟨aT,k,η⟩ (.int .i64 v)) base aT n cap (x.set k v):=by have:=(xE h k (.int .i64 v)).1;rw[<-List.map_set]at this;exact this
theorem dx.below{base}(h:dx w base aT n cap x)(hb:Below w.heap.size w w'):dx w' base aT n cap x:=cE h hb
def LF(w:υ)(aT n:Nat):List Int:=(List.range n).map λj=>intOf ((w.cell? ⟨aT,j,η⟩).getD (.int .i64 0))
theorem dx.rd{base}(h:dx w base aT n cap x):LF w aT n=x:=by have hl:=h.len;apply List.ext_getElem (by simp[LF,hl]);intro i h1 h2;simp only[LF,List.getElem_map,List.getElem_range];rw[h.cell (k:=i) (by omega),List.getD_eq_getElem?_getD,List.getElem?_eq_getElem h2];rfl
def R3:ay->Nat
 | .bool ν=>1
 |_=>0
theorem aou w0{id}{full}{Q}{a}(h0:Below w0.heap.size w0 w)(hm:P.follows .mixedOrders=ν)(hn:1<full.size)(hB:zn .any full.pop.pop=ν)(hf:pz full.pop.pop=ν)(hl:lastB full.pop.pop full.pop.back! =ν)(xw:pz full.pop=ν)(lF:lastB full.pop full.back! =ν)(h:wpQuiet P full.pop.pop (λw'=>∃s:bf w0,w'=s.w) (λa'=>∀w',(∃s:bf w0,w'=s.w)->lD P full.pop.back! (lD P full.back! Q) .normal a' w') full.pop.pop.toList a):(Code.region id full ν).wp P Q a w:=by
 have e:full=full.pop.push full.back! :=(Ll (by omega));have e':full.pop=full.pop.pop.push full.pop.back! :=(Ll (by simp;omega));rw[e']  at xw lF;generalize full.pop.pop=ops at*;generalize full.pop.back! =st at*;generalize full.back! =sl at*;rw[e']at e;subst e;simp only[zn,Bool.and_eq_true]at hB;refine Rp hm ?_;have h1:j3 P .any ops (lD P st (lD P sl Q)) ops.size (Δ ops.size ο) a w.drew:=by refine Zv (C:=λw'=>∃s:bf w0,w'=s.w) (Q:=λa'=>∀w',(∃s:bf w0,w'=s.w)->lD P st (lD P sl Q) .normal a' w') (λ_ w' hw' h=>h w' hw') _ _ _ _ ⟨⟨_,h0.drew⟩,rfl⟩ ?_;have:=wpAnyQ_lex (C:=λw'=>∃s:bf w0,w'=s.w) (md:=.any) hB.1 ops.toList 0 (Δ ops.size ο) a (by simp) (by simpa using hB.2) h;simpa using this
 have cl:∀os:Array Oper,Closed os (Δ os.size ο):=λos j o hj hlj=>by have:=(ξ.1 hj).1;simp[this]at hlj
 have e1:∀(os:Array Oper) (s:Oper),(Δ os.size ο).push ο=Δ (os.push s).size false:=λos s=>by
  apply Ro
  .simp
  .intro k h1 h2;simp[Rn]
 have h2:=Lp hf hl ops.size _ a w.drew (by simp) (cl ops) h1;rw[e1 ops st,show ops.size+1=(ops.push st).size by simp]at h2;have h3:=Lp xw lF (ops.push st).size _ a w.drew (by simp) (cl _) h2;rw[e1 (ops.push st) sl,show (ops.push st).size+1=((ops.push st).push sl).size by simp]at h3;exact h3
def jJ(g:bg)(e:eF)(t:Int):Option (Int×Int):=
 match e9 t e.2.2 with
 |none=>η
 |some l=>if(bl t g.lives e.1&&(decide (t+l.2.2.1<g.hor)&&bl (t+l.2.2.1) g.lives e.2.1))=ν then θ (t+l.2.2.1,l.2.2.2)else η
theorem aam{e}(h:e9 t e.2.2=η):jJ g e t=none:=by unfold jJ;rw[h]
theorem aan{e}{l}(h:e9 t e.2.2=θ l)(k:(bl t g.lives e.1&&(decide (t+l.2.2.1<g.hor)&&bl (t+l.2.2.1) g.lives e.2.1))=ο):jJ g e t=none:=by unfold jJ;rw[h];simp only[k];rfl
theorem aov{e}{l}(h:e9 t e.2.2=θ l)(k:(bl t g.lives e.1&&(decide (t+l.2.2.1<g.hor)&&bl (t+l.2.2.1) g.lives e.2.1))=ν):jJ g e t=θ (t+l.2.2.1,l.2.2.2):=by unfold jJ;rw[h];simp only[k,dF]
theorem LG{ls}{l}(h:e9 t ls=θ l):l∈ls/\l.1<=t/\t<l.2.1:=by
 induction ls with
 |nil=>cases h
 |cons x ls ih=>
  rw[e9]at h;split at h
  .rename_i hx;cases h;exact⟨by simp,(nW _ _ _).1 hx⟩
  .have:=ih h;exact⟨by simp[this.1],this.2⟩
theorem aao{e}{xN c}(h:jJ g e t=θ (xN,c)):∃l∈e.2.2,l.1<=t/\t<l.2.1/\xN=t+l.2.2.1/\c=l.2.2.2/\bl t g.lives e.1=ν/\xN<g.hor/\bl xN g.lives e.2.1=true:=by
 unfold jJ at h;split at h
 .cases h
 .rename_i l hl;split at h
  .rename_i hk;simp only[Γ,l8]at h;simp only[Bool.and_eq_true,kC]at hk;obtain⟨h1,h2,h3⟩:=LG hl;exact⟨l,h1,h2,h3,h.1.symm,h.2.symm,hk.1,by omega,by rw[<-h.1];exact hk.2.2⟩
  .cases h
def dB(g:bg)(v t:Int):Int:=if aK g=0 then if c9 v 0 ((g.lives.length:Int)- 1)=ν then if c9 t 0 (g.hor- 1)=ν then 0 else 1 else 4 else aK g
theorem aow g v t:dB g v t=0\/dB g v t=1\/dB g v t=2\/dB g v t=4\/dB g v t=5:=by
 unfold dB;split
 .split
  .split<;>simp
  .simp
 .exact Zb g
theorem uB(h:dB g v t=0):aK g=0/\(0<=v/\v<(g.lives.length:Int))/\0<=t/\t<g.hor:=by
 unfold dB at h;split at h
 .rename_i h0;split at h
  .rename_i h1;split at h
   .rename_i h2;rw[oI]at h1 h2;exact⟨h0,by omega,by omega⟩
   .cases h
  .cases h
 .rename_i h0;exact absurd h h0
abbrev zE:=Int×Int
def s6(g:bg)(s:Int×Int×Int)(h:zE):Option (Int×Int×Int):=
 if c9 h.1 0 ((g.af.length:Int)- 1)=ν then
  if(g.af.getD h.1.toNat (0,0,[])).1=s.1/\s.2.1<=h.2 then
   match jJ g (g.af.getD h.1.toNat (0,0,[])) h.2 with
   |none=>η
   |some q=>θ ((g.af.getD h.1.toNat (0,0,[])).2.1,q.1,s.2.2+q.2)
  else η
 else η
def lK(g:bg)(s:Option (Int×Int×Int))(l:List zE):Option (Int×Int×Int):=l.foldl (λs h=>s.bind λs=>s6 g s h) s
theorem aox{s}{l:List zE}(hk:k<l.length):lK g s (l.take (k+1))=(lK g s (l.take k)).bind λs=>s6 g s l[k]:=by unfold lK;rw[List.take_succ_eq_append_getElem hk,List.foldl_append];rfl
theorem R4 g l:lK g η l=none:=by
 induction l with
 |nil=>rfl
 |cons h l ih=>exact ih
theorem aoy{s}{l}(h:lK g s (l.take k)=η):lK g s l=none:=by have e:=(List.take_append_drop k l).symm;rw[e];unfold lK at h ⊢;rw[List.foldl_append,h];exact R4 g _
def n5(g:bg)(v t:Int)(l:List zE):Int×Int×Int×Int:=
 if dB g v t=0 then
  if 500<l.length then(0,0,0,2)
  else
   match lK g (if bl t g.lives v=ν then θ (v,t,0)else η) l with
   |none=>(0,0,0,5)
   |some s=>(s.1,s.2.1,s.2.2,0)
 else(0,0,0,dB g v t)
theorem pL(R:cQ g)(h:bl t g.lives v=ν):v.toNat<g.lives.length/\0<=t/\t<g.hor:=by
 unfold bl cU at h;by_cases hv:v.toNat<g.lives.length
 .rw[List.getD_eq_getElem?_getD,List.getElem?_map,List.getElem?_eq_getElem hv]at h;have h':=(nW _ _ _).1 (show hasB g.lives[v.toNat].1 g.lives[v.toNat].2 t=ν from h);have:=R.life _ (List.getElem_mem hv);exact⟨hv,by omega,by omega⟩
 .rw[List.getD_eq_getElem?_getD,List.getElem?_eq_none (by simpa using hv)]at h;cases h
structure zF(g:bg)(s:Int×Int×Int):Prop where
 v0:0<=s.1
 v1:s.1<g.lives.length
 al:bl s.2.1 g.lives s.1=ν
theorem aap(R:cQ g){s s'}{h}(e:s6 g s h=θ s'):zF g s'/\(0<=h.1/\h.1<g.af.length)/\s.2.1<=h.2/\h.2<s'.2.1/\s.2.2<=s'.2.2/\s'.2.2<=s.2.2+1000:=by
 unfold s6 at e;split at e
 .rename_i h1;have h1:=(oI _ _ _).1 h1;obtain⟨E,hE⟩:∃E:Nat,h.1=(E:Int):=⟨h.1.toNat,by omega⟩;have R5:E<g.af.length:=by omega
  have hg:g.af.getD h.1.toNat (0,0,[])=g.af[E]:=by rw[hE,Int.toNat_natCast,List.getD_eq_getElem?_getD,List.getElem?_eq_getElem R5];rfl
  rw[hg]at e;split at e
  .rename_i h2;split at e
   .cases e
   .rename_i q hq;simp only[Γ]at e;subst e;obtain⟨l,hl,k1,k2,bz,eB,sM,vU,R6⟩:=aao (xN:=q.1) (c:=q.2) hq;have hf:=(xz _ _).1 (R.aH _ (List.getElem_mem R5) l hl);obtain⟨_,hB,_⟩:=R.ends _ (List.getElem_mem R5);exact⟨⟨hB.1,hB.2,R6⟩,by omega,h2.2,by simp only;omega,by simp only;omega,by simp only;omega⟩
  .cases e
 .cases e
def ni(g:bg)(s:Int×Int×Int)(h:zE):Option (Int×Int×Int):=if bl s.2.1 g.lives s.1=ν then s6 g s h else η
theorem aaq{s}(h:bl s.2.1 g.lives s.1=ν)x:ni g s x=s6 g s x:=by unfold ni;rw[χ h]
theorem aoz{s}{h:zE}(k:¬(0<=h.1/\h.1<g.af.length)):ni g s h=none:=by
 unfold ni s6;split
 .rw[ς (by rw[oI];omega)]
 .rfl
theorem R7{s}{h}{E:Nat}(e:h.1=(E:Int))(hE:E<g.af.length):ni g s h=if bl s.2.1 g.lives s.1=ν/\g.af[E].1=s.1/\s.2.1<=h.2 then(jJ g g.af[E] h.2).map λq=>(g.af[E].2.1,q.1,s.2.2+q.2)else none:=by
 have hg:g.af.getD h.1.toNat (0,0,[])=g.af[E]:=by rw[e,Int.toNat_natCast,List.getD_eq_getElem?_getD,List.getElem?_eq_getElem hE];rfl
 unfold ni s6;by_cases h1:bl s.2.1 g.lives s.1=ν
 .rw[χ h1,χ ((oI _ _ _).2 (by omega)),hg];by_cases h2:g.af[E].1=s.1/\s.2.1<=h.2
  .rw[χ h2,χ ⟨h1,h2⟩];cases jJ g g.af[E] h.2<;>rfl
  .rw[ς h2,ς (λh=>h2 h.2)]
 .rw[ς h1,ς (λh=>h1 h.1)]
theorem aoA{s}{h}{E:Nat}(e:h.1=(E:Int))(hE:E<g.af.length)(k:e9 h.2 g.af[E].2.2=η\/g.af[E].1≠s.1\/¬s.2.1<=h.2\/bl s.2.1 g.lives s.1=ο\/bl h.2 g.lives s.1=ο):ni g s h=none:=by
 rw[R7 e hE];split
 .rename_i h1;obtain⟨h1,h2,h3⟩:=h1;rcases k with k|k|k|k|k
  .rw[aam k];rfl
  .exact absurd h2 k
  .exact absurd h3 k
  .rw[h1]at k;cases k
  .cases hf:e9 h.2 g.af[E].2.2 with
   |none=>rw[aam hf];rfl
   |some l=>rw[aan hf (by rw[h2,k];rfl)];rfl
 .rfl
theorem aoB(R:cQ g){s}{h}{E:Nat}{l:jD}(e:h.1=(E:Int))(hE:E<g.af.length)(k1:e9 h.2 g.af[E].2.2=θ l)(k2:g.af[E].1=s.1)(bz:s.2.1<=h.2)(eB:bl s.2.1 g.lives s.1=ν)(sM:bl h.2 g.lives s.1=ν):ni g s h=if bl (h.2+l.2.2.1) g.lives g.af[E].2.1=ν then θ (g.af[E].2.1,h.2+l.2.2.1,s.2.2+l.2.2.2)else none:=by
 rw[R7 e hE,χ ⟨eB,k2,bz⟩];by_cases vU:bl (h.2+l.2.2.1) g.lives g.af[E].2.1=ν
 .rw[χ vU,aov k1 (by rw[k2,sM,vU,CR (pL R vU).2.2];rfl)];rfl
 .rw[ς vU,aan k1 (by rw[Bool.not_eq_true]at vU;rw[vU];simp)];rfl
theorem aoC g s:lK g s []=s:=rfl
theorem aoD g s h l:lK g s (h::l)=lK g (s.bind λs=>s6 g s h) l:=rfl
theorem aoE(R:cQ g){l}{s s'}(hs:zF g s)(e:lK g (θ s) l=θ s'):zF g s'/\s.2.1<=s'.2.1/\s.2.2<=s'.2.2/\s'.2.2<=s.2.2+1000*(l.length:Int):=by
 induction l generalizing s with
 |nil=>rw[aoC]at e;cases e;exact⟨hs,by omega,by omega,by simp⟩
 |cons h l ih=>
  rw[aoD,C5]at e;cases e1:s6 g s h with
  |none=>rw[e1,R4]at e;cases e
  |some s1=>
   rw[e1]at e;obtain⟨h1,h2,h3,h4,h5,h6⟩:=aap R e1;obtain⟨k1,k2,bz,eB⟩:=ih h1 e;refine⟨k1,by omega,by omega,?_⟩;rw[List.length_cons];omega
def aar(a b:zE):Prop:=a.2<b.2\/(a.2=b.2/\a.1<b.1)
theorem zG a b t w:Ξ ah 92 #[.agg #[.int .i64 a,.int .i64 b],.int .i64 t] w λe w'=>e=.returned (.bool (hasB a b t))/\Below w.heap.size w w':=by
 have aD:=aa (ax w);by_cases g1:a<=t
 .by_cases g2:t<b
  .have ak:=aa ((nW a b t).2 ⟨g1,g2⟩);go_enter QN,ntmps92;go_wp2;go_ret;exact⟨gK ak.out.symm,aD.out _⟩
  .have ak:=aa (G5 (a:=a) (b:=b) (t:=t) (λh=>g2 h.2));go_enter QN,ntmps92;go_wp2;go_ret;exact⟨gK ak.out.symm,aD.out _⟩
 .have ak:=aa (G5 (a:=a) (b:=b) (t:=t) (λh=>g1 h.1));go_enter QN,ntmps92;go_wp2;go_ret;exact⟨gK ak.out.symm,aD.out _⟩
theorem aas a b s t w:Ξ ah 119 #[.agg #[.int .i64 a,.int .i64 b],.int .i64 s,.int .i64 t] w λe w'=>e=.returned (.bool (decide (s<=t)&&(hasB a b s&&hasB a b t)))/\Below w.heap.size w w':=by
 have aD:=aa (ax w (.cells #[.int .i64 a,.int .i64 b] 109));by_cases g1:s<=t
 .have fR:Hid (decide (s<=t)=ν):=by show _=_;simpa using g1
  have h1:=λW=>zG a b s W;have h2:=λW=>zG a b t W;cases e1:hasB a b s with
  |false=>
   rw[e1]at h1;go_enter QS,ntmps119;go_wp2_with(go_at_call 92;refine(h1 _).mono ?_;rintro e w1 ⟨rfl,aj⟩);go_ret;exact⟨by rw[fR.out];rfl,bK aD.out (by assumption)⟩
  |true=>
   rw[e1]at h1;(cases e2:hasB a b t<;>rw[e2]at h2);all_goals
    go_enter QS,ntmps119;go_wp2_with fail;refine(h1 _).mono ?_;rintro e w1 ⟨rfl,aj⟩;(have c0:w1.cell? ⟨w.heap.size,0,η⟩=θ (.int .i64 a):=by rw[aj.cell (p:=⟨w.heap.size,0,η⟩) (by simp)];simp);(have c1:w1.cell? ⟨w.heap.size,1,η⟩=θ (.int .i64 b):=by rw[aj.cell (p:=⟨w.heap.size,1,η⟩) (by simp)];simp);have iq:=bK aD.out aj;go_wp2_with fail;refine(h2 _).mono ?_;rintro e w2 ⟨rfl,aq⟩;have cz:=bK iq aq;go_wp2;go_ret;exact⟨by rw[fR.out];rfl,cz⟩
 .have fR:Hid (decide (s<=t)=ο):=by show _=_;simpa using g1
  go_enter QS,ntmps119;go_wp2;go_ret;exact⟨by rw[fR.out];rfl,aD.out⟩
structure kR(w W:υ)(B:Nat)(g:bg)(la ea:Option bP)(lc ec:Nat):Prop where
 c0:W.cell? ⟨B,0,η⟩=θ (.int .i64 g.hor)
 c1:W.cell? ⟨B,1,η⟩=θ (.slice la g.lives.length lc)
 c2:W.cell? ⟨B,2,η⟩=θ (.slice ea g.af.length ec)
 aQ:Below w.heap.size w W
 lt:B<W.heap.size
theorem qA w g la ea lc ec(T:Θ):kR w (w.alloc (.cells #[.int .i64 g.hor,.slice la g.lives.length lc,.slice ea g.af.length ec] T)) w.heap.size g la ea lc ec:=
 ⟨by simp,by simp,by simp,ax w _,by simp⟩
theorem kR.below{la ea}{lc ec}(h:kR w W B g la ea lc ec)(hb:Below W.heap.size W W'):kR w W' B g la ea lc ec:=
 ⟨(hb.cell (p:=⟨B,0,η⟩) h.lt).trans h.c0,(hb.cell (p:=⟨B,1,η⟩) h.lt).trans h.c1,(hb.cell (p:=⟨B,2,η⟩) h.lt).trans h.c2,bK h.aQ hb,Nat.lt_of_lt_of_le h.lt hb.size⟩
theorem aoF(h:aK g≠0):dB g v t=aK g:=by unfold dB;rw[ς h]
theorem LH g la ea lc ec v t w(hG:cL w la ea g):Ξ ah 83 #[.agg #[.int .i64 g.hor,.slice la g.lives.length lc,.slice ea g.af.length ec],.int .i64 v,.int .i64 t] w λr w'=>r=.returned (.int .i64 (dB g v t))/\Below w.heap.size w w':=by
 have aA:=qA w g la ea lc ec 59;have h1:=Eb g la ea lc ec _ (hG.below aA.aQ);by_cases e1:aK g=0
 .have hR:=ei e1;have aat:=hR.tF;have hh:=hR.hor;have hv:=λW=>G4 g.hor la ea g.lives.length lc g.af.length ec v W aat;have ht:=λW=>RJ g.hor la ea g.lives.length lc g.af.length ec t W hh.1 hh.2;have gw:Hid (dB g v t=if c9 v 0 ((g.lives.length:Int)- 1)=ν then if c9 t 0 (g.hor- 1)=ν then 0 else 1 else 4):=by show _=_;unfold dB;rw[χ e1]
  rw[e1]at h1;cases bv:c9 v 0 ((g.lives.length:Int)- 1)with
  |false=>
   rw[bv]at hv gw;go_enter QM,ntmps83;go_wp2_with fail;refine h1.mono ?_;rintro e w1 ⟨rfl,aj⟩;have bD:=aA.below aj;have LI:=bD.c0;have ir:=bD.c1;have lM:=bD.c2;go_wp2_with fail;refine(hv _).mono ?_;rintro e w2 ⟨rfl,aq⟩;have cz:=(bD.below aq).aQ;go_wp2;go_ret;exact⟨dS gw.out.symm,by assumption⟩
  |true=>
   rw[bv]at hv gw;(cases aoG:c9 t 0 (g.hor- 1)<;>rw[aoG]at ht gw);all_goals
    go_enter QM,ntmps83;go_wp2_with fail;refine h1.mono ?_;rintro e w1 ⟨rfl,aj⟩;have bD:=aA.below aj;have LI:=bD.c0;have ir:=bD.c1;have lM:=bD.c2;go_wp2_with fail;refine(hv _).mono ?_;rintro e w2 ⟨rfl,aq⟩;have bt:=bD.below aq;have LI:=bt.c0;have ir:=bt.c1;have lM:=bt.c2;go_wp2_with fail;refine(ht _).mono ?_;rintro e w3 ⟨rfl,aB⟩;have cz:=(bt.below aB).aQ;go_wp2;go_ret;exact⟨dS gw.out.symm,by assumption⟩
 .have bU:=aa (aoF (v:=v) (t:=t) e1);have d1:(aK g !=0)=true:=by simpa using e1
  generalize aK g=n at*;go_enter QM,ntmps83;go_wp2_with fail;refine h1.mono ?_;rintro e w1 ⟨rfl,aj⟩;have cz:=(aA.below aj).aQ;go_wp2;go_ret;exact⟨dS bU.out.symm,cz⟩
theorem n6 n(h0: -9223372036854775808<=n)(h1:n<9223372036854775808):IntKind.i64.wrap n=n:=by simp only[zm,u6,zl];simp;omega
theorem Hj(h:Below w.heap.size w W){b}(hb:w.heap.size<=b)x y z:Below w.heap.size w (((W.setCell ⟨b,0,η⟩ x).setCell ⟨b,1,η⟩ y).setCell ⟨b,2,η⟩ z):=
 ((h.setCell (p:=⟨b,0,η⟩) hb _).setCell (p:=⟨b,1,η⟩) hb _).setCell (p:=⟨b,2,η⟩) hb _
def rG(q:Int×Int×Int)(b:Bool):Value:=.tuple #[.agg #[.int .i64 q.1,.int .i64 q.2.1,.int .i64 q.2.2],.bool b]
theorem cx{T:Θ}{b}{x}(hb:b=W.heap.size)(hx:cs[j]?=θ x):(W.alloc (.cells cs T)).cell? ⟨b,j,η⟩=θ x:=by subst hb;simp[hx]
theorem aau{T:Θ}{b}(hb:b=W.heap.size):(W.alloc (.cells cs T)).frozen? ⟨b,j,η⟩=false:=by subst hb;simp
structure LJ(w W:υ)(N:Nat)(g:bg)(la ea:Option bP)(lc ec:Nat)(v t c E d A B:Int):Prop where
 g0:W.cell? ⟨N,0,η⟩=θ (.int .i64 g.hor)
 g1:W.cell? ⟨N,1,η⟩=θ (.slice la g.lives.length lc)
 g2:W.cell? ⟨N,2,η⟩=θ (.slice ea g.af.length ec)
 s0:W.cell? ⟨N+1,0,η⟩=θ (.int .i64 v)
 s1:W.cell? ⟨N+1,1,η⟩=θ (.int .i64 t)
 s2:W.cell? ⟨N+1,2,η⟩=θ (.int .i64 c)
 h0:W.cell? ⟨N+1+1,0,η⟩=θ (.int .i64 E)
 h1:W.cell? ⟨N+1+1,1,η⟩=θ (.int .i64 d)
 r0:W.cell? ⟨N+1+1+1,0,η⟩=θ (.int .i64 0)
 r1:W.cell? ⟨N+1+1+1,1,η⟩=θ (.int .i64 0)
 r2:W.cell? ⟨N+1+1+1,2,η⟩=θ (.int .i64 0)
 fz:∀j,W.frozen? ⟨N+1+1+1,j,η⟩=ο
 e0:W.cell? ⟨N+1+1+1+1,0,η⟩=θ (.int .i64 A)
 e1:W.cell? ⟨N+1+1+1+1,1,η⟩=θ (.int .i64 B)
 aQ:Below w.heap.size w W
 lt:N+1+1+1+1<W.heap.size
theorem LJ.below{N}{la ea}{lc ec}{c E A B}(h:LJ w W N g la ea lc ec v t c E d A B)(hb:Below W.heap.size W W'):LJ w W' N g la ea lc ec v t c E d A B:=by have hl:=h.lt;have hs:=hb.size;have q:∀b j x,b<W.heap.size->W.cell? ⟨b,j,η⟩=θ x->W'.cell? ⟨b,j,η⟩=θ x:=λb j x hlt hx=>(hb.cell (p:=⟨b,j,η⟩) hlt).trans hx;exact⟨q _ _ _ (by omega) h.g0,q _ _ _ (by omega) h.g1,q _ _ _ (by omega) h.g2,q _ _ _ (by omega) h.s0,q _ _ _ (by omega) h.s1,q _ _ _ (by omega) h.s2,q _ _ _ (by omega) h.h0,q _ _ _ (by omega) h.h1,q _ _ _ (by omega) h.r0,q _ _ _ (by omega) h.r1,q _ _ _ (by omega) h.r2,λj=>(hb.frozen (p:=⟨N+1+1+1,j,η⟩) (by simp only;omega)).trans (h.fz j),q _ _ _ (by omega) h.e0,q _ _ _ (by omega) h.e1,bK h.aQ hb,by omega⟩
theorem LK w g la ea lo lc ec n cv v t c E d A B(T1 T2 aoH aoI:Θ):LJ w (((((w.alloc (.cells #[.int .i64 g.hor,.slice la g.lives.length lc,.slice ea g.af.length ec] T1)).alloc (.cells #[.int .i64 v,.int .i64 t,.int .i64 c] T2)).alloc (.cells #[.int .i64 E,.int .i64 d] aoH)).alloc (.cells #[.int .i64 0,.int .i64 0,.int .i64 0] T2)).alloc (.cells #[.int .i64 A,.int .i64 B,.slice lo n cv] aoI)) w.heap.size g la ea lc ec v t c E d A B:=
 ⟨by rw[(ax _ _).cell (by simp<;>omega)];rw[(ax _ _).cell (by simp<;>omega)];rw[(ax _ _).cell (by simp<;>omega)];rw[(ax _ _).cell (by simp<;>omega)];exact cx (by simp) rfl,by rw[(ax _ _).cell (by simp<;>omega)];rw[(ax _ _).cell (by simp<;>omega)];rw[(ax _ _).cell (by simp<;>omega)];rw[(ax _ _).cell (by simp<;>omega)];exact cx (by simp) rfl,by rw[(ax _ _).cell (by simp<;>omega)];rw[(ax _ _).cell (by simp<;>omega)];rw[(ax _ _).cell (by simp<;>omega)];rw[(ax _ _).cell (by simp<;>omega)];exact cx (by simp) rfl,by rw[(ax _ _).cell (by simp<;>omega)];rw[(ax _ _).cell (by simp<;>omega)];rw[(ax _ _).cell (by simp<;>omega)];exact cx (by simp) rfl,by rw[(ax _ _).cell (by simp<;>omega)];rw[(ax _ _).cell (by simp<;>omega)];rw[(ax _ _).cell (by simp<;>omega)];exact cx (by simp) rfl,by rw[(ax _ _).cell (by simp<;>omega)];rw[(ax _ _).cell (by simp<;>omega)];rw[(ax _ _).cell (by simp<;>omega)];exact cx (by simp) rfl,by rw[(ax _ _).cell (by simp<;>omega)];rw[(ax _ _).cell (by simp<;>omega)];exact cx (by simp) rfl,by rw[(ax _ _).cell (by simp<;>omega)];rw[(ax _ _).cell (by simp<;>omega)];exact cx (by simp) rfl,by rw[(ax _ _).cell (by simp<;>omega)];exact cx (by simp) rfl,by rw[(ax _ _).cell (by simp<;>omega)];exact cx (by simp) rfl,by rw[(ax _ _).cell (by simp<;>omega)];exact cx (by simp) rfl,λj=>by rw[(ax _ _).frozen (by simp<;>omega)];exact aau (by simp),by exact cx (by simp) rfl,by exact cx (by simp) rfl,bK (bK (bK (bK (ax _ _) (ax _ _)) (ax _ _)) (ax _ _)) (ax _ _),by simp⟩
theorem aav g la ea lc ec(s:Int×Int×Int)h(R:cQ g)(hv0:0<=s.1)(jR:s.1<g.lives.length)(hc0:0<=s.2.2)(hc1:s.2.2<=1000000):∃q:Int×Int×Int,(∀s',ni g s h=θ s'->q=s')/\∀w:υ,cL w la ea g ->
   Ξ ah 93 #[.agg #[.int .i64 g.hor,.slice la g.lives.length lc,.slice ea g.af.length ec],.agg #[.int .i64 s.1,.int .i64 s.2.1,.int .i64 s.2.2],.agg #[.int .i64 h.1,.int .i64 h.2]] w λr w'=>r=.returned (rG q (ni g s h).isSome)/\Below w.heap.size w w':=by
 have aD:Hid (∀(w:υ) o1 o2 zf xq,Below w.heap.size w ((((w.alloc o1).alloc o2).alloc zf).alloc xq)):=λw o1 o2 zf xq=>bK (bK (bK (ax w o1) (ax _ o2)) (ax _ zf)) (ax _ xq);by_cases k0:0<=h.1/\h.1<g.af.length
 case neg=>
  have aR:=aa (aoz (s:=s) k0);refine⟨(0,0,0),λs' e=>(by rw[aR.out]at e;cases e),λw hG=>?_⟩;rw[aR.out];have hor:h.1<0\/(¬h.1<0/\(g.af.length:Int)<=h.1):=by omega
  rcases hor with k1|⟨k1,k2⟩;all_goals
   go_enter GM,ntmps93;go_wp2;refine cR (v:=rG (0,0,0) ο) (by simp[results,results93,go_sem,rG]) rfl ⟨rfl,?_⟩;exact aD.out _ _ _ _ _
 obtain⟨E,Hl⟩:∃E:Nat,h.1=(E:Int):=⟨h.1.toNat,by omega⟩;have hE:E<g.af.length:=by omega
 have hk0:¬h.1<0:=by omega
 have hk1:¬(g.af.length:Int)<=h.1:=by omega
 have hem:=List.getElem_mem hE;obtain⟨hA,Ef,zH⟩:=R.ends _ hem;have jE:=R.qm;have hlv:=R.tF;have Ho:=R.hor;have kS:=aa (λk=>aoA (g:=g) (s:=s) Hl hE k);have R8:=aa (λl k1 k2 bz eB sM=>aoB R (s:=s) (h:=h) (l:=l) Hl hE k1 k2 bz eB sM);have R9:Hid (∀l,e9 h.2 g.af[E].2.2=θ l->(0<=h.2/\h.2<100)/\(0<=l.2.2.1/\l.2.2.1<=50)/\0<=l.2.2.2/\l.2.2.2<=1000):=by intro l hl;obtain⟨h1,h2,h3⟩:=LG hl;have:=(xz _ _).1 (R.aH _ hem l h1);omega
 have zI:Hid (∀w,cL w la ea g->∃b off lo cv,ea=θ ⟨b,off,η⟩/\b<w.heap.size/\w.cell? ⟨b,off+E*3,η⟩=θ (.int .i64 g.af[E].1)/\w.cell? ⟨b,off+E*3+1,η⟩=θ (.int .i64 g.af[E].2.1)/\w.cell? ⟨b,off+E*3+2,η⟩=θ (.slice lo g.af[E].2.2.length cv)/\pn w lo g.af[E].2.2):=by
  intro w hG;rcases hG.ed with h0|⟨b,off,rfl,cp,hc⟩
  .rw[h0]at hE;simp at hE
  obtain⟨c0,c1,lo,cv,c2,hL,_,_⟩:=hc E hE;exact⟨b,off,lo,cv,rfl,cp,c0,c1,c2,hL⟩
 have azL:(E:Int)<(g.af.length:Int):=by omega
 have LL:(0:Int)<=(E:Int):=by omega
 generalize azM :g.af[E]=ed at*;obtain⟨A,B,aH⟩:=ed;simp only at hA Ef zH kS R8 R9 zI;rw[Hl]at hk0 hk1;obtain⟨h1,ht⟩:=h;simp only at Hl;subst Hl;obtain⟨v,t0,c0⟩:=s;simp only at hv0 jR hc0 hc1 kS R8 R9 zI ⊢;cases hf:e9 ht aH with
 |none=>
  have aR:=aa (kS.out (.inl hf));refine⟨(0,0,0),λs' e=>(by rw[aR.out]at e;cases e),λw hG=>?_⟩;rw[aR.out];have qB:=aD.out w (.cells #[.int .i64 g.hor,.slice la g.lives.length lc,.slice ea g.af.length ec] 59) (.cells #[.int .i64 v,.int .i64 t0,.int .i64 c0] 148) (.cells #[.int .i64 (E:Int),.int .i64 ht] 103) (.cells #[.int .i64 0,.int .i64 0,.int .i64 0] 148);obtain⟨b,off,lo,cv,rfl,cp,xO,xP,rH,hL⟩:=zI.out _ (hG.below qB);have mJ:=λW (hb:Below _ _ W)=>Hg A B lo cv aH ht W (hL.below hb) (by omega);simp only[hf]at mJ;unfold uA at mJ;simp only[jG,ic]at mJ;go_enter GM,ntmps93;go_wp2_with fail;refine(mJ _ (ax _ _)).mono ?_;rintro r w1 ⟨rfl,aj⟩;have iu:=((LK w g la (θ ⟨b,off,η⟩) lo lc ec aH.length cv v t0 c0 E ht A B 59 148 103 112).below aj).below (ax w1 (.cells #[.int .i64 0,.int .i64 0,.int .i64 0,.int .i64 0] 167));have r0:=iu.r0;have r1:=iu.r1;have r2:=iu.r2;have fz:=iu.fz;have lt:=iu.lt;have cz:=iu.aQ;go_wp2
  go_quiet (fail)
  go_wp2;refine cR (v:=rG (0,0,0) ο) (by simp[results,results93,go_sem,rG,r0,r1,r2]) rfl ⟨rfl,?_⟩;exact Hj (below_drewN cz _) (by omega) _ _ _
 |some l=>
  obtain⟨⟨Bn,xQ⟩,⟨hl0,hl1⟩,lF,Hp⟩:=R9.out l hf;obtain⟨V,rfl⟩:∃V:Nat,v=(V:Int):=⟨v.toNat,by omega⟩;obtain⟨fE,rfl⟩:∃V:Nat,B=(V:Int):=⟨B.toNat,by omega⟩;have hV:V<g.lives.length:=by omega
  have Hq:fE<g.lives.length:=by omega
  have Hr:Hid (∀(k:Nat) (hk:k<g.lives.length) w,cL w la ea g->∃b off,la=θ ⟨b,off,η⟩/\b<w.heap.size/\w.cell? ⟨b,off+k*2,η⟩=θ (.int .i64 g.lives[k].1)/\w.cell? ⟨b,off+k*2+1,η⟩=θ (.int .i64 g.lives[k].2)):=by
   intro k hk w hG;rcases hG.lv with h0|⟨b,off,rfl,cp,hc⟩
   .rw[h0]at hk;simp at hk
   exact⟨b,off,rfl,cp,eg.get hk hc⟩
  have zJ:=λx=>pJ x g.lives V hV;have zK:=λx=>pJ x g.lives fE Hq;have Sa:=aa (Hr.out V hV);have aaw:=aa (Hr.out fE Hq);generalize g.lives[V]=p1 at*;generalize g.lives[fE]=p2 at*;obtain⟨a1,b1⟩:=p1;obtain⟨a2,b2⟩:=p2;simp only at zJ zK Sa aaw;have LM:(V:Int)<(g.lives.length:Int):=by omega
  have aoJ:(0:Int)<=(V:Int):=by omega
  have Sb:(fE:Int)<(g.lives.length:Int):=by omega
  have aoK:(0:Int)<=(fE:Int):=by omega
  by_cases Sc:A=(V:Int)
  case neg=>
   have aR:=aa (kS.out (.inr (.inl Sc)));(have d1:(A !=(V:Int))=true:=by simpa using Sc);refine⟨(0,0,0),λs' e=>(by rw[aR.out]at e;cases e),λw hG=>?_⟩;rw[aR.out];have qB:=aD.out w (.cells #[.int .i64 g.hor,.slice la g.lives.length lc,.slice ea g.af.length ec] 59) (.cells #[.int .i64 (V:Int),.int .i64 t0,.int .i64 c0] 148) (.cells #[.int .i64 (E:Int),.int .i64 ht] 103) (.cells #[.int .i64 0,.int .i64 0,.int .i64 0] 148);obtain⟨b,off,lo,cv,rfl,cp,xO,xP,rH,hL⟩:=zI.out _ (hG.below qB);have mJ:=λW (hb:Below _ _ W)=>Hg A fE lo cv aH ht W (hL.below hb) (by omega);simp only[hf]at mJ;unfold uA at mJ;simp only[Ω,gu]at mJ;go_enter GM,ntmps93;go_wp2_with fail;refine(mJ _ (ax _ _)).mono ?_;rintro r w1 ⟨rfl,aj⟩;have iu:=((LK w g la (θ ⟨b,off,η⟩) lo lc ec aH.length cv V t0 c0 E ht A fE 59 148 103 112).below aj).below (ax w1 (.cells #[.int .i64 l.1,.int .i64 l.2.1,.int .i64 l.2.2.1,.int .i64 l.2.2.2] 167));have Sd:(w1.alloc (.cells #[.int .i64 l.1,.int .i64 l.2.1,.int .i64 l.2.2.1,.int .i64 l.2.2.2] 167)).cell? ⟨w1.heap.size,2,η⟩=θ (.int .i64 l.2.2.1):=cx rfl rfl;have Se:(w1.alloc (.cells #[.int .i64 l.1,.int .i64 l.2.1,.int .i64 l.2.2.1,.int .i64 l.2.2.2] 167)).cell? ⟨w1.heap.size,3,η⟩=θ (.int .i64 l.2.2.2):=cx rfl rfl;(have Hs:w1.heap.size<(w1.alloc (.cells #[.int .i64 l.1,.int .i64 l.2.1,.int .i64 l.2.2.1,.int .i64 l.2.2.2] 167)).heap.size:=by simp);have j7:=iu;have cz:=j7.aQ;have r0:=j7.r0;have r1:=j7.r1;have r2:=j7.r2;have fz:=j7.fz;have lt:=j7.lt;have e0:=iu.e0;have s0:=iu.s0;go_wp2
   go_quiet (fail)
   go_wp2;refine cR (v:=rG (0,0,0) ο) (by simp[results,results93,go_sem,rG,r0,r1,r2]) rfl ⟨rfl,?_⟩;exact Hj (below_drewN cz _) (by omega) _ _ _
  subst Sc;cases hW:(decide (t0<=ht)&&(hasB a1 b1 t0&&hasB a1 b1 ht))with
  |false=>
   have aR:Hid (ni g ((V:Int),t0,c0) ((E:Int),ht)=η):=by
    refine kS.out (.inr (.inr ?_));rw[zJ,zJ];by_cases k1:t0<=ht
    .rw[CR k1,Bool.true_and,Bool.and_eq_false_iff]at hW;exact .inr hW
    .exact .inl k1
   refine⟨(0,0,0),λs' e=>(by rw[aR.out]at e;cases e),λw hG=>?_⟩;rw[aR.out];have xR:=λW=>aas a1 b1 t0 ht W;rw[hW]at xR;have qB:=aD.out w (.cells #[.int .i64 g.hor,.slice la g.lives.length lc,.slice ea g.af.length ec] 59) (.cells #[.int .i64 (V:Int),.int .i64 t0,.int .i64 c0] 148) (.cells #[.int .i64 (E:Int),.int .i64 ht] 103) (.cells #[.int .i64 0,.int .i64 0,.int .i64 0] 148);obtain⟨b,off,lo,cv,rfl,cp,xO,xP,rH,hL⟩:=zI.out _ (hG.below qB);have mJ:=λW (hb:Below _ _ W)=>Hg V fE lo cv aH ht W (hL.below hb) (by omega);simp only[hf]at mJ;unfold uA at mJ;simp only[Ω,gu]at mJ;go_enter GM,ntmps93;go_wp2_with fail;refine(mJ _ (ax _ _)).mono ?_;rintro r w1 ⟨rfl,aj⟩;have iu:=((LK w g la (θ ⟨b,off,η⟩) lo lc ec aH.length cv V t0 c0 E ht V fE 59 148 103 112).below aj).below (ax w1 (.cells #[.int .i64 l.1,.int .i64 l.2.1,.int .i64 l.2.2.1,.int .i64 l.2.2.2] 167));have Sd:(w1.alloc (.cells #[.int .i64 l.1,.int .i64 l.2.1,.int .i64 l.2.2.1,.int .i64 l.2.2.2] 167)).cell? ⟨w1.heap.size,2,η⟩=θ (.int .i64 l.2.2.1):=cx rfl rfl;have Se:(w1.alloc (.cells #[.int .i64 l.1,.int .i64 l.2.1,.int .i64 l.2.2.1,.int .i64 l.2.2.2] 167)).cell? ⟨w1.heap.size,3,η⟩=θ (.int .i64 l.2.2.2):=cx rfl rfl;(have Hs:w1.heap.size<(w1.alloc (.cells #[.int .i64 l.1,.int .i64 l.2.1,.int .i64 l.2.2.1,.int .i64 l.2.2.2] 167)).heap.size:=by simp);go_wp2_with fail;generalize w1.alloc (.cells #[.int .i64 l.1,.int .i64 l.2.1,.int .i64 l.2.2.1,.int .i64 l.2.2.2] 167)=bF at*;obtain⟨lb,cC,rfl,hlb,Ht,Hu⟩:=Sa.out bF (hG.below iu.aQ);have hne:Nonempty (bf bF):=⟨⟨bF,Below.refl _ _⟩⟩;have f0:∀s:bf bF,s.w.cell? ⟨w.heap.size,1,η⟩=θ (.slice (θ ⟨lb,cC,η⟩) g.lives.length lc):=λs=>(iu.below s.h).g1;have f1:∀s:bf bF,s.w.cell? ⟨w.heap.size+1,0,η⟩=θ (.int .i64 V):=λs=>(iu.below s.h).s0;have f2:∀s:bf bF,s.w.cell? ⟨w.heap.size+1,1,η⟩=θ (.int .i64 t0):=λs=>(iu.below s.h).s1;have f3:∀s:bf bF,s.w.cell? ⟨w.heap.size+1+1,1,η⟩=θ (.int .i64 ht):=λs=>(iu.below s.h).h1;have f4:∀s:bf bF,s.w.cell? ⟨w.heap.size+1+1+1+1,0,η⟩=θ (.int .i64 V):=λs=>(iu.below s.h).e0;have f5:∀s:bf bF,s.w.cell? ⟨lb,cC+V*2,η⟩=θ (.int .i64 a1):=λs=>(s.h.cell (p:=⟨lb,cC+V*2,η⟩) hlb).trans Ht;have f6:∀s:bf bF,s.w.cell? ⟨lb,cC+V*2+1,η⟩=θ (.int .i64 b1):=λs=>(s.h.cell (p:=⟨lb,cC+V*2+1,η⟩) hlb).trans Hu;have xS:=aa iu;refine wp_region_held bF (Below.refl _ _) (by kernel_rfl) (by kernel_rfl) ?_;(repeat (go_big_quiet_step ((go_at_call 119;exact mI (xR _)))));refine pq ?_;rintro _ ⟨s,rfl⟩;have j7:=xS.out.below s.h;generalize s.w=w3 at j7 ⊢;have cz:=j7.aQ;have r0:=j7.r0;have r1:=j7.r1;have r2:=j7.r2;have fz:=j7.fz;have lt:=j7.lt;go_wp2;refine cR (v:=rG (0,0,0) ο) (by simp[results,results93,go_sem,rG,r0,r1,r2]) rfl ⟨rfl,?_⟩;exact Hj cz (by omega) _ _ _
  |true=>
   (obtain⟨aoL,gM⟩:t0<=ht/\(hasB a1 b1 t0=ν/\hasB a1 b1 ht=ν):=by rw[Bool.and_eq_true,Bool.and_eq_true,kC]at hW;exact hW);(have aR:=aa (R8.out l hf rfl aoL (by rw[zJ];exact gM.1) (by rw[zJ];exact gM.2));rw[zK]at aR;refine⟨((fE:Int),ht+l.2.2.1,c0+l.2.2.2),λs' e=>(by rw[aR.out]at e;split at e<;>cases e;rfl),λw hG=>?_⟩;have gw:Hid ((ni g ((V:Int),t0,c0) ((E:Int),ht)).isSome=hasB a2 b2 (ht+l.2.2.1)):=by show _=_;rw[aR.out];cases hasB a2 b2 (ht+l.2.2.1)<;>rfl);rw[gw.out];have zL:=λW=>zG a2 b2 (ht+l.2.2.1) W;generalize hasB a2 b2 (ht+l.2.2.1)=aoM at*;have hw1:IntKind.i64.wrap (ht+l.2.2.1)=ht+l.2.2.1:=n6 _ (by omega) (by omega);have cc:IntKind.i64.wrap (c0+l.2.2.2)=c0+l.2.2.2:=n6 _ (by omega) (by omega);have xR:=λW=>aas a1 b1 t0 ht W;rw[hW]at xR;have qB:=aD.out w (.cells #[.int .i64 g.hor,.slice la g.lives.length lc,.slice ea g.af.length ec] 59) (.cells #[.int .i64 (V:Int),.int .i64 t0,.int .i64 c0] 148) (.cells #[.int .i64 (E:Int),.int .i64 ht] 103) (.cells #[.int .i64 0,.int .i64 0,.int .i64 0] 148);obtain⟨b,off,lo,cv,rfl,cp,xO,xP,rH,hL⟩:=zI.out _ (hG.below qB);have mJ:=λW (hb:Below _ _ W)=>Hg V fE lo cv aH ht W (hL.below hb) (by omega);simp only[hf]at mJ;unfold uA at mJ;simp only[Ω,gu]at mJ;go_enter GM,ntmps93;go_wp2_with fail;refine(mJ _ (ax _ _)).mono ?_;rintro r w1 ⟨rfl,aj⟩;have iu:=((LK w g la (θ ⟨b,off,η⟩) lo lc ec aH.length cv V t0 c0 E ht V fE 59 148 103 112).below aj).below (ax w1 (.cells #[.int .i64 l.1,.int .i64 l.2.1,.int .i64 l.2.2.1,.int .i64 l.2.2.2] 167));have Sd:(w1.alloc (.cells #[.int .i64 l.1,.int .i64 l.2.1,.int .i64 l.2.2.1,.int .i64 l.2.2.2] 167)).cell? ⟨w1.heap.size,2,η⟩=θ (.int .i64 l.2.2.1):=cx rfl rfl;have Se:(w1.alloc (.cells #[.int .i64 l.1,.int .i64 l.2.1,.int .i64 l.2.2.1,.int .i64 l.2.2.2] 167)).cell? ⟨w1.heap.size,3,η⟩=θ (.int .i64 l.2.2.2):=cx rfl rfl;(have Hs:w1.heap.size<(w1.alloc (.cells #[.int .i64 l.1,.int .i64 l.2.1,.int .i64 l.2.2.1,.int .i64 l.2.2.2] 167)).heap.size:=by simp);go_wp2_with fail;generalize w1.alloc (.cells #[.int .i64 l.1,.int .i64 l.2.1,.int .i64 l.2.2.1,.int .i64 l.2.2.2] 167)=bF at*;obtain⟨lb,cC,rfl,hlb,Ht,Hu⟩:=Sa.out bF (hG.below iu.aQ);have hne:Nonempty (bf bF):=⟨⟨bF,Below.refl _ _⟩⟩;have f0:∀s:bf bF,s.w.cell? ⟨w.heap.size,1,η⟩=θ (.slice (θ ⟨lb,cC,η⟩) g.lives.length lc):=λs=>(iu.below s.h).g1;have f1:∀s:bf bF,s.w.cell? ⟨w.heap.size+1,0,η⟩=θ (.int .i64 V):=λs=>(iu.below s.h).s0;have f2:∀s:bf bF,s.w.cell? ⟨w.heap.size+1,1,η⟩=θ (.int .i64 t0):=λs=>(iu.below s.h).s1;have f3:∀s:bf bF,s.w.cell? ⟨w.heap.size+1+1,1,η⟩=θ (.int .i64 ht):=λs=>(iu.below s.h).h1;have f4:∀s:bf bF,s.w.cell? ⟨w.heap.size+1+1+1+1,0,η⟩=θ (.int .i64 V):=λs=>(iu.below s.h).e0;have f5:∀s:bf bF,s.w.cell? ⟨lb,cC+V*2,η⟩=θ (.int .i64 a1):=λs=>(s.h.cell (p:=⟨lb,cC+V*2,η⟩) hlb).trans Ht;have f6:∀s:bf bF,s.w.cell? ⟨lb,cC+V*2+1,η⟩=θ (.int .i64 b1):=λs=>(s.h.cell (p:=⟨lb,cC+V*2+1,η⟩) hlb).trans Hu;have xS:=aa iu;have Hv:Hid (∀W,Below bF.heap.size bF W->W.cell? ⟨w1.heap.size,2,η⟩=θ (.int .i64 l.2.2.1)/\W.cell? ⟨w1.heap.size,3,η⟩=θ (.int .i64 l.2.2.2)/\w1.heap.size<W.heap.size):=λW hb=>⟨(hb.cell (p:=⟨w1.heap.size,2,η⟩) Hs).trans Sd,(hb.cell (p:=⟨w1.heap.size,3,η⟩) Hs).trans Se,Nat.lt_of_lt_of_le Hs hb.size⟩;have aoN:=aa (aaw.out bF (hG.below iu.aQ));refine wp_region_held bF (Below.refl _ _) (by kernel_rfl) (by kernel_rfl) ?_;(repeat (go_big_quiet_step ((go_at_call 119;exact mI (xR _)))));refine pq ?_;rintro _ ⟨s,rfl⟩;have j7:=xS.out.below s.h;obtain⟨q2,dR,aoO⟩:=Hv.out _ s.h;obtain⟨azN,azO,aax,Sf,aoP,aoQ⟩:=aoN.out;simp only[Γ,GV]at aax;obtain⟨rfl,rfl,_⟩:=aax;have x0:=(s.h.cell (p:=⟨lb,cC+fE*2,η⟩) Sf).trans aoP;have x1:=(s.h.cell (p:=⟨lb,cC+fE*2+1,η⟩) Sf).trans aoQ;have Sg:=Nat.lt_of_lt_of_le Sf s.h.size;generalize s.w=w3 at j7 q2 dR aoO x0 x1 Sg ⊢;have g1:=j7.g1;have s2:=j7.s2;have h1:=j7.h1;have e1:=j7.e1;have lt:=j7.lt;go_wp2_with fail;have aay:=j7.below (ax w3 (.cells #[.int .i64 fE,.int .i64 (ht+l.2.2.1),.int .i64 (c0+l.2.2.2)] 148));have Si:(w3.alloc (.cells #[.int .i64 (fE:Int),.int .i64 (ht+l.2.2.1),.int .i64 (c0+l.2.2.2)] 148)).cell? ⟨w3.heap.size,0,η⟩=θ (.int .i64 fE):=cx rfl rfl;have Sj:(w3.alloc (.cells #[.int .i64 (fE:Int),.int .i64 (ht+l.2.2.1),.int .i64 (c0+l.2.2.2)] 148)).cell? ⟨w3.heap.size,1,η⟩=θ (.int .i64 (ht+l.2.2.1)):=cx rfl rfl;have Sk:(w3.alloc (.cells #[.int .i64 (fE:Int),.int .i64 (ht+l.2.2.1),.int .i64 (c0+l.2.2.2)] 148)).cell? ⟨w3.heap.size,2,η⟩=θ (.int .i64 (c0+l.2.2.2)):=cx rfl rfl;have y0:=((ax w3 (.cells #[.int .i64 fE,.int .i64 (ht+l.2.2.1),.int .i64 (c0+l.2.2.2)] 148)).cell (p:=⟨lb,cC+fE*2,η⟩) Sg).trans x0;have y1:=((ax w3 (.cells #[.int .i64 fE,.int .i64 (ht+l.2.2.1),.int .i64 (c0+l.2.2.2)] 148)).cell (p:=⟨lb,cC+fE*2+1,η⟩) Sg).trans x1;(have aaz:lb<(w3.alloc (.cells #[.int .i64 (fE:Int),.int .i64 (ht+l.2.2.1),.int .i64 (c0+l.2.2.2)] 148)).heap.size:=by simp;omega);(have nj:w3.heap.size<(w3.alloc (.cells #[.int .i64 (fE:Int),.int .i64 (ht+l.2.2.1),.int .i64 (c0+l.2.2.2)] 148)).heap.size:=by simp);generalize w3.alloc (.cells #[.int .i64 (fE:Int),.int .i64 (ht+l.2.2.1),.int .i64 (c0+l.2.2.2)] 148)=xT at*;have azP:Nonempty (bf xT):=⟨⟨xT,Below.refl _ _⟩⟩;have f0:∀s:bf xT,s.w.cell? ⟨w.heap.size,1,η⟩=θ (.slice (θ ⟨lb,cC,η⟩) g.lives.length lc):=λs=>(aay.below s.h).g1;have f1:∀s:bf xT,s.w.cell? ⟨w3.heap.size,0,η⟩=θ (.int .i64 fE):=λs=>(s.h.cell (p:=⟨w3.heap.size,0,η⟩) nj).trans Si;have f2:∀s:bf xT,s.w.cell? ⟨w3.heap.size,1,η⟩=θ (.int .i64 (ht+l.2.2.1)):=λs=>(s.h.cell (p:=⟨w3.heap.size,1,η⟩) nj).trans Sj;have f3:∀s:bf xT,s.w.cell? ⟨w3.heap.size,2,η⟩=θ (.int .i64 (c0+l.2.2.2)):=λs=>(s.h.cell (p:=⟨w3.heap.size,2,η⟩) nj).trans Sk;have f5:∀s:bf xT,s.w.cell? ⟨lb,cC+fE*2,η⟩=θ (.int .i64 a2):=λs=>(s.h.cell (p:=⟨lb,cC+fE*2,η⟩) aaz).trans y0;have f6:∀s:bf xT,s.w.cell? ⟨lb,cC+fE*2+1,η⟩=θ (.int .i64 b2):=λs=>(s.h.cell (p:=⟨lb,cC+fE*2+1,η⟩) aaz).trans y1;have aoR:=aa aay;refine aou xT (Below.refl _ _) (by kernel_rfl) (by simp) (by kernel_rfl) (by kernel_rfl) (by kernel_rfl) (by kernel_rfl) (by kernel_rfl) ?_;simp only[List.pop_toArray,List.dropLast,List.back!_toArray,List.getLast!];(repeat (go_big_quiet_step ((go_at_call 92;exact mI (zL _)))));refine pq ?_;rintro _ ⟨s,rfl⟩;refine pE (λK hK=>?_);have Eg:=aoR.out.below s.h;have z0:=f1 s;have z1:=f2 s;have z2:=f3 s;generalize s.w=bW at*;have cz:=Eg.aQ;have r0:=Eg.r0;have r1:=Eg.r1;have r2:=Eg.r2;have fz:=Eg.fz;have lt:=Eg.lt;go_simp;refine hK.out _ _ ?_;refine pE (λK hK=>?_);go_simp;refine hK.out _ _ ?_;go_wp2;refine cR (v:=rG ((fE:Int),ht+l.2.2.1,c0+l.2.2.2) aoM) (by simp[results,results93,go_sem,rG,r0,r1,r2];done) rfl ⟨rfl,?_⟩;exact Hj cz (by omega) _ _ _
abbrev aaA:=Nat×Nat×Nat×Nat×Int
abbrev Sl:=List (List Int)
def aaB(T:Sl)(v t:Nat):Int:=(T.getD v []).getD t 0
def src(T:Sl)(a:aaA):Int:=aaB T a.1 a.2.1
def dst(T:Sl)(a:aaA):Int:=aaB T a.2.2.1 a.2.2.2.1
inductive ey (g:bg) (v0 t0:Int):Int->Int->Prop
 |base:bl t0 g.lives v0=ν->ey g v0 t0 v0 t0
 |wait {v t:Int}:ey g v0 t0 v t->bl (t+1) g.lives v=ν->ey g v0 t0 v (t+1)
 |kT {t:Int}{q:Int×Int} (i:Nat) (hi:i<g.af.length):ey g v0 t0 g.af[i].1 t->jJ g g.af[i] t=θ q->ey g v0 t0 g.af[i].2.1 q.1
theorem Eh(R:cQ g)(hi:i<g.af.length){q:Int×Int}(h:jJ g g.af[i] t=θ q):t<q.1/\bl t g.lives g.af[i].1=ν/\bl q.1 g.lives g.af[i].2.1=ν/\q.1<g.hor/\0<=q.2/\q.2<=1000:=by obtain⟨l,hl,k1,k2,bz,eB,sM,vU,R6⟩:=aao (xN:=q.1) (c:=q.2) h;have hf:=(xz _ _).1 (R.aH _ (List.getElem_mem hi) l hl);exact⟨by omega,sM,R6,vU,by omega,by omega⟩
theorem aaC{a b c:Int}(h1:bl a g.lives v=ν)(h2:bl c g.lives v=ν)(k1:a<=b)(k2:b<=c):bl b g.lives v=true:=by
 unfold bl cU at*;by_cases hv:v.toNat<g.lives.length
 .rw[List.getD_eq_getElem?_getD,List.getElem?_map,List.getElem?_eq_getElem hv]at*;have h1:=(nW _ _ _).1 (show hasB g.lives[v.toNat].1 g.lives[v.toNat].2 a=ν from h1);have h2:=(nW _ _ _).1 (show hasB g.lives[v.toNat].1 g.lives[v.toNat].2 c=ν from h2);exact(nW _ _ _).2 (by omega)
 .rw[List.getD_eq_getElem?_getD,List.getElem?_eq_none (by simpa using hv)]at h1;cases h1
theorem ey.src(h:ey g v0 t0 v t):bl t0 g.lives v0=true:=by
 induction h with
 |base h=>exact h
 |wait _ _ ih=>exact ih
 |kT _ _ _ _ ih=>exact ih
theorem ey.alive(R:cQ g)(h:ey g v0 t0 v t):bl t g.lives v=true:=by
 cases h with
 |base h=>exact h
 |wait _ h=>exact h
 |kT i hi _ h=>exact(Eh R hi h).2.2.1
theorem ey.le(R:cQ g)(h:ey g v0 t0 v t):t0<=t:=by
 induction h with
 |base h=>omega
 |wait _ _ ih=>omega
 |kT i hi _ h ih=>have:=(Eh R hi h).1;omega
theorem ey.trans{v1 t1:Int}(h:ey g v0 t0 v1 t1)(k:ey g v1 t1 v t):ey g v0 t0 v t:=by
 induction k with
 |base _=>exact h
 |wait _ k ih=>exact .wait ih k
 |kT i hi _ k ih=>exact .kT i hi ih k
theorem ey.stay(h:ey g v0 t0 v t)(ha:bl t g.lives v=ν):∀n:Nat,bl (t+n) g.lives v=ν->ey g v0 t0 v (t+n)
 |0,_=>by simpa using h
 |n+1,hn=>by have h1:bl (t+n) g.lives v=true:=aaC ha hn (by omega) (by omega);have h2:=(h.stay ha n h1).wait (by rw[show t+(n:Int)+1=t+((n+1:Nat):Int)by omega];exact hn);rw[show t+(n:Int)+1=t+((n+1:Nat):Int)by omega]at h2;exact h2
theorem ey.waits(R:cQ g){t':Int}(h:ey g v0 t0 v t)(ht:t<=t')(ha:bl t' g.lives v=ν):ey g v0 t0 v t':=by
 have e:t'=t+((t' -t).toNat:Int):=by omega
 rw[e]at ha ⊢;exact h.stay (h.alive R) _ ha
theorem ey.place(R:cQ g)(h0:0<=v0)(h:ey g v0 t0 v t):0<=v/\v<g.lives.length/\0<=t/\t<g.hor:=by
 have ha:=pL R (h.alive R);have:0<=v:=by
  clear ha;induction h with
  |base h=>exact h0
  |wait _ _ ih=>exact ih
  |kT i hi _ h ih=>exact(R.ends _ (List.getElem_mem hi)).2.1.1
 omega
abbrev b7:=Int×Int×Int×Int×Int×Int
def iD(g:bg)(d:Int):Nat->List b7
 |0=>[]
 |i+1=>iD g d i++
  match jJ g (g.af.getD i (0,0,[])) d with
  |none=>[]
  |some q=>[((i:Int),d,(g.af.getD i (0,0,[])).1,(g.af.getD i (0,0,[])).2.1,q.1,q.2)]
def n7(g:bg):Nat->List b7
 |0=>[]
 |k+1=>n7 g k++iD g (k:Int) g.af.length
def cq(g:bg):List b7:=n7 g g.hor.toNat
theorem aaD g d(i:Nat):(iD g d i).length<=i:=by
 induction i with
 |zero=>simp[iD]
 |succ i ih=>
  rw[iD,List.length_append];split<;>simp<;>omega
theorem LN g(k:Nat):(n7 g k).length<=k*g.af.length:=by
 induction k with
 |zero=>simp[n7]
 |succ k ih=>
  have:=aaD g (k:Int) g.af.length;rw[n7,List.length_append,Nat.succ_mul];omega
theorem BQ(hi:i<g.af.length):g.af.getD i (0,0,[])=g.af[i]:=by rw[List.getD_eq_getElem?_getD,List.getElem?_eq_getElem hi];rfl
theorem Hw{g:bg}{d:Int}{r:b7}:∀{i:Nat},i<=g.af.length->(r∈iD g d i↔∃(j:Nat) (hj:j<g.af.length) (q:Int×Int),j<i/\jJ g g.af[j] d=θ q/\r=((j:Int),d,g.af[j].1,g.af[j].2.1,q.1,q.2))
 |0,_=>by simp[iD]
 |i+1,hi=>by
  rw[iD,List.mem_append,Hw (by omega),BQ (show i<g.af.length by omega)];constructor
  .rintro(⟨j,hj,q,h1,h2⟩|h1)
   .exact⟨j,hj,q,by omega,h2⟩
   .split at h1
    .cases h1
    .rename_i q hq;rw[List.mem_singleton]at h1;exact⟨i,by omega,q,by omega,hq,h1⟩
  .rintro⟨j,hj,q,h1,h2,h3⟩;rcases Nat.lt_or_ge j i with h4|h4
   .exact .inl ⟨j,hj,q,h4,h2,h3⟩
   ·(have:j=i:=by omega);subst this;right;rw[h2,h3];simp
theorem LO{g:bg}{r:b7}:∀{k:Nat},r∈n7 g k↔∃j:Nat,j<k/\r∈iD g (j:Int) g.af.length
 |0=>by simp[n7]
 |k+1=>by
  rw[n7,List.mem_append,LO];constructor
  .rintro(⟨j,h1,h2⟩|h1)
   .exact⟨j,by omega,h2⟩
   .exact⟨k,by omega,h1⟩
  .rintro⟨j,h1,h2⟩;rcases Nat.lt_or_ge j k with h4|h4
   .exact .inl ⟨j,h4,h2⟩
   ·(have:j=k:=by omega);subst this;exact .inr h2
structure uC(g:bg)(r:b7):Prop where
 e0:0<=r.1/\r.1<g.af.length
 d0:0<=r.2.1
 a0:0<=r.2.2.1/\r.2.2.1<g.lives.length
 b0:0<=r.2.2.2.1/\r.2.2.2.1<g.lives.length
 lt:r.2.1<r.2.2.2.2.1
 hor:r.2.2.2.2.1<g.hor
 alA:bl r.2.1 g.lives r.2.2.1=ν
 alB:bl r.2.2.2.2.1 g.lives r.2.2.2.1=ν
 go:∀{v0 t0:Int},ey g v0 t0 r.2.2.1 r.2.1->ey g v0 t0 r.2.2.2.1 r.2.2.2.2.1
 hop:∀{t c:Int},t<=r.2.1->s6 g (r.2.2.1,t,c) (r.1,r.2.1)=θ (r.2.2.2.1,r.2.2.2.2.1,c+r.2.2.2.2.2)
 c0:0<=r.2.2.2.2.2/\r.2.2.2.2.2<=1000
 ln:jJ g (g.af.getD r.1.toNat (0,0,[])) r.2.1=θ (r.2.2.2.2.1,r.2.2.2.2.2)
 edA:(g.af.getD r.1.toNat (0,0,[])).1=r.2.2.1
 edB:(g.af.getD r.1.toNat (0,0,[])).2.1=r.2.2.2.1
theorem aoS(R:cQ g)(hj:j<g.af.length){d:Nat}{q:Int×Int}(hq:jJ g g.af[j] (d:Int)=θ q):uC g ((j:Int),(d:Int),g.af[j].1,g.af[j].2.1,q.1,q.2):=by
 obtain⟨h1,h2,h3,h4,_,_⟩:=Eh R hj hq;obtain⟨hA,hB,_⟩:=R.ends _ (List.getElem_mem hj);refine⟨⟨by simp only;omega,by simp only;omega⟩,by simp only;omega,hA,hB,h1,h4,h2,h3,λh=>.kT j hj h hq,λ{t c} ht=>?_,(Eh R hj hq).2.2.2.2,?_,?_,?_⟩
 .simp only at ht;unfold s6;rw[χ ((oI _ _ _).2 (by simp only;omega))];simp only[Int.toNat_natCast];rw[BQ hj,χ ⟨rfl,ht⟩,hq]
 .simp only[Int.toNat_natCast];rw[BQ hj];exact hq
 .simp only[Int.toNat_natCast];rw[BQ hj]
 .simp only[Int.toNat_natCast];rw[BQ hj]
theorem qC(R:cQ g){r:b7}(h:r∈cq g):uC g r:=by obtain⟨k,hk,h⟩:=LO.1 h;obtain⟨j,hj,q,_,hq,rfl⟩:=(Hw (Nat.le_refl _)).1 h;exact aoS R hj hq
theorem Sm(R:cQ g)(hj:j<g.af.length)(hd:0<=d){q:Int×Int}(hq:jJ g g.af[j] d=θ q):((j:Int),d,g.af[j].1,g.af[j].2.1,q.1,q.2)∈cq g:=by
 obtain⟨h1,h2,h3,h4,_,_⟩:=Eh R hj hq;refine LO.2 ⟨d.toNat,by omega,(Hw (Nat.le_refl _)).2 ⟨j,hj,q,hj,?_,?_⟩⟩
 .rw[show ((d.toNat:Nat):Int)=d by omega];exact hq
 .rw[show ((d.toNat:Nat):Int)=d by omega]
theorem LP g:∀k:Nat,(n7 g k).Pairwise λa b=>a.2.1<=b.2.1
 |0=>by simp[n7]
 |k+1=>by
  have hd:∀a∈iD g (k:Int) g.af.length,a.2.1=(k:Int):=λa ha=>by obtain⟨j,hj,q,_,_,rfl⟩:=(Hw (Nat.le_refl _)).1 ha;rfl
  rw[n7,List.pairwise_append];refine⟨LP g k,?_,?_⟩
  .exact List.pairwise_of_forall_mem_list λa ha b hb=>by rw[hd a ha,hd b hb];omega
  .intro a ha b hb;obtain⟨j,h1,h2⟩:=LO.1 ha;obtain⟨i,hi,q,_,_,rfl⟩:=(Hw (Nat.le_refl _)).1 h2;rw[hd b hb];simp only;omega
def mK(T:List Int)(r:b7):List Int:=if T.getD r.2.2.1.toNat 0<=r.2.1/\r.2.2.2.2.1<T.getD r.2.2.2.1.toNat 0 then T.set r.2.2.2.1.toNat r.2.2.2.2.1 else T
def pM(T:List Int)(L:List b7)(r:b7):List b7:=if T.getD r.2.2.1.toNat 0<=r.2.1/\r.2.2.2.2.1<T.getD r.2.2.2.1.toNat 0 then L.set r.2.2.2.1.toNat r else L
def eM(s:List Int×List b7)(l:List b7):List Int×List b7:=l.foldl (λs r=>(mK s.1 r,pM s.1 s.2 r)) s
theorem aoT s:eM s []=s:=rfl
theorem Hx s(r:b7)(l:List b7):eM s (r::l)=eM (mK s.1 r,pM s.1 s.2 r) l:=rfl
theorem aoU s(a b:List b7):eM s (a++b)=eM (eM s a) b:=by unfold eM;rw[List.foldl_append]
theorem aoV{s:List Int×List b7}{l:List b7}(hk:k<l.length):eM s (l.take (k+1))=(mK (eM s (l.take k)).1 l[k],pM (eM s (l.take k)).1 (eM s (l.take k)).2 l[k]):=by unfold eM;rw[List.take_succ_eq_append_getElem hk,List.foldl_append];rfl
theorem aoW T r:(mK T r).length=T.length:=by unfold mK;split<;>simp
theorem aoX T L r:(pM T L r).length=L.length:=by unfold pM;split<;>simp
theorem aaE l:∀s:List Int×List b7,(eM s l).1.length=s.1.length/\(eM s l).2.length=s.2.length:=by
 induction l with
 |nil=>intro s;exact⟨rfl,rfl⟩
 |cons r l ih=>intro s;rw[Hx];have:=ih (mK s.1 r,pM s.1 s.2 r);simp only[aoW,aoX]at this;exact this
theorem pO(T:List Int)(i j:Nat)x(h:i<T.length):(T.set i x).getD j 0=if j=i then x else T.getD j 0:=by
 simp only[List.getD_eq_getElem?_getD,List.getElem?_set];by_cases e:i=j
 .subst e;simp[h]
 .have:¬j=i:=λh=>e h.symm;simp[e,this]
theorem aaF(T:List b7)(i j:Nat)x d(h:i<T.length):(T.set i x).getD j d=if j=i then x else T.getD j d:=by
 simp only[List.getD_eq_getElem?_getD,List.getElem?_set];by_cases e:i=j
 .subst e;simp[h]
 .have:¬j=i:=λh=>e h.symm;simp[e,this]
theorem aoY T r v:(mK T r).getD v 0<=T.getD v 0:=by
 unfold mK;split
 .rename_i h;by_cases hl:r.2.2.2.1.toNat<T.length
  .rw[pO _ _ _ _ hl];split
   .rename_i e;rw[e];omega
   .omega
  .rw[List.set_eq_of_length_le (by omega)];omega
 .omega
theorem aaG l v:∀s:List Int×List b7,(eM s l).1.getD v 0<=s.1.getD v 0:=by
 induction l with
 |nil=>intro s;rw[aoT];omega
 |cons r l ih=>intro s;rw[Hx];have h1:=ih (mK s.1 r,pM s.1 s.2 r);have h2:=aoY s.1 r v;simp only at h1;omega
theorem aaH(t:Int)v:∀(l:List b7) (s:List Int×List b7),(∀r∈l,t<=r.2.1/\r.2.1<r.2.2.2.2.1)->(eM s l).1.getD v 0<=t->s.1.getD v 0<=t
 |[],s,_,h=>h
 |r::l,s,hl,h=>by
  rw[Hx]at h;have h1:=aaH t v l _ (λx hx=>hl x (by simp[hx])) h;have h2:=hl r (by simp);simp only[mK]at h1;split at h1
  .by_cases hlen:r.2.2.2.1.toNat<s.1.length
   .rw[pO _ _ _ _ hlen]at h1;split at h1
    .omega
    .exact h1
   .rw[List.set_eq_of_length_le (by omega)]at h1;exact h1
  .exact h1
def fF(g:bg)(v t:Int):List Int×List b7:=((List.replicate g.lives.length (1099511627776:Int)).set v.toNat t,List.replicate g.lives.length (0,0,0,0,0,0))
def mL(g:bg)(v t:Int):List Int×List b7:=
 if bl t g.lives v=ν then eM (fF g v t) (cq g)else(List.replicate g.lives.length 1099511627776,List.replicate g.lives.length (0,0,0,0,0,0))
theorem aaI g v t:(mL g v t).1.length=g.lives.length/\(mL g v t).2.length=g.lives.length:=by
 unfold mL;split
 .have:=aaE (cq g) (fF g v t);simpa[fF]using this
 .simp
theorem LQ(n:Nat)(x:Int)(v:Nat)(hv:v<n):(List.replicate n x).getD v 0=x:=by simp[List.getD_eq_getElem?_getD,hv]
structure vV(g:bg)(v0 t0:Int)(s:List Int×List b7):Prop where
 len:s.1.length=g.lives.length
 agm:s.2.length=g.lives.length
 at0:s.1.getD v0.toNat 0=t0
 is:∀v:Nat,v<g.lives.length->s.1.getD v 0=1099511627776\/ey g v0 t0 (v:Int) (s.1.getD v 0)
 way:∀v:Nat,v<g.lives.length->s.1.getD v 0≠1099511627776->(v:Int)≠v0->uC g (s.2.getD v (0,0,0,0,0,0))/\(s.2.getD v (0,0,0,0,0,0)).2.2.2.1=(v:Int)/\(s.2.getD v (0,0,0,0,0,0)).2.2.2.2.1=s.1.getD v 0/\s.1.getD (s.2.getD v (0,0,0,0,0,0)).2.2.1.toNat 0<=(s.2.getD v (0,0,0,0,0,0)).2.1
theorem aaJ(R:cQ g)(h0:0<=v)(ha:bl t g.lives v=ν):vV g v t (fF g v t):=by
 have hv:=pL R ha;have hg:∀x:Nat,x<g.lives.length->(fF g v t).1.getD x 0=if x=v.toNat then t else 1099511627776:=λx hx=>by unfold fF;simp only;rw[pO _ _ _ _ (by simpa using hv.1),LQ _ _ _ hx]
 refine⟨by simp[fF],by simp[fF],by rw[hg _ hv.1,χ rfl],λx hx=>?_,λx hx h1 h2=>?_⟩
 .rw[hg _ hx];split
  .rename_i e;right;rw[e,show ((v.toNat:Nat):Int)=v by omega];exact .base ha
  .exact .inl rfl
 .rw[hg _ hx]at h1;rw[ς (by omega)]at h1;exact absurd rfl h1
theorem vV.step{g:bg}(R:cQ g){v0 t0:Int}{s:List Int×List b7}(h0:0<=v0)(h:vV g v0 t0 s){r:b7}(hr:uC g r):vV g v0 t0 (mK s.1 r,pM s.1 s.2 r):=by
 by_cases hc:s.1.getD r.2.2.1.toNat 0<=r.2.1/\r.2.2.2.2.1<s.1.getD r.2.2.2.1.toNat 0
 .obtain⟨c1,c2⟩:=hc;have Sn:mK s.1 r=s.1.set r.2.2.2.1.toNat r.2.2.2.2.1:=by unfold mK;rw[χ ⟨c1,c2⟩]
  have Sp:pM s.1 s.2 r=s.2.set r.2.2.2.1.toNat r:=by unfold pM;rw[χ ⟨c1,c2⟩]
  rw[Sn,Sp];have hb:r.2.2.2.1.toNat<s.1.length:=by rw[h.len];have:=hr.b0;omega
  have hbL:r.2.2.2.1.toNat<s.2.length:=by rw[h.agm];have:=hr.b0;omega
  have ha:r.2.2.1.toNat<g.lives.length:=by have:=hr.a0;omega
  have hor:=hr.hor;have hh:=R.hor;have hlt:=hr.lt;have hR:ey g v0 t0 r.2.2.1 r.2.1:=by
   rcases h.is _ ha with e|e
   .omega
   .rw[show ((r.2.2.1.toNat:Nat):Int)=r.2.2.1 by have:=hr.a0;omega]at e;exact e.waits R c1 hr.alA
  have LR:=hr.go hR;have hb0:=hr.b0;have hge:∀x:Nat,x<g.lives.length->t0<=s.1.getD x 0:=λx hx=>by
   rcases h.is x hx with e|e
   .rw[e];have:=(hR.le R);have:=(hR.place R h0).2.2;omega
   .exact e.le R
  refine⟨by rw[List.length_set];exact h.len,by rw[List.length_set];exact h.agm,?_,λx hx=>?_,λx hx k1 k2=>?_⟩
  .simp only;rw[pO _ _ _ _ hb];split
   .rename_i e;have h1:=h.at0;rw[e]at h1;have h2:=LR.le R;omega
   .exact h.at0
  .simp only;rw[pO _ _ _ _ hb];split
   .rename_i e;right;rw[e,show ((r.2.2.2.1.toNat:Nat):Int)=r.2.2.2.1 by omega];exact LR
   .exact h.is x hx
  .simp only at k1 ⊢;have hgt:∀y:Nat,(s.1.set r.2.2.2.1.toNat r.2.2.2.2.1).getD y 0<=s.1.getD y 0:=λy=>by
    rw[pO _ _ _ _ hb];split
    .rename_i e;rw[e];omega
    .omega
   by_cases e:x=r.2.2.2.1.toNat
   ·(have Sq:(s.2.set r.2.2.2.1.toNat r).getD x (0,0,0,0,0,0)=r:=by rw[aaF _ _ _ _ _ hbL,χ e]);(have LS:(s.1.set r.2.2.2.1.toNat r.2.2.2.2.1).getD x 0=r.2.2.2.2.1:=by rw[pO _ _ _ _ hb,χ e]);rw[Sq,LS];exact⟨hr,by omega,rfl,Int.le_trans (hgt _) c1⟩
   ·(have Sq:(s.2.set r.2.2.2.1.toNat r).getD x (0,0,0,0,0,0)=s.2.getD x (0,0,0,0,0,0):=by rw[aaF _ _ _ _ _ hbL,ς e]);(have LS:(s.1.set r.2.2.2.1.toNat r.2.2.2.2.1).getD x 0=s.1.getD x 0:=by rw[pO _ _ _ _ hb,ς e]);rw[LS]at k1;rw[Sq,LS];obtain⟨q1,q2,dR,iH⟩:=h.way x hx k1 k2;exact⟨q1,q2,dR,Int.le_trans (hgt _) iH⟩
 .have Sn:mK s.1 r=s.1:=by unfold mK;rw[ς hc]
  have Sp:pM s.1 s.2 r=s.2:=by unfold pM;rw[ς hc]
  rw[Sn,Sp];exact h
theorem vV.go{g:bg}(R:cQ g){v0 t0:Int}(h0:0<=v0):∀(l:List b7) (s:List Int×List b7),(∀r∈l,uC g r)->vV g v0 t0 s->vV g v0 t0 (eM s l)
 |[],s,_,h=>h
 |r::l,s,hl,h=>by rw[Hx];exact vV.go R h0 l _ (λx hx=>hl x (by simp[hx])) (h.step R h0 (hl r (by simp)))
theorem aoZ(R:cQ g)(h0:0<=v0)(h:ey g v0 t0 v t):(eM (fF g v0 t0) (cq g)).1.getD v.toNat 0<=t:=by
 induction h with
 |base ha=>
  have:=(aaJ R h0 ha).at0;have:=aaG (cq g) v0.toNat (fF g v0 t0);omega
 |wait _ _ ih=>omega
 |@kT t q i hi h hq ih=>
  have hp:=h.place R h0;obtain⟨A,B,zK⟩:=List.append_of_mem (Sm R hi hp.2.2.1 hq);have hs:(cq g).Pairwise λa b=>a.2.1<=b.2.1:=LP g _;have hok:∀r∈cq g,uC g r:=λr hr=>qC R hr;rw[zK]at hs hok;rw[zK,aoU]at ih ⊢;have hs2:=(List.pairwise_append.1 hs).2.1;have h1:=aaH t _ _ _ (λr hr=>by
   refine⟨?_,(hok r (by simp only[List.mem_append];exact .inr hr)).lt⟩;rcases List.mem_cons.1 hr with rfl|hr
   .exact Int.le_refl _
   .exact(List.pairwise_cons.1 hs2).1 r hr) ih
  rw[Hx];have h2:=aaG B g.af[i].2.1.toNat (mK (eM (fF g v0 t0) A).1 ((i:Int),t,g.af[i].1,g.af[i].2.1,q.1,q.2),pM (eM (fF g v0 t0) A).1 (eM (fF g v0 t0) A).2 ((i:Int),t,g.af[i].1,g.af[i].2.1,q.1,q.2));refine Int.le_trans h2 ?_;simp only[mK];have hb:g.af[i].2.1.toNat<(eM (fF g v0 t0) A).1.length:=by rw[(aaE A _).1];have:=(R.ends _ (List.getElem_mem hi)).2.1;simp[fF];omega
  split
  .rw[pO _ _ _ _ hb,χ rfl];omega
  .rename_i hn;have:=λk=>hn ⟨h1,k⟩;omega
theorem ao0(R:cQ g)(h0:0<=v)(ha:bl t g.lives v=ν):vV g v t (mL g v t)/\∀x y,ey g v t x y->(mL g v t).1.getD x.toNat 0<=y:=by
 have e:mL g v t=eM (fF g v t) (cq g):=by unfold mL;rw[χ ha]
 rw[e];exact⟨vV.go R h0 _ _ (λr hr=>qC R hr) (aaJ R h0 ha),λx y h=>aoZ R h0 h⟩
theorem ao1(ha:¬bl t g.lives v=ν):(mL g v t).1=List.replicate g.lives.length 1099511627776:=by unfold mL;rw[ς ha]
def nj(T:List Int)(r:b7):List Int:=if r.2.2.2.2.1<=T.getD r.2.2.2.1.toNat 0 then T.set r.2.2.1.toNat (max (T.getD r.2.2.1.toNat 0) r.2.1)else T
def gW(T:List Int)(l:List b7):List Int:=l.foldl nj T
theorem Hy T(r:b7)(l:List b7):gW T (r::l)=gW (nj T r) l:=rfl
theorem ao2 T(a b:List b7):gW T (a++b)=gW (gW T a) b:=by unfold gW;rw[List.foldl_append]
theorem ao3 T r:(nj T r).length=T.length:=by unfold nj;split<;>simp
theorem aaK l:∀T:List Int,(gW T l).length=T.length:=by
 induction l with
 |nil=>intro T;rfl
 |cons r l ih=>intro T;rw[Hy,ih,ao3]
theorem ao4(T:List Int)r v:T.getD v 0<=(nj T r).getD v 0:=by
 unfold nj;split
 .by_cases hl:r.2.2.1.toNat<T.length
  .rw[pO _ _ _ _ hl];split
   .rename_i e;rw[e];omega
   .omega
  .rw[List.set_eq_of_length_le (by omega)];omega
 .omega
theorem aaL l v:∀T:List Int,T.getD v 0<=(gW T l).getD v 0:=by
 induction l with
 |nil=>intro T;exact Int.le_refl _
 |cons r l ih=>intro T;rw[Hy];have h1:=ih (nj T r);have h2:=ao4 T r v;omega
theorem aaM(t:Int)v:∀(l:List b7) (T:List Int),(∀r∈l,r.2.1<t)->t<=(gW T l).getD v 0->t<=T.getD v 0
 |[],T,_,h=>h
 |r::l,T,hl,h=>by
  rw[Hy]at h;have h1:=aaM t v l _ (λx hx=>hl x (by simp[hx])) h;have h2:=hl r (by simp);simp only[nj]at h1;split at h1
  .by_cases hlen:r.2.2.1.toNat<T.length
   .rw[pO _ _ _ _ hlen]at h1;split at h1
    .rename_i e;rw[e];omega
    .exact h1
   .rw[List.set_eq_of_length_le (by omega)]at h1;exact h1
  .exact h1
def j8(g:bg)(q d:Int):List Int:=(List.replicate g.lives.length (-1:Int)).set q.toNat d
def oP(g:bg)(q d:Int):List Int:=if bl d g.lives q=ν then gW (j8 g q d) (cq g).reverse else List.replicate g.lives.length (-1)
theorem aaN g q d:(oP g q d).length=g.lives.length:=by
 unfold oP;split
 .rw[aaK];simp[j8]
 .simp
structure vW(g:bg)(q d:Int)(T:List Int):Prop where
 len:T.length=g.lives.length
 is:∀v:Nat,v<g.lives.length->T.getD v 0= -1\/ey g (v:Int) (T.getD v 0) q d
theorem aaO{q:Int}(hq:q.toNat<g.lives.length)(x:Nat)(hx:x<g.lives.length):(j8 g q d).getD x 0=if x=q.toNat then d else -1:=by unfold j8;rw[pO _ _ _ _ (by simpa using hq),LQ _ _ _ hx]
theorem ao5(R:cQ g){q:Int}(h0:0<=q)(ha:bl d g.lives q=ν):vW g q d (j8 g q d):=by
 have hv:=pL R ha;refine⟨by simp[j8],λx hx=>?_⟩;rw[aaO hv.1 x hx];split
 .rename_i e;right;rw[e,show ((q.toNat:Nat):Int)=q by omega];exact .base ha
 .exact .inl rfl
theorem vW.step{g:bg}(R:cQ g){q d:Int}{T:List Int}(h:vW g q d T){r:b7}(hr:uC g r):vW g q d (nj T r):=by
 unfold nj;split
 .rename_i c;have ha0:=hr.a0;have hb0:=hr.b0;have hlt:=hr.lt;have Bn:=hr.d0;have ha:r.2.2.1.toNat<T.length:=by rw[h.len];omega
  refine⟨by rw[List.length_set];exact h.len,λx hx=>?_⟩;rw[pO _ _ _ _ ha];split
  .rename_i e;have hR:ey g r.2.2.1 r.2.1 q d:=by
    rcases h.is r.2.2.2.1.toNat (by omega)with e2|e2
    .omega
    .rw[show ((r.2.2.2.1.toNat:Nat):Int)=r.2.2.2.1 by omega]at e2;exact((hr.go (.base hr.alA)).waits R c e2.src).trans e2
   rw[e,show ((r.2.2.1.toNat:Nat):Int)=r.2.2.1 by omega];right;rcases Int.le_total (T.getD r.2.2.1.toNat 0) r.2.1 with k|k
   .rw[Int.max_eq_right k];exact hR
   .rw[Int.max_eq_left k];rcases h.is r.2.2.1.toNat (by omega)with e2|e2
    .omega
    .rw[show ((r.2.2.1.toNat:Nat):Int)=r.2.2.1 by omega]at e2;exact e2
  .exact h.is x hx
 .exact h
theorem vW.go{g:bg}(R:cQ g){q d:Int}:∀(l:List b7) (T:List Int),(∀r∈l,uC g r)->vW g q d T->vW g q d (gW T l)
 |[],T,_,h=>h
 |r::l,T,hl,h=>by rw[Hy];exact vW.go R l _ (λx hx=>hl x (by simp[hx])) (h.step R (hl r (by simp)))
theorem ao6(R:cQ g)(T0:List Int)(hT:T0.length=g.lives.length){r:b7}(hr:r∈cq g)(h:r.2.2.2.2.1<=(gW T0 (cq g).reverse).getD r.2.2.2.1.toNat 0):r.2.1<=(gW T0 (cq g).reverse).getD r.2.2.1.toNat 0:=by
 have aaP:=qC R hr;obtain⟨A,B,zK⟩:=List.append_of_mem hr;have hs:(cq g).Pairwise λa b=>a.2.1<=b.2.1:=LP g _;have hrev:(cq g).reverse=B.reverse++r::A.reverse:=by rw[zK];simp
 rw[zK]at hs;rw[hrev,ao2]at h ⊢;have hA:=(List.pairwise_append.1 hs).2.2;have hlt:=aaP.lt;have h1:=aaM r.2.2.2.2.1 _ _ _ (λx hx=>by
  rcases List.mem_cons.1 hx with rfl|hx
  .exact hlt
  .have:=hA x (List.mem_reverse.1 hx) r (by simp);omega) h
 rw[Hy];refine Int.le_trans ?_ (aaL A.reverse _ _);have ha:r.2.2.1.toNat<(gW T0 B.reverse).length:=by rw[aaK,hT];have:=aaP.a0;omega
 unfold nj;rw[χ h1,pO _ _ _ _ ha,χ rfl];omega
theorem ao7(R:cQ g){q:Int}(h0:0<=q)(ha:bl d g.lives q=ν):vW g q d (oP g q d)/\∀x y,0<=x->ey g x y q d->y<=(oP g q d).getD x.toNat 0:=by
 have hv:=pL R ha;have e:oP g q d=gW (j8 g q d) (cq g).reverse:=by unfold oP;rw[χ ha]
 rw[e];refine⟨vW.go R _ _ (λr hr=>qC R (List.mem_reverse.1 hr)) (ao5 R h0 ha),λx y hx h=>?_⟩;have key:∀v t,ey g x y v t->t<=(gW (j8 g q d) (cq g).reverse).getD v.toNat 0->y<=(gW (j8 g q d) (cq g).reverse).getD x.toNat 0:=by
  intro v t h;induction h with
  |base _=>exact id
  |wait _ _ ih=>exact λh=>ih (by omega)
  |@kT t q' i hi h hq ih=>
   intro h2;have hp:=h.place R hx;exact ih (ao6 R _ (by simp[j8]) (Sm R hi hp.2.2.1 hq) h2)
 refine key q d h ?_;have h1:=aaO (d:=d) hv.1 q.toNat hv.1;rw[χ rfl]at h1;have:=aaL (cq g).reverse q.toNat (j8 g q d);omega
theorem ao8{q:Int}(ha:¬bl d g.lives q=ν):oP g q d=List.replicate g.lives.length (-1):=by unfold oP;rw[ς ha]
def edB(g:bg)(h:zE):Int:=(g.af.getD h.1.toNat (0,0,[])).2.1
variable{pr:b7->Int}
theorem Tryz.aaQ:(ah.info? 140).map (λi=>(i.zero,i.size,i.bytes))=θ (θ (.agg #[.int .i64 0,.int .i64 0,.int .i64 0,.int .i64 0,.int .i64 0,.int .i64 0]),6,48):=by kernel_rfl
theorem aaR{p:Prop}(h:Hid p):p:=h
def Hz(c:b7):List Value:=[.int .i64 c.1,.int .i64 c.2.1,.int .i64 c.2.2.1,.int .i64 c.2.2.2.1,.int .i64 c.2.2.2.2.1,.int .i64 c.2.2.2.2.2]
def eN(l:List b7):List Value:=l.flatMap Hz
theorem ao9 a b:eN (a++b)=eN a++eN b:=by simp[eN]
theorem HA l:(eN l).length=l.length*6:=by
 induction l with
 |nil=>rfl
 |cons c l ih=>simp only[eN,List.flatMap_cons,List.length_append,List.length_cons]at ih ⊢;rw[ih];simp[Hz];omega
def qD:b7:=(0,0,0,0,0,0)
theorem Sr l j(h:j<l.length):(eN l)[j*6]?=θ (.int .i64 (l.getD j qD).1)/\(eN l)[j*6+1]?=θ (.int .i64 (l.getD j qD).2.1)/\(eN l)[j*6+2]?=θ (.int .i64 (l.getD j qD).2.2.1)/\(eN l)[j*6+3]?=θ (.int .i64 (l.getD j qD).2.2.2.1)/\(eN l)[j*6+4]?=θ (.int .i64 (l.getD j qD).2.2.2.2.1)/\(eN l)[j*6+5]?=θ (.int .i64 (l.getD j qD).2.2.2.2.2):=by
 induction l generalizing j with
 |nil=>simp at h
 |cons c l ih=>
  have e:eN (c::l)=.int .i64 c.1::.int .i64 c.2.1::.int .i64 c.2.2.1::.int .i64 c.2.2.2.1::.int .i64 c.2.2.2.2.1::.int .i64 c.2.2.2.2.2::eN l:=by simp[eN,Hz]
  rw[e];cases j with
  |zero=>exact⟨rfl,rfl,rfl,rfl,rfl,rfl⟩
  |succ j=>
   have:=ih j (by simpa using h);rw[show (j+1)*6=j*6+1+1+1+1+1+1 by omega];simpa using this
structure xU(w:υ)(b o:Nat)(r:b7):Prop where
 c0:w.cell? ⟨b,o,η⟩=θ (.int .i64 r.1)
 c1:w.cell? ⟨b,o+1,η⟩=θ (.int .i64 r.2.1)
 c2:w.cell? ⟨b,o+2,η⟩=θ (.int .i64 r.2.2.1)
 c3:w.cell? ⟨b,o+3,η⟩=θ (.int .i64 r.2.2.2.1)
 c4:w.cell? ⟨b,o+4,η⟩=θ (.int .i64 r.2.2.2.2.1)
 c5:w.cell? ⟨b,o+5,η⟩=θ (.int .i64 r.2.2.2.2.2)
def apa(w:υ)(ao:Option bP)(l:List b7):Prop:=
 l=[]\/∃b off,ao=θ ⟨b,off,η⟩/\b<w.heap.size/\∀j,j<l.length->xU w b (off+j*6) (l.getD j qD)
theorem aaS{base}{v}{l}(h:w.ownsRow base e 6 v n (eN l)):∃ao cap,v=.slice ao l.length cap/\apa w ao l:=by
 obtain⟨h1,h2⟩:=h;simp only[HA]at h1;have hn:n=l.length:=by omega
 subst hn;rcases h2 with⟨rfl,h0⟩|⟨g,cap,cur,rfl,hb,hh,h3,h4,h5,h6⟩
 .exact⟨η,0,by rw[h0],.inl (List.eq_nil_of_length_eq_zero h0)⟩
 .have hown:w.ownsRow base e 6 (.slice (θ ⟨g,0,η⟩) l.length cap) l.length (eN l):=⟨by simp[HA],.inr ⟨g,cap,cur,rfl,hb,hh,h3,h4,h5,h6⟩⟩;refine⟨_,cap,rfl,.inr ⟨g,0,rfl,(ξ.1 hh).1,λj hj=>?_⟩⟩;obtain⟨f0,f1,f2,f3,f4,f5⟩:=Sr l j hj;refine⟨?_,?_,?_,?_,?_,?_⟩
  .rw[Nat.zero_add,hown.cellAt (j*6) (by omega)];exact f0
  .rw[Nat.zero_add,hown.cellAt (j*6+1) (by omega)];exact f1
  .rw[Nat.zero_add,hown.cellAt (j*6+2) (by omega)];exact f2
  .rw[Nat.zero_add,hown.cellAt (j*6+3) (by omega)];exact f3
  .rw[Nat.zero_add,hown.cellAt (j*6+4) (by omega)];exact f4
  .rw[Nat.zero_add,hown.cellAt (j*6+5) (by omega)];exact f5
theorem apb(w:υ)B (t:Θ)x y z u v s(hB:B=w.heap.size):∀j q,[x,y,z,u,v,s][j]?=θ q->(w.alloc (.cells #[x,y,z,u,v,s] t)).cell? ((⟨B,0,η⟩:bP).add j)=θ q:=by
 subst hB;intro j q hj
 match j,hj with
 |0,hj=>simp at hj;subst hj;simp[jT]
 |1,hj=>simp at hj;subst hj;simp[jT]
 |2,hj=>simp at hj;subst hj;simp[jT]
 |3,hj=>simp at hj;subst hj;simp[jT]
 |4,hj=>simp at hj;subst hj;simp[jT]
 |5,hj=>simp at hj;subst hj;simp[jT]
theorem apc(R:cQ g)(hj:j<g.af.length)d:ni g (g.af[j].1,d,0) ((j:Int),d)=(jJ g g.af[j] d).map λq=>(g.af[j].2.1,q.1,q.2):=by
 rw[R7 (h:=((j:Int),d)) rfl hj];cases hl:jJ g g.af[j] d with
 |none=>split<;>simp
 |some q=>rw[χ ⟨(Eh R hj hl).2.1,rfl,by simp only;omega⟩];simp
theorem apd(hj:j<g.af.length)(h:jJ g g.af[j] d=η):iD g d (j+1)=iD g d j:=by rw[iD,BQ hj,h];simp
theorem ape(hj:j<g.af.length){q}(h:jJ g g.af[j] d=θ q):iD g d (j+1)=iD g d j++[((j:Int),d,g.af[j].1,g.af[j].2.1,q.1,q.2)]:=by rw[iD,BQ hj,h]
theorem Ss g la ea lc ec w(hG:cL w la ea g)(hR:cQ g):Ξ ah 114 #[.agg #[.int .i64 g.hor,.slice la g.lives.length lc,.slice ea g.af.length ec]] w λr w'=>∃u,r=.returned u/\w'.ownsRow w.heap.size 140 6 u (cq g).length (eN (cq g))/\Below w.heap.size w w':=by
 obtain⟨i0,hi,cg,hz1,bX⟩:=er Tryz.aaQ;obtain⟨w1,hw1⟩:∃x,x=w.alloc (.cells #[.int .i64 g.hor,.slice la g.lives.length lc,.slice ea g.af.length ec] 59):=⟨_,rfl⟩;have aA:kR w w1 w.heap.size g la ea lc ec:=by rw[hw1];exact qA w g la ea lc ec 59
 have Ho:=hR.hor;have jE:=hR.qm;have eO:=aa hR;have cH:=aa hG;have aS:=aa aA;have g0:=aA.c0;have g2:=aA.c2;have cY:=hw1.symm;have hH:Hid (cq g=n7 g g.hor.toNat):=rfl;clear hR hG aA hw1;go_enter alc,ntmps114;go_wp2_with fail;go_loopw [3,12] (λu d wr=>∃k:Nat,(k:Int)<=g.hor/\d=.int .i64 (k:Int)/\wr.ownsRow w1.heap.size 140 6 u (n7 g k).length (eN (n7 g k))/\Below w1.heap.size w1 wr) (λ_ d _=>(g.hor-intOf d).toNat)
 case atStart=>exact⟨0,by omega,by simp,dJ _ _ _ _,Below.refl _ _⟩
 case round=>
  obtain⟨k,hk,rfl,hown,hb⟩:=hrel;have eW:=aS.out.below hb;have g0:=eW.c0;have g2:=eW.c2;have hol:=LN g k;have apf:k<=100:=by omega
  have apg :(n7 g k).length<=3000:=Nat.le_trans hol (Nat.le_trans (Nat.mul_le_mul apf jE) (by omega));by_cases hlt:(k:Int)<g.hor
  .obtain⟨out,hout⟩:∃o,o=n7 g k:=⟨_,rfl⟩;rw[<-hout]at hown apg;(have aph:Hid (n7 g (k+1)=out++iD g (k:Int) g.af.length):=by show _=_;rw[hout];rfl);obtain⟨mG,ux⟩:∃x,x=wr:=⟨_,rfl⟩;(have dL:mG.ownsRow w1.heap.size 140 6 u3 out.length (eN out):=by rw[ux];exact hown);(have aaT:Below w1.heap.size w1 mG:=by rw[ux];exact hb);rw[<-ux]at g0 g2 ⊢;clear hown hb ux eW;have api :IntKind.i64.wrap ((k:Int)+1)=(k:Int)+1:=n6 _ (by omega) (by omega);go_wp2_with fail;go_loopw [3,18] (λu i wr=>∃j:Nat,j<=g.af.length/\i=.int .i64 j/\wr.ownsRow w1.heap.size 140 6 u (out++iD g (k:Int) j).length (eN (out++iD g (k:Int) j))/\Below w1.heap.size w1 wr) (λ_ i _=>g.af.length-(intOf i).toNat)
   case atStart=>exact⟨0,Nat.zero_le _,rfl,by simpa[iD]using dL,aaT⟩
   case round=>
    clear dL aaT g0 g2;obtain⟨j,hj,rfl,hown,hb⟩:=hrel;have eW:=aS.out.below hb;have Dw:=aaD g (k:Int) j;by_cases hjl:j<g.af.length
    .obtain⟨b,off,lo,cv,rfl,cp,e0,e1,e2,_⟩:∃b off lo cv,ea=θ ⟨b,off,η⟩/\b<wr.heap.size/\wr.cell? ⟨b,off+j*3,η⟩=θ (.int .i64 g.af[j].1)/\wr.cell? ⟨b,off+j*3+1,η⟩=θ (.int .i64 g.af[j].2.1)/\wr.cell? ⟨b,off+j*3+2,η⟩=θ (.slice lo g.af[j].2.2.length cv)/\pn wr lo g.af[j].2.2:=by
      rcases(cH.out.below eW.aQ).ed with h0|⟨b,off,rfl,cp,hc⟩
      .rw[h0]at hjl;simp at hjl
      obtain⟨c0,c1,lo,cv,c2,hL,_,_⟩:=hc j hjl;exact⟨b,off,lo,cv,rfl,cp,c0,c1,c2,hL⟩
     obtain⟨hA,Ef,_⟩:=eO.out.ends _ (List.getElem_mem hjl);obtain⟨p,hp,xV⟩:=aav g la (θ ⟨b,off,η⟩) lc ec (g.af[j].1,(k:Int),0) ((j:Int),(k:Int)) eO.out hA.1 hA.2 (by simp) (by simp);rw[apc eO.out hjl]at hp xV;simp only at xV;unfold rG at xV;obtain⟨wb,nk⟩:∃x,x=(wr.alloc (.cells #[.int .i64 g.af[j].1,.int .i64 g.af[j].2.1,.slice lo g.af[j].2.2.length cv] 112)).alloc (.cells #[.int .i64 (j:Int),.int .i64 (k:Int)] 103):=⟨_,rfl⟩;(have bQ:Below wr.heap.size wr wb:=by rw[nk];exact bK (ax _ _) (ax _ _));have HB:=eW.below bQ;have n8:=xV wb (cH.out.below HB.aQ);have Ei:=HB.c0;have Ej:=HB.c1;have LU:=HB.c2;have LV:=eW.c2;(have f0:wb.cell? ⟨wr.heap.size,0,η⟩=θ (.int .i64 g.af[j].1):=by rw[nk,(ax _ _).cell (by simp)];exact cx rfl rfl);(have f1:wb.cell? ⟨wr.heap.size+1,0,η⟩=θ (.int .i64 (j:Int)):=by rw[nk];exact cx (by simp) rfl);(have f2:wb.cell? ⟨wr.heap.size+1,1,η⟩=θ (.int .i64 (k:Int)):=by rw[nk];exact cx (by simp) rfl);(have LW:wr.heap.size+1<wb.heap.size:=by rw[nk];simp);(have uo:(out++iD g (k:Int) j).length<=4000:=by rw[List.length_append];omega);have kU:Hid (∀W,Below wb.heap.size wb W->W.ownsRow w1.heap.size 140 6 u3 (out++iD g (k:Int) j).length (eN (out++iD g (k:Int) j))/\Below w1.heap.size w1 W):=λW h=>⟨cE hown (bK bQ h),hb.trans ((bK bQ h).mono hb.size)⟩;have aR:=aa (apd (g:=g) (d:=(k:Int)) hjl);have uD:=aa (λq=>ape (g:=g) (d:=(k:Int)) hjl (q:=q));clear hown hb xV HB;generalize aaV:out++iD g (k:Int) j=cur at*;have aaW:=aa aaV;have apj:=nk.symm;clear aaV eW nk;cases hs:jJ g g.af[j] (k:Int)with
     |none=>
      rw[hs]at n8;simp only[Option.map_none,ic]at n8;have bx:=aa (aR.out hs);clear hs hp aR uD hA Ef;generalize g.af[j]=ed at*;go_wp2_with fail;refine n8.mono ?_;rintro r w3 ⟨rfl,aB⟩;have eA:=aa (λo=>kU.out (w3.alloc o) (bK aB (ax w3 o)));clear n8 aB e0 e1 e2 Ei Ej LU LV kU f0 f1 f2 bQ;go_wp2;go_roundw
      case rel=>exact⟨j+1,by omega,by go_num,by rw[bx.out,aaW.out];exact(eA.out _).1,(eA.out _).2⟩
      case measure=>simp[intOf];omega
     |some q=>
      (rw[hs]at n8 hp;simp only[nK,gu]at n8;have hp:=hp _ rfl;subst hp;simp only at n8;have bx:=aa (uD.out q hs);clear hs aR uD hA Ef;generalize g.af[j]=ed at*;go_wp2_with fail;refine n8.mono ?_;rintro r w3 ⟨rfl,aB⟩;obtain⟨w4,fZ⟩:∃x,x=w3.alloc (.cells #[.int .i64 ed.2.1,.int .i64 q.1,.int .i64 q.2] 148):=⟨_,rfl⟩;(have hb4:Below wb.heap.size wb w4:=by rw[fZ];exact bK aB (ax w3 _));obtain⟨o1,o2⟩:=kU.out w4 hb4;have x0:=(hb4.cell (p:=⟨wr.heap.size,0,η⟩) (by simp only;omega)).trans f0;have x1:=(hb4.cell (p:=⟨wr.heap.size+1,0,η⟩) (by simp only;omega)).trans f1;have x2:=(hb4.cell (p:=⟨wr.heap.size+1,1,η⟩) (by simp only;omega)).trans f2;(have x3:w4.cell? ⟨w3.heap.size,0,η⟩=θ (.int .i64 ed.2.1):=by rw[fZ];exact cx rfl rfl);(have iy:w4.cell? ⟨w3.heap.size,1,η⟩=θ (.int .i64 q.1):=by rw[fZ];exact cx rfl rfl);(have Lt:w4.cell? ⟨w3.heap.size,2,η⟩=θ (.int .i64 q.2):=by rw[fZ];exact cx rfl rfl);have hs4:=hb4.size;have hs5:=o2.size;(have BR:w3.heap.size<w4.heap.size:=by rw[fZ];simp);have rI:Hid (∀(o:Obj) (aO:υ),(w4.alloc o).grownBy aO u3.ownBlock->Below w1.heap.size w1 aO):=λo aO kH=>(o2.alloc o2.size o).grown kH (by have:=o2.size;simp at this ⊢;omega) (λk hk=>(o1.lt k hk).1);have zM:=fZ.symm;clear n8 aB e0 e1 e2 Ei Ej LU LV kU f0 f1 f2 bQ hb4 fZ apj;go_wp2_with(at_builtin;refine aaR ?_);refine aa ?_;refine wpList_append_own _ rfl _ _ 130 rfl w1.heap.size 140 i0 _ 6 48 ((cD 130).trans underlying130) hi cg hz1 bX rfl (by decide) _ _ _ rfl (fW (w:=w4) o1 _) ⟨w4.heap.size,0,η⟩ 1 1 [.int .i64 j,.int .i64 k,.int .i64 ed.1,.int .i64 ed.2.1,.int .i64 q.1,.int .i64 q.2] rfl rfl (apb _ _ _ _ _ _ _ _ _ (by simp)) (by intro u hu;simp at hu;rcases hu with rfl|rfl|rfl|rfl|rfl|rfl<;>rfl) (by unfold maxLen;omega) (by omega) (by simp;omega) ?_;intro v' aO iE hgrow _;have hb':=rI.out _ _ hgrow;have R:aO.ownsRow w1.heap.size 140 6 v' (out++iD g (k:Int) (j+1)).length (eN (out++iD g (k:Int) (j+1))):=by rw[bx.out,<- List.append_assoc,aaW.out,ao9,List.length_append];exact iE);clear hgrow o1 iE x0 x1 x2 x3 iy Lt zM;go_wp2;go_roundw
      case rel=>exact⟨j+1,by omega,by go_num,R,hb'⟩
      case measure=>simp[intOf];omega
    ·(have hjn:j=g.af.length:=by omega);subst hjn;rw[<-aph.out]at hown;clear eW;go_wp2;go_roundw
     case rel=>exact⟨k+1,by omega,by go_num,hown,hb⟩
     case measure=>simp[intOf];omega
  ·(have c6:k=g.hor.toNat:=by omega);rw[c6,<- hH.out]at hown;have R:=gJ hown aS.out.aQ.size;have cz:=eW.aQ;clear hown c6 eW;go_wp2;go_ret;exact⟨_,rfl,R,cz⟩
theorem aaX n(h0: -9223372036854775808<=n)(h1:n<9223372036854775808):IntKind.i64.wrap n=n:=by simp only[zm,u6,zl];simp;omega
theorem aaY w (dT sT ty elem:Θ)(hu:P.underlying dT=θ (.slice elem))(hsz:(P.info? elem).map (·.size)=θ 1)dp sp dLen dCap sLen sCap g off cur (t:Θ)(hg:w.heap[g]?=θ (.cells cur.toArray t (0,0)))cs(hn:cs.length=Nat.min sLen dLen)(hpos:0<cs.length->dp=θ ⟨g,off,η⟩/\∃ad,sp=θ ad/\∀j v,cs[j]?=θ v->w.cell? (ad.add j)=θ v)(hfit:off+cs.length<=cur.length)(h1:∀v∈cs,v.oneCell'=ν)B w0(hb:Below B w0 w)(hBg:B<=g):∃w',(Builtin.copy_ #[dT,sT] ty #[.slice dp dLen dCap,.slice sp sLen sCap]).run P w=.ok (goInt cs.length) w'/\Hid (w'.heap[g]?=θ (.cells (splice cur off cs).toArray t (0,0)))/\Below B w0 w':=by
 by_cases h0:cs.length=0
 .obtain rfl:cs=[]:=List.eq_nil_of_length_eq_zero h0;exact⟨w,run_copy_none (P:=P) w dT sT ty elem dp sp dLen dCap sLen sCap hu hsz (by simpa using hn.symm),(show _=_ by simpa[splice]using hg),hb⟩
 .obtain⟨rfl,ad,rfl,hsrc⟩:=hpos (by omega);refine⟨_,run_copy_row (P:=P) w dT sT ty elem g off dLen dCap ad sLen sCap cur.toArray t cs hu hsz hg hn hsrc (by simpa using hfit) h1,?_,below_setRow hb hBg _⟩;exact(show _=_ by simpa[splice]using setRow_heap w g _ _ t _ hg)
theorem aaZ{N m}{x}{cur}(hl:cur.length=N)(hc:cur.take k=(List.replicate k x).map (bM .i64))(hm:k+m<=N):(splice cur k ((List.replicate m x).map (bM .i64))).length=N/\(splice cur k ((List.replicate m x).map (bM .i64))).take (k+m)=(List.replicate (k+m) x).map (bM .i64):=by refine⟨by rw[length_splice _ _ _ (by simp;omega),hl],?_⟩;unfold splice;rw[hc,<- List.append_assoc,<- List.map_append,List.replicate_append_replicate,List.take_append_of_le_length (by simp)];exact List.take_of_length_le (by simp)
theorem aa0 x(ab ao cap N:Nat)(hN:N<=100)w(hx:w.cell? ⟨ab,ao,η⟩=θ (.int .i64 x))(hab:ab<w.heap.size):Ξ ah 113 #[.slice (θ ⟨ab,ao,η⟩) 1 cap,.int .i64 N] w λe w'=>e=.returned (.slice (θ ⟨w.heap.size,0,η⟩) N N)/\dx w' w.heap.size w.heap.size N N (List.replicate N x)/\Below w.heap.size w w':=by
 obtain⟨i0,hi,cg,hz1,bX⟩:=er Tryz.ua;have hMul:=λW=>SQbits_Mul 1 N (by omega) (by omega) W;have e1:(1*N/18446744073709551616:Nat)=0:=by omega
 have e2:(1*N%18446744073709551616:Nat)=N:=by omega
 rw[e1,e2]at hMul;have aa1:(ah.info? 3).map (·.size)=θ 1:=by rw[hi];simp[hz1]
 have azQ:¬(N:Int)<0:=by omega
 have azR:IntKind.u64.wrap (N:Int)=(N:Int):=by simp only[zm,u6,zl];simp;omega
 have hwi:IntKind.i64.wrap (N:Int)=(N:Int):=aaX _ (by omega) (by omega);have kV:=bR hx;clear hx e1 e2;go_enter alb,ntmps113;go_wp2_with fail;refine(hMul _).mono ?_;rintro e w' ⟨rfl,hw'⟩;rw[hw'];clear hw' hMul;go_wp2_with(at_make;refine uh _ rfl _ _ 50 rfl w.heap.size 3 i0 (.int .i64 0) 1 ((cD 50).trans underlying50) hi cg hz1 .i64 .i64 _ _ N rfl rfl rfl rfl (by rw[bX];omega) (by unfold maxLen;omega) (by simp) ?_;intro w0 dL j9);have hb0:=(Below.refl _ _).grown j9 (Nat.le_refl _) (λk hk=>by cases hk);have hx0:=(hb0.cell (p:=⟨ab,ao,η⟩) hab).trans kV.out;have e1:(fo (bM .i64 0).cells (N*1)).toList=(List.replicate N 0).map (bM .i64):=by rw[Nat.mul_one];show (fo #[bM .i64 0] N).toList=_;rw[toList_madeCells_one,List.map_replicate]
 rw[e1]at dL;obtain⟨HC,apk,hg0⟩:∃HC:List ay,HC.length=N/\w0.heap[w.heap.size]?=θ (.cells HC.toArray 3 (0,0)):=by
  rcases dL.2 with⟨h,_⟩|⟨g,cap',cur,e,_,hg,_,_,hcs,_⟩
  .cases h
  .cases e;exact⟨cur.toList,by simpa using hcs,by simpa using hg⟩
 clear dL j9 e1;obtain⟨m,hm⟩:∃m,m=Nat.min 1 N:=⟨_,rfl⟩;have o7:m<=1/\m<=N/\(N=0\/1<=m):=by have hm':m=min 1 N:=hm;omega
 obtain⟨cs,hcs⟩:∃cs,cs=(List.replicate m x).map (bM .i64):=⟨_,rfl⟩;have hcl:cs.length=m:=by rw[hcs];simp
 have hc1:∀v∈cs,v.oneCell'=true:=by rw[hcs];intro v hv;simp at hv;rw[hv.2];rfl
 have aa2:∀j v,cs[j]?=θ v->w0.cell? ((⟨ab,ao,η⟩:bP).add j)=θ v:=by
  intro j v hv;rw[hcs]at hv;have h0:j=0:=by have:=(List.getElem?_eq_some_iff.1 hv).1;simp at this;omega
  subst h0;have:=(List.getElem?_eq_some_iff.1 hv).2;simp at this;rw[<-this];simpa[jT]using hx0
 have Ek:=bR hcs;have aU:=bR (aaZ (k:=0) (m:=m) (x:=x) apk (by simp) (by omega));have fG:=bR hm;have azS:(m:Int)<=N:=by omega
 clear hcs hm;obtain⟨w1,hrun,hg1,aj⟩:=aaY (P:=ah) w0 50 50 3 3 ((cD 50).trans underlying50) aa1 (θ ⟨w.heap.size,0,η⟩) (θ ⟨ab,ao,η⟩) N N 1 cap w.heap.size 0 HC 3 hg0 cs (by rw[hcl,fG.out]) (λ_=>⟨rfl,_,rfl,aa2⟩) (by omega) hc1 w.heap.size w hb0 (Nat.le_refl _);rw[hrun,hcl];clear hrun hc1 aa2 hcl hg0 hb0 hx0;simp only[qW];go_wp2_with fail;go_loopw [8] (λn wr=>∃(k:Nat) (cur:List ay),k<=N/\(N=0\/1<=k)/\n=.int .i64 k/\cur.length=N/\cur.take k=(List.replicate k x).map (bM .i64)/\Hid (wr.heap[w.heap.size]?=θ (.cells cur.toArray 3 (0,0)))/\Below w.heap.size w wr) (λn _=>N-(intOf n).toNat)
 case atStart=>
  refine⟨m,splice HC 0 cs,by omega,by omega,rfl,?_,?_,hg1,aj⟩
  .rw[Ek.out];exact aU.out.1
  .rw[Ek.out];have:=aU.out.2;rwa[Nat.zero_add]at this
 case round=>
  clear hg1 aj Ek aU fG;obtain⟨k,cur,hk,hk1,rfl,hcl,hct,hg,hb⟩:=hrel;by_cases hkN:k<N
  ·(((have azT:(k:Int)<(N:Int):=by omega);(have hne:¬N=k:=by omega);obtain⟨m2,hm2⟩:∃m,m=Nat.min k (N-k):=⟨_,rfl⟩;have apl :m2<=k/\k+m2<=N/\1<=m2:=by have hm':m2=min k (N-k):=hm2;omega);obtain⟨zN,Bo⟩:∃cs,cs=(List.replicate m2 x).map (bM .i64):=⟨_,rfl⟩;(have St:zN.length=m2:=by rw[Bo];simp);(have apm:∀v∈zN,v.oneCell'=true:=by rw[Bo];intro v hv;simp at hv;rw[hv.2];rfl);have apn:∀j v,zN[j]?=θ v->wr.cell? ((⟨w.heap.size,0,η⟩:bP).add j)=θ v:=by(intro j v hv;have hj:=(List.getElem?_eq_some_iff.1 hv).1;rw[St]at hj;rw[Bo]at hv;have h1:(cur.take k)[j]?=θ v:=by rw[hct];simp[show j<k by omega,show j<m2 by omega]at hv ⊢;exact hv);rw[List.getElem?_take_of_lt (by omega)]at h1;have hgo:=hg.out;(have ea:(⟨w.heap.size,0,η⟩:bP).add j=⟨w.heap.size,j,η⟩:=by unfold jT;split<;>simp_all);rw[ea];simp[c7,hgo,h1]);(have kg:Hid ((splice cur k zN).length=N/\(splice cur k zN).take (k+m2)=(List.replicate (k+m2) x).map (bM .i64)):=by rw[Bo];exact aaZ hcl hct apl.2.1);(have apo:k+zN.length<=cur.length:=by omega);have hwk:IntKind.i64.wrap ((k:Int)+(m2:Int))=(k:Int)+(m2:Int):=aaX _ (by omega) (by omega);have El:=bR hm2;(have hsub:((N:Int)-(k:Int)).toNat=N-k:=by omega);clear Bo hm2 hct;go_wp2_with fail;refine sU (S:=λ_=>True) (by kernel_rfl) ?_;have hSw:True:=trivial;refine tk 0 ?_;refine tk 1 ?_;refine tk 2 ?_;refine tk 3 ?_;refine tk 4 ?_;refine tk 5 ?_;refine tk 6 ?_;refine eL (i:=7) rfl (by kernel_rfl) (λK hK=>?_);go_simp;obtain⟨w4,hrun,oQ,hb4⟩:=aaY (P:=ah) wr.drew 50 50 3 3 ((cD 50).trans underlying50) aa1 (θ ⟨w.heap.size,k,η⟩) (θ ⟨w.heap.size,0,η⟩) (N-k) (N-k) k N w.heap.size k cur 3 hg.out zN (by rw[St,El.out]) (λ_=>⟨rfl,_,rfl,apn⟩) apo apm w.heap.size w (below_drewN hb 1) (Nat.le_refl _);rw[hrun,St];clear hrun;simp only[qW];go_simp;refine hK.out _ _ trivial (λ_=>?_);clear hK K;(try simp only[dz,List.setIfInBounds_toArray,List.set_cons_zero,List.set_cons_succ]);refine tk 8 ?_;refine tk 9 ?_;refine gU (by kernel_rfl) ?_ _;go_wp2;go_roundw
   case rel=>exact⟨k+m2,splice cur k zN,by omega,by omega,by go_num,kg.out.1,kg.out.2,oQ,hb4⟩
   case measure=>simp[intOf];omega
  ·((have c6:N=k:=by omega);subst c6;have mE:Hid (dx wr w.heap.size w.heap.size N N (List.replicate N x)):=by refine⟨by simp,.inr ⟨w.heap.size,N,cur.toArray,rfl,Nat.le_refl _,hg.out,Nat.le_refl _,by unfold maxLen;omega,by simp[hcl],by simpa using hct⟩⟩);clear hct hg hcl;go_wp2;go_ret;exact⟨rfl,mE.out,hb⟩
theorem apq n(h0: -9223372036854775808<=n)(h1:n<9223372036854775808):IntKind.i64.wrap n=n:=by simp only[zm,u6,zl];simp;omega
structure s7(w W:υ)(B:Nat)(g:bg)(la ea:Option bP)(lc ec:Nat):Prop where
 c0:W.cell? ⟨B,0,η⟩=θ (.int .i64 g.hor)
 c1:W.cell? ⟨B,1,η⟩=θ (.slice la g.lives.length lc)
 c2:W.cell? ⟨B,2,η⟩=θ (.slice ea g.af.length ec)
 aQ:Below w.heap.size w W
 lt:B<W.heap.size
theorem xW w g la ea lc ec(T:Θ):s7 w (w.alloc (.cells #[.int .i64 g.hor,.slice la g.lives.length lc,.slice ea g.af.length ec] T)) w.heap.size g la ea lc ec:=
 ⟨by simp,by simp,by simp,ax w _,by simp⟩
theorem s7.below{la ea}{lc ec}(h:s7 w W B g la ea lc ec)(hb:Below W.heap.size W W'):s7 w W' B g la ea lc ec:=
 ⟨(hb.cell (p:=⟨B,0,η⟩) h.lt).trans h.c0,(hb.cell (p:=⟨B,1,η⟩) h.lt).trans h.c1,(hb.cell (p:=⟨B,2,η⟩) h.lt).trans h.c2,bK h.aQ hb,Nat.lt_of_lt_of_le h.lt hb.size⟩
theorem vX{fn}{t u}(h:fn.results=#[.tmp t,.tmp u])tmps P w:(results fn tmps).run P w=.ok (.tuple #[tmps.getD t undef,tmps.getD u undef]) w:=by simp[results,h]
theorem apr n:(fo (BF #[.int .i64 0,.int .i64 0,.int .i64 0,.int .i64 0,.int .i64 0,.int .i64 0]).cells (n*6)).toList=eN (List.replicate n (0,0,0,0,0,0)):=by
 apply List.ext_getElem?;intro j;have hl:(fo (BF #[.int .i64 0,.int .i64 0,.int .i64 0,.int .i64 0,.int .i64 0,.int .i64 0]).cells (n*6)).toList.length=n*6:=by rw[jk,size_madeCells]
 by_cases hj:j<n*6
 .have e0:∀x∈eN (List.replicate n ((0:Int),(0:Int),(0:Int),(0:Int),(0:Int),(0:Int))),x=bM .i64 0:=by intro x hx;unfold eN at hx;simp only[List.mem_flatMap,List.mem_replicate]at hx;obtain⟨y,⟨_,rfl⟩,hy⟩:=hx;simp[Hz]at hy;exact hy
  have hj2:j<(eN (List.replicate n ((0:Int),(0:Int),(0:Int),(0:Int),(0:Int),(0:Int)))).length:=by rw[HA,List.length_replicate];exact hj
  rw[List.getElem?_eq_getElem (by omega),List.getElem?_eq_getElem hj2,e0 _ (List.getElem_mem hj2)];congr 1;have h3:(BF #[.int .i64 0,.int .i64 0,.int .i64 0,.int .i64 0,.int .i64 0,.int .i64 0]).cells=#[bM .i64 0,.int .i64 0,.int .i64 0,.int .i64 0,.int .i64 0,.int .i64 0]:=by rfl
  simp only[fo,h3,Array.getElem_toList,Array.getElem_map,Array.getElem_range];have:j%6=0\/j%6=1\/j%6=2\/j%6=3\/j%6=4\/j%6=5:=by omega
  rcases this with e|e|e|e|e|e<;>simp[e]
 .rw[List.getElem?_eq_none (by omega),List.getElem?_eq_none (by rw[HA,List.length_replicate];omega)]
theorem LX x l:eN (x::l)=.int .i64 x.1::.int .i64 x.2.1::.int .i64 x.2.2.1::.int .i64 x.2.2.2.1::.int .i64 x.2.2.2.2.1::.int .i64 x.2.2.2.2.2::eN l:=by simp[eN,Hz]
theorem aa3:∀(m:List b7) (k:Nat) (q:b7),k<m.length->((((((eN m).set (k*6) (.int .i64 q.1)).set (k*6+1) (.int .i64 q.2.1)).set (k*6+2) (.int .i64 q.2.2.1)).set (k*6+3) (.int .i64 q.2.2.2.1)).set (k*6+4) (.int .i64 q.2.2.2.2.1)).set (k*6+5) (.int .i64 q.2.2.2.2.2)=eN (m.set k q)
 |[],k,q,h=>by simp at h
 |x::m,0,q,_=>by have e:(x::m).set 0 q=q::m:=rfl;rw[e,LX,LX];rfl
 |x::m,k+1,q,h=>by have ih:=aa3 m k q (by simpa using h);have e:(x::m).set (k+1) q=x::m.set k q:=rfl;rw[e,LX,LX,<- ih,show (k+1)*6=k*6+1+1+1+1+1+1 from by omega];rfl
abbrev qE(w:υ)(base aT n cap:Nat)(x:List b7):Prop:=w.ownsRow base 140 6 (.slice (θ ⟨aT,0,η⟩) n cap) n (eN x)
theorem qE.len{base}{x}(h:qE w base aT n cap x):x.length=n:=by have:=h.1;rw[HA]at this;omega
theorem qE.one{base}{x}(h:qE w base aT n cap x)(hk:k<n):xU w aT (k*6) (x.getD k qD):=by
 have hl:=h.len;obtain⟨f0,f1,f2,f3,f4,f5⟩:=Sr x k (by omega);refine⟨?_,?_,?_,?_,?_,?_⟩
 .rw[qi h (k*6) (by omega)];exact f0
 .rw[qi h (k*6+1) (by omega)];exact f1
 .rw[qi h (k*6+2) (by omega)];exact f2
 .rw[qi h (k*6+3) (by omega)];exact f3
 .rw[qi h (k*6+4) (by omega)];exact f4
 .rw[qi h (k*6+5) (by omega)];exact f5
def HD(w:υ)(aT k:Nat)(q:b7):World:=(((((w.setCell ⟨aT,k*6,η⟩ (.int .i64 q.1)).setCell ⟨aT,k*6+1,η⟩ (.int .i64 q.2.1)).setCell ⟨aT,k*6+2,η⟩ (.int .i64 q.2.2.1)).setCell ⟨aT,k*6+3,η⟩ (.int .i64 q.2.2.2.1)).setCell ⟨aT,k*6+4,η⟩ (.int .i64 q.2.2.2.2.1)).setCell ⟨aT,k*6+5,η⟩ (.int .i64 q.2.2.2.2.2)
theorem qE.set{base}{x}(h:qE w base aT n cap x)(hk:k<n)q:qE (HD w aT k q) base aT n cap (x.set k q):=by have hl:=h.len;have h5:=(xE ((xE ((xE ((xE ((xE ((xE h (k*6) (.int .i64 q.1)).1) (k*6+1) (.int .i64 q.2.1)).1) (k*6+2) (.int .i64 q.2.2.1)).1) (k*6+3) (.int .i64 q.2.2.2.1)).1) (k*6+4) (.int .i64 q.2.2.2.2.1)).1) (k*6+5) (.int .i64 q.2.2.2.2.2)).1;rw[aa3 x k q (by omega)]at h5;exact h5
theorem aa4{base}{e:Θ}{size}{v}(h:w.ownsRow base e size v n xs)(ha:v.ownBlock≠θ aT)q:(HD w aT k q).ownsRow base e size v n xs:=
 ug (ug (ug (ug (ug (ug h ha _) ha _) ha _) ha _) ha _) ha _
theorem aps(h:Below B w0 w)(hg:B<=aT)k q:Below B w0 (HD w aT k q):=
 (((((h.setCell (p:=⟨aT,k*6,η⟩) hg _).setCell (p:=⟨aT,k*6+1,η⟩) hg _).setCell (p:=⟨aT,k*6+2,η⟩) hg _).setCell (p:=⟨aT,k*6+3,η⟩) hg _).setCell (p:=⟨aT,k*6+4,η⟩) hg _).setCell (p:=⟨aT,k*6+5,η⟩) hg _
theorem rJ{b b' j'}{v}(h:b'≠b):(w.setCell ⟨b,j,η⟩ v).cell? ⟨b',j',η⟩=w.cell? ⟨b',j',η⟩:=by refine World.cell?_setCell_other _ _ _ _ (λe=>h ?_);have:=jM Addr.block e;exact this.symm
theorem aa5{v:ay}{b}(h:∀k,v.ownBlock=θ k->b<k):v.ownBlock≠θ b:=λe=>Nat.lt_irrefl _ (h b e)
structure pP(w0 w:υ)(m1 m2 m3 n:Nat)(u:ay)(bn:List b7)(T:List Int)(L:List b7):Prop where
 t:dx w w0.heap.size m1 n n T
 l:qE w w0.heap.size m2 n n L
 r:w.ownsRow m3 140 6 u bn.length (eN bn)
 b:Below w0.heap.size w0 w
theorem pP.below{m1 m2 m3}{u}{bn}{L}(h:pP w0 w m1 m2 m3 n u bn T L)(hb:Below w.heap.size w w'):pP w0 w' m1 m2 m3 n u bn T L:=
 ⟨cE h.t hb,cE h.l hb,cE h.r hb,h.b.trans (hb.mono h.b.size)⟩
theorem pP.set{m1 m2 m3}{u}{bn}{L}(h:pP w0 w m1 m2 m3 n u bn T L)(h12:m1<m2)(h23:m2<m3)(hk:k<n)x q:pP w0 (HD (w.setCell ⟨m1,k,η⟩ (.int .i64 x)) m2 k q) m1 m2 m3 n u bn (T.set k x) (L.set k q):=by have o7:=(h.t.lt m1 rfl).1;have hu:∀b,b<m3->u.ownBlock≠θ b:=λb hb=>aa5 λk hk=>Nat.lt_of_lt_of_le hb (h.r.lt k hk).1;refine⟨aa4 (h.t.set k x) (by simp[oG];omega) q,?_,aa4 (ug h.r (hu m1 (by omega)) _) (hu m2 h23) q,aps (h.b.setCell (p:=⟨m1,k,η⟩) o7 _) (by omega) k q⟩;exact qE.set (ug h.l (by simp[oG];omega) _) hk q
theorem pP.kT{w0 w}{m1 m2 m3 n}{u}{bn}{T}{L}(h:pP w0 w m1 m2 m3 n u bn T L){k}(hk:k<bn.length):∃rb cap,u=.slice (θ ⟨rb,0,η⟩) bn.length cap/\rb<w.heap.size/\xU w rb (k*6) (bn.getD k qD):=by
 have hr:=h.r;rcases hr.2 with⟨_,h0⟩|⟨rb,cap,cur,e,_,hh,_⟩
 .omega
 .rw[e]at hr;exact⟨rb,cap,e,(ξ.1 hh).1,qE.one hr hk⟩
theorem apt g la ea lc ec v t w(hG:cL w la ea g)(hpl:dB g v t=0):Ξ ah 84 #[.agg #[.int .i64 g.hor,.slice la g.lives.length lc,.slice ea g.af.length ec],.int .i64 v,.int .i64 t] w λr w'=>∃m1 m2,r=.returned (.tuple #[.slice (θ ⟨m1,0,η⟩) g.lives.length g.lives.length,.slice (θ ⟨m2,0,η⟩) g.lives.length g.lives.length])/\dx w' w.heap.size m1 g.lives.length g.lives.length (mL g v t).1/\qE w' w.heap.size m2 g.lives.length g.lives.length (mL g v t).2/\Below w.heap.size w w':=by
 obtain⟨i0,hi,cg,hz1,bX⟩:=er Tryz.aaQ;obtain⟨hg0,⟨hv0,jR⟩,ht0,ht1⟩:=uB hpl;have hR:=ei hg0;have vY:=hR.tF;obtain⟨V,rfl⟩:∃V:Nat,v=(V:Int):=⟨v.toNat,by omega⟩;have jo:V<g.lives.length:=by omega
 obtain⟨w1,hw1⟩:∃x,x=w.alloc (.cells #[.int .i64 g.hor,.slice la g.lives.length lc,.slice ea g.af.length ec] 59):=⟨_,rfl⟩;have bD:kR w w1 w.heap.size g la ea lc ec:=by rw[hw1];exact qA w g la ea lc ec 59
 obtain⟨w2,cc⟩:∃x,x=w1.alloc (.cells #[.int .i64 1099511627776] 3):=⟨_,rfl⟩;have bt:kR w w2 w.heap.size g la ea lc ec:=by rw[cc];exact bD.below (ax w1 _)
 have hs1:w1.heap.size=w.heap.size+1:=by rw[hw1];simp
 have hs2:w2.heap.size=w.heap.size+1+1:=by rw[cc];simp[hs1]
 have Su:=aa0 1099511627776 (w.heap.size+1) 0 1 g.lives.length (by omega) w2 (by rw[cc];exact cx hs1.symm rfl) (by omega);have g1:=bt.c1;have cH:=aa hG;have aN:=aa bt;have eO:=aa hR;have cY:=hw1.symm;have BS:=cc.symm;clear hG hpl hg0 hR bD bt hw1 cc;go_enter akY,ntmps84;go_wp2_with fail;refine Su.mono ?_;rintro r w3 ⟨rfl,uE,aB⟩;have gN:=aN.out.below aB;have Em:=gN.c1;have hs3:=(kL uE _ rfl).2;go_wp2_with(at_make;refine uh _ rfl _ _ 130 rfl w.heap.size 140 i0 _ 6 ((cD 130).trans underlying130) hi cg hz1 .i64 .i64 _ _ g.lives.length rfl rfl rfl rfl (by rw[bX];omega) (by unfold maxLen;omega) (by omega) ?_;intro w4 rK apu;refine aaR ?_);refine aa ?_;rw[apr]at rK;have hb4:Below w3.heap.size w3 w4:=(Below.refl _ _).grown apu (Nat.le_refl _) (λk hk=>by cases hk);have zO:=gN.below hb4;have vZ:=gJ (cE uE hb4) (show w.heap.size<=w2.heap.size by omega);have Sv:=cH.out.below zO.aQ;obtain⟨lb,cC,rfl,hlb,hlc⟩:∃b off,la=θ ⟨b,off,η⟩/\b<w4.heap.size/\(w4.cell? ⟨b,off+V*2,η⟩=θ (.int .i64 g.lives[V].1)/\w4.cell? ⟨b,off+V*2+1,η⟩=θ (.int .i64 g.lives[V].2)):=by
  rcases Sv.lv with h0|⟨b,off,rfl,cp,hc⟩
  .rw[h0]at jo;simp at jo
  exact⟨b,off,rfl,cp,eg.get jo hc⟩
 obtain⟨Sw,Sx⟩:=hlc;have g1:=zO.c1;have hs4:=(kL rK _ rfl).2;have hal:=λW=>zG g.lives[V].1 g.lives[V].2 t W;rw[<-pJ t g.lives V jo]at hal;have cr:=aa zO;cases ha:bl t g.lives (V:Int)with
 |false=>
  rw[ha]at hal;have bx:Hid (mL g (V:Int) t=(List.replicate g.lives.length 1099511627776,List.replicate g.lives.length (0,0,0,0,0,0))):=by show _=_;unfold mL;rw[ς (by rw[ha];simp)]
  go_wp2_with fail;refine(hal _).mono ?_;rintro r aO ⟨rfl,bT⟩;have ki:=cE vZ bT;rw[hs2]at ki;have HE:=aa ki;have apv:=aa (cE rK bT);have gb:=aa (cr.out.below bT).aQ;go_wp2;(try simp only[lB,Exit.then]);refine cR (vX rfl _ _ _) rfl ?_;exact⟨_,_,rfl,by rw[bx.out];exact HE.out,by rw[bx.out];exact apv.out,gb.out⟩
 |true=>
  rw[ha]at hal;have bx:Hid (mL g (V:Int) t=eM (fF g (V:Int) t) (cq g)):=by show _=_;unfold mL;rw[χ ha]
  go_wp2_with fail;refine(hal _).mono ?_;rintro r aO ⟨rfl,bT⟩;have ki:=cE vZ bT;have aa6:=cE rK bT;have uF:=cr.out.below bT;have hs5:=bT.size;have fz:=mX ki V;have xX:=dx.cell ki jo;rw[hs2]at fz xX;clear hal bT vZ rK cr Sw Sx g1;obtain⟨bW,dU⟩:∃x,x=aO.setCell ⟨w.heap.size+1+1,V,η⟩ (.int .i64 t):=⟨_,rfl⟩;have s8:dx bW w.heap.size (w.heap.size+1+1) g.lives.length g.lives.length (fF g (V:Int) t).1:=by rw[dU];rw[hs2]at ki;have:=dx.set ki V t;simpa[fF]using this
  have Sy:qE bW w.heap.size w3.heap.size g.lives.length g.lives.length (fF g (V:Int) t).2:=by rw[dU];exact ug aa6 (by simp[oG];omega) _
  have dD:Below w.heap.size w bW:=by rw[dU];exact uF.aQ.setCell (p:=⟨w.heap.size+1+1,V,η⟩) (by simp only;omega) _
  have BR:aO.heap.size=bW.heap.size:=by rw[dU];simp[eV]
  have k0:bW.cell? ⟨w.heap.size,0,η⟩=θ (.int .i64 g.hor):=by rw[dU,rJ (by omega)];exact uF.c0
  have k1:bW.cell? ⟨w.heap.size,1,η⟩=θ (.slice (θ ⟨lb,cC,η⟩) g.lives.length lc):=by rw[dU,rJ (by omega)];exact uF.c1
  have k2:bW.cell? ⟨w.heap.size,2,η⟩=θ (.slice ea g.af.length ec):=by rw[dU,rJ (by omega)];exact uF.c2
  have zP:=Ss g (θ ⟨lb,cC,η⟩) ea lc ec bW (cH.out.below dD) eO.out;have BT:=dU.symm;clear dU ki aa6 uF;obtain⟨dA,hM1⟩:∃M,M=w.heap.size+1+1:=⟨_,rfl⟩;obtain⟨M2,hM2⟩:∃M,M=w3.heap.size:=⟨_,rfl⟩;obtain⟨gO,zQ⟩:∃M,M=bW.heap.size:=⟨_,rfl⟩;have h12:dA<M2:=by omega
  have h23:M2<gO:=by omega
  go_wp2_with fail;refine zP.mono ?_;rintro r w7 ⟨u,rfl,xY,ko⟩;rw[<-hM1,<- hM2];rw[<-hM1]at s8;rw[<-hM2]at Sy;rw[<-zQ]at xY;have HF:pP w w7 dA M2 gO g.lives.length u (cq g) (eM (fF g (V:Int) t) ((cq g).take 0)).1 (eM (fF g (V:Int) t) ((cq g).take 0)).2:=⟨cE s8 ko,cE Sy ko,xY,dD.trans (ko.mono dD.size)⟩;have hok:∀r∈cq g,uC g r:=λr hr=>qC eO.out hr;have uo:(cq g).length<=3000:=Nat.le_trans (LN g _) (Nat.le_trans (Nat.mul_le_mul (show g.hor.toNat<=100 by have:=eO.out.hor;omega) eO.out.qm) (by omega));obtain⟨ao,cap,rfl,_⟩:=aaS xY;generalize cq g=bn at*;have e7:=aa hok;clear zP BT s8 Sy dD xY ko k0 k1 k2 fz xX hM1 hM2 zQ BR hs5 hs4 hs3 hs2 hs1 cH eO hok hlb;go_wp2_with fail;go_loopw [38] (λi wr=>∃k:Nat,k<=bn.length/\i=.int .i64 k/\pP w wr dA M2 gO g.lives.length (.slice ao bn.length cap) bn (eM (fF g (V:Int) t) (bn.take k)).1 (eM (fF g (V:Int) t) (bn.take k)).2) (λi _=>bn.length-(intOf i).toNat)
  case atStart=>exact⟨0,Nat.zero_le _,rfl,HF⟩
  case round=>
   clear HF;obtain⟨k,hk,rfl,S⟩:=hrel;by_cases bp:k<bn.length
   ·((have azU:(k:Int)<(bn.length:Int):=by omega);have LY:IntKind.i64.wrap ((k:Int)+1)=(k:Int)+1:=n6 _ (by omega) (by omega);obtain⟨rb,cap',e,hrb,gf⟩:=S.kT bp;simp only[jU,yE]at e;obtain⟨rfl,rfl⟩:=e;have hmem:=e7.out bn[k] (List.getElem_mem bp);(have hgd:bn.getD k qD=bn[k]:=by rw[List.getD_eq_getElem?_getD,List.getElem?_eq_getElem bp];rfl);have aX:=aa (aoV (s:=fF g (V:Int) t) bp);rw[hgd]at gf;generalize bn[k]=rr at*;obtain⟨E,d,a,b,ar,c⟩:=rr;have ha0:=hmem.a0;have hb0:=hmem.b0;simp only at ha0 hb0;obtain⟨A,rfl⟩:∃A:Nat,a=(A:Int):=⟨a.toNat,by omega⟩;obtain⟨B,rfl⟩:∃B:Nat,b=(B:Int):=⟨b.toNat,by omega⟩;(have hA:A<g.lives.length:=by omega);(have hB:B<g.lives.length:=by omega);generalize (eM (fF g (V:Int) t) (bn.take k)).1=T at*;generalize (eM (fF g (V:Int) t) (bn.take k)).2=L at*;obtain⟨wa,bY⟩:∃x,x=wr.alloc (.cells #[.int .i64 E,.int .i64 d,.int .i64 (A:Int),.int .i64 (B:Int),.int .i64 ar,.int .i64 c] 140):=⟨_,rfl⟩;have c0:=gf.c0;have c1:=gf.c1;have c2:=gf.c2;have c3:=gf.c3;have c4:=gf.c4;have c5:=gf.c5;simp only at c0 c1 c2 c3 c4 c5;(have xZ:pP w wa dA M2 gO g.lives.length (.slice (θ ⟨rb,0,η⟩) bn.length cap) bn T L:=by rw[bY];exact S.below (ax wr _));have xa:=dx.cell xZ.t hA;have rL:=dx.cell xZ.t hB;(have y0:wa.cell? ⟨wr.heap.size,0,η⟩=θ (.int .i64 E):=by rw[bY];exact cx rfl rfl);(have y1:wa.cell? ⟨wr.heap.size,1,η⟩=θ (.int .i64 d):=by rw[bY];exact cx rfl rfl);(have y2:wa.cell? ⟨wr.heap.size,2,η⟩=θ (.int .i64 (A:Int)):=by rw[bY];exact cx rfl rfl);(have s9:wa.cell? ⟨wr.heap.size,3,η⟩=θ (.int .i64 (B:Int)):=by rw[bY];exact cx rfl rfl);(have rM:wa.cell? ⟨wr.heap.size,4,η⟩=θ (.int .i64 ar):=by rw[bY];exact cx rfl rfl);(have BU:wa.cell? ⟨wr.heap.size,5,η⟩=θ (.int .i64 c):=by rw[bY];exact cx rfl rfl);have zR:=bY.symm;have HG:=aa xZ;have td:Hid (dA<wr.heap.size/\M2<wr.heap.size):=⟨(kL S.t _ rfl).2,(kL S.l _ rfl).2⟩;clear gf S xZ hmem hgd bY;obtain⟨x1,hx1⟩:∃x,x=T.getD A 0:=⟨_,rfl⟩;obtain⟨x2,hx2⟩:∃x,x=T.getD B 0:=⟨_,rfl⟩;rw[<-hx1]at xa;rw[<-hx2]at rL;have En:=aa hx1;have HH:=aa hx2;(have Sz:(A:Int)<(g.lives.length:Int):=by omega);(have Sb:(B:Int)<(g.lives.length:Int):=by omega);have kS:Hid (¬(x1<=d/\ar<x2)->eM (fF g (V:Int) t) (bn.take (k+1))=(T,L)):=by intro h;rw[aX.out];unfold mK pM;simp only[Int.toNat_natCast];rw[<-En.out,<- HH.out,ς h,ς h]);(have n9:Hid (x1<=d/\ar<x2->eM (fF g (V:Int) t) (bn.take (k+1))=(T.set B ar,L.set B (E,d,(A:Int),(B:Int),ar,c))):=by intro h;rw[aX.out];unfold mK pM;simp only[Int.toNat_natCast];rw[<-En.out,<- HH.out,χ h,χ h]);(have x4:Hid (¬(x1<=d/\ar<x2)->∀N,pP w (wa.drewN N) dA M2 gO g.lives.length (.slice (θ ⟨rb,0,η⟩) bn.length cap) bn (eM (fF g (V:Int) t) (bn.take (k+1))).1 (eM (fF g (V:Int) t) (bn.take (k+1))).2):=by intro h N;rw[kS.out h];exact HG.out.below (below_drewN (Below.refl _ _) N));clear hx1 hx2 aX kS;by_cases q1:x1<=d
    ·(have d1:decide (x1<=d)=true:=by simpa using q1);by_cases q2:ar<x2
     ·(have d2:decide (ar<x2)=true:=by simpa using q2);have kg:=aa (n9.out ⟨q1,q2⟩);(have Eo:wr.heap.size≠dA:=by have:=td.out.1;omega);(have GY:wr.heap.size≠M2:=by have:=td.out.2;omega);have LZ:=aa (λ(W:υ) (h:pP w W dA M2 gO g.lives.length (.slice (θ ⟨rb,0,η⟩) bn.length cap) bn T L)=>h.set h12 h23 hB ar (E,d,(A:Int),(B:Int),ar,c));clear x4 n9;go_wp2_with fail
      go_quiet (fail)
      (clear xa rL q1 q2 d1 d2 c0 c1 c2 c3 c4 c5;go_wp2_with fail;refine sU (S:=λw3=>w3.cell? ⟨wr.heap.size,0,η⟩=θ (.int .i64 E)/\w3.cell? ⟨wr.heap.size,1,η⟩=θ (.int .i64 d)/\w3.cell? ⟨wr.heap.size,2,η⟩=θ (.int .i64 (A:Int))/\w3.cell? ⟨wr.heap.size,3,η⟩=θ (.int .i64 (B:Int))/\w3.cell? ⟨wr.heap.size,4,η⟩=θ (.int .i64 ar)/\w3.cell? ⟨wr.heap.size,5,η⟩=θ (.int .i64 c)) (by kernel_rfl) ?_;generalize Ep:({wa.drewN nq with drawn:=(wa.drewN nq).drawn+1 }:υ)=jf;(have x5:pP w jf dA M2 gO g.lives.length (.slice (θ ⟨rb,0,η⟩) bn.length cap) bn T L:=by rw[<-Ep];exact HG.out.below (below_drewN (Below.refl _ _) (nq+1)));(have rf:jf.cell? ⟨wr.heap.size,0,η⟩=θ (.int .i64 E)/\jf.cell? ⟨wr.heap.size,1,η⟩=θ (.int .i64 d)/\jf.cell? ⟨wr.heap.size,2,η⟩=θ (.int .i64 (A:Int))/\jf.cell? ⟨wr.heap.size,3,η⟩=θ (.int .i64 (B:Int))/\jf.cell? ⟨wr.heap.size,4,η⟩=θ (.int .i64 ar)/\jf.cell? ⟨wr.heap.size,5,η⟩=θ (.int .i64 c):=by rw[<-Ep];exact⟨y0,y1,y2,s9,rM,BU⟩);clear Ep y0 y1 y2 s9 rM BU;refine tk 0 ?_;refine tk 1 ?_;refine tk 2 ?_;refine tk 3 ?_;refine tk 4 ?_;refine tk 5 ?_;refine tk 6 ?_;refine tk 7 ?_;refine tk 8 ?_;refine tk 9 ?_;refine eL (i:=10) rfl (by kernel_rfl) (λK hK=>?_);have L0:=mX x5.t B;have apw:=dx.cell x5.t hB;go_simp;have BV:(jf.setCell ⟨dA,B,η⟩ (.int .i64 ar)).cell? ⟨wr.heap.size,0,η⟩=θ (.int .i64 E)/\(jf.setCell ⟨dA,B,η⟩ (.int .i64 ar)).cell? ⟨wr.heap.size,1,η⟩=θ (.int .i64 d)/\(jf.setCell ⟨dA,B,η⟩ (.int .i64 ar)).cell? ⟨wr.heap.size,2,η⟩=θ (.int .i64 (A:Int))/\(jf.setCell ⟨dA,B,η⟩ (.int .i64 ar)).cell? ⟨wr.heap.size,3,η⟩=θ (.int .i64 (B:Int))/\(jf.setCell ⟨dA,B,η⟩ (.int .i64 ar)).cell? ⟨wr.heap.size,4,η⟩=θ (.int .i64 ar)/\(jf.setCell ⟨dA,B,η⟩ (.int .i64 ar)).cell? ⟨wr.heap.size,5,η⟩=θ (.int .i64 c):=by rw[rJ Eo,rJ Eo,rJ Eo,rJ Eo,rJ Eo,rJ Eo];exact rf);refine hK.out _ _ BV (λ_=>?_);clear hK K L0 apw;(try simp only[dz,List.setIfInBounds_toArray,List.set_cons_zero,List.set_cons_succ]);refine tk 11 ?_;refine eL (i:=12) rfl (by kernel_rfl) (λK hK=>?_);have SA:=ug x5.l (a:=⟨dA,B,η⟩) (by simp[oG];omega) (.int .i64 ar);have eE:=qE.one SA hB;have apx:=λj=>mX SA j;have z0:=eE.c0;have z1:=eE.c1;have z2:=eE.c2;have z3:=eE.c3;have z4:=eE.c4;have z5:=eE.c5;have rN:=LZ.out _ x5;clear eE SA;unfold HD at rN;simp only at rN;generalize jf.setCell ⟨dA,B,η⟩ (.int .i64 ar)=uG at*;go_simp;refine hK.out _ _ (by simp only[rJ GY];exact BV) (λ_=>?_);clear hK K z0 z1 z2 z3 z4 z5 apx rf BV;refine gU (by kernel_rfl) ?_ _;generalize (((((uG.setCell ⟨M2,B*6,η⟩ (.int .i64 E)).setCell ⟨M2,B*6+1,η⟩ (.int .i64 d)).setCell ⟨M2,B*6+2,η⟩ (.int .i64 (A:Int))).setCell ⟨M2,B*6+3,η⟩ (.int .i64 (B:Int))).setCell ⟨M2,B*6+4,η⟩ (.int .i64 ar)).setCell ⟨M2,B*6+5,η⟩ (.int .i64 c)=zS at*;(have SB:Hid (pP w zS dA M2 gO g.lives.length (.slice (θ ⟨rb,0,η⟩) bn.length cap) bn (eM (fF g (V:Int) t) (bn.take (k+1))).1 (eM (fF g (V:Int) t) (bn.take (k+1))).2):=by rw[kg.out];exact rN);clear rN x5 kg;go_wp2;go_roundw
      case rel=>exact⟨k+1,by omega,by go_num,SB.out⟩
      case measure=>simp[intOf];omega
     ·(have d2:decide (ar<x2)=false:=by simpa using q2);have lJ:=aa (x4.out (λh=>q2 h.2));clear x4 n9;go_wp2_with fail
      go_quiet (fail)
      clear xa rL c0 c1 c2 c3 c4 c5 y0 y1 y2 s9 rM BU zR q1 q2 d1 d2;go_wp2;go_roundw
      case rel=>exact⟨k+1,by omega,by go_num,lJ.out _⟩
      case measure=>simp[intOf];omega
    ·(have d1:decide (x1<=d)=false:=by simpa using q1);have lJ:=aa (x4.out (λh=>q1 h.1));clear x4 n9;go_wp2_with fail
     go_quiet (fail)
     clear xa rL c0 c1 c2 c3 c4 c5 y0 y1 y2 s9 rM BU zR q1 d1;go_wp2;go_roundw
     case rel=>exact⟨k+1,by omega,by go_num,lJ.out _⟩
     case measure=>simp[intOf];omega
   ·(have c6:bn.length=k:=by omega);subst c6;rw[List.take_length,<- bx.out]at S;have aU:=aa S;clear S;go_wp2;(try simp only[lB,Exit.then]);refine cR (vX rfl _ _ _) rfl ?_;exact⟨_,_,rfl,aU.out.t,aU.out.l,aU.out.b⟩
theorem apy{l:List b7}(hk:k<l.length):gW T (l.take (k+1))=nj (gW T (l.take k)) l[k]:=by unfold gW;rw[List.take_succ_eq_append_getElem hk,List.foldl_append];rfl
structure pQ(w0 w:υ)(m1 m3 n:Nat)(u:ay)(bn:List b7)(T:List Int):Prop where
 t:dx w w0.heap.size m1 n n T
 r:w.ownsRow m3 140 6 u bn.length (eN bn)
 b:Below w0.heap.size w0 w
theorem pQ.below{m1 m3}{u}{bn}(h:pQ w0 w m1 m3 n u bn T)(hb:Below w.heap.size w w'):pQ w0 w' m1 m3 n u bn T:=
 ⟨cE h.t hb,cE h.r hb,h.b.trans (hb.mono h.b.size)⟩
theorem pQ.set{m1 m3}{u}{bn}(h:pQ w0 w m1 m3 n u bn T)(F9:m1<m3)k x:pQ w0 (w.setCell ⟨m1,k,η⟩ (.int .i64 x)) m1 m3 n u bn (T.set k x):=by have o7:=(kL h.t m1 rfl).1;have hu:=aa5 λk hk=>Nat.lt_of_lt_of_le F9 (kL h.r k hk).1;exact⟨dx.set h.t k x,ug h.r hu _,h.b.setCell (p:=⟨m1,k,η⟩) o7 _⟩
theorem pQ.kT{w0 w}{m1 m3 n}{u}{bn}{T}(h:pQ w0 w m1 m3 n u bn T){k}(hk:k<bn.length):∃rb cap,u=.slice (θ ⟨rb,0,η⟩) bn.length cap/\rb<w.heap.size/\xU w rb (k*6) (bn.getD k qD):=by
 have hr:=h.r;rcases hr.2 with⟨_,h0⟩|⟨rb,cap,cur,e,_,hh,_⟩
 .omega
 .rw[e]at hr;exact⟨rb,cap,e,(ξ.1 hh).1,qE.one hr hk⟩
theorem apz g la ea lc ec(v t:Int)w(hG:cL w la ea g)(hpl:dB g v t=0):Ξ ah 85 #[.agg #[.int .i64 g.hor,.slice la g.lives.length lc,.slice ea g.af.length ec],.int .i64 v,.int .i64 t] w λr w'=>∃m1,r=.returned (.slice (θ ⟨m1,0,η⟩) g.lives.length g.lives.length)/\dx w' w.heap.size m1 g.lives.length g.lives.length (oP g v t)/\Below w.heap.size w w':=by
 obtain⟨hg0,⟨hv0,jR⟩,ht0,ht1⟩:=uB hpl;have hR:=ei hg0;have vY:=hR.tF;obtain⟨V,rfl⟩:∃V:Nat,v=(V:Int):=⟨v.toNat,by omega⟩;have jo:V<g.lives.length:=by omega
 obtain⟨w1,hw1⟩:∃x,x=w.alloc (.cells #[.int .i64 g.hor,.slice la g.lives.length lc,.slice ea g.af.length ec] 59):=⟨_,rfl⟩;have bD:kR w w1 w.heap.size g la ea lc ec:=by rw[hw1];exact qA w g la ea lc ec 59
 obtain⟨w2,cc⟩:∃x,x=w1.alloc (.cells #[.int .i64 (-1)] 3):=⟨_,rfl⟩;have bt:kR w w2 w.heap.size g la ea lc ec:=by rw[cc];exact bD.below (ax w1 _)
 have hs1:w1.heap.size=w.heap.size+1:=by rw[hw1];simp
 have hs2:w2.heap.size=w.heap.size+1+1:=by rw[cc];simp[hs1]
 have Su:=aa0 (-1) (w.heap.size+1) 0 1 g.lives.length (by omega) w2 (by rw[cc];exact cx hs1.symm rfl) (by omega);have g1:=bt.c1;have cH:=aa hG;have aN:=aa bt;have eO:=aa hR;have cY:=hw1.symm;have BS:=cc.symm;clear hG hpl hg0 hR bD bt hw1 cc;go_enter akZ,ntmps85;go_wp2_with fail;refine Su.mono ?_;rintro r w3 ⟨rfl,uE,aB⟩;have gN:=aN.out.below aB;have hs3:=(kL uE _ rfl).2;have vZ:=gJ uE (show w.heap.size<=w2.heap.size by omega);have Sv:=cH.out.below gN.aQ;obtain⟨lb,cC,rfl,hlb,hlc⟩:∃b off,la=θ ⟨b,off,η⟩/\b<w3.heap.size/\(w3.cell? ⟨b,off+V*2,η⟩=θ (.int .i64 g.lives[V].1)/\w3.cell? ⟨b,off+V*2+1,η⟩=θ (.int .i64 g.lives[V].2)):=by
  rcases Sv.lv with h0|⟨b,off,rfl,cp,hc⟩
  .rw[h0]at jo;simp at jo
  exact⟨b,off,rfl,cp,eg.get jo hc⟩
 obtain⟨Sw,Sx⟩:=hlc;have Em:=gN.c1;have hal:=λW=>zG g.lives[V].1 g.lives[V].2 t W;rw[<-pJ t g.lives V jo]at hal;have bw:=aa gN;cases ha:bl t g.lives (V:Int)with
 |false=>
  rw[ha]at hal;have bx:Hid (oP g (V:Int) t=List.replicate g.lives.length (-1)):=by show _=_;unfold oP;rw[ς (by rw[ha];simp)]
  go_wp2_with fail;refine(hal _).mono ?_;rintro r aO ⟨rfl,bT⟩;have ki:=cE vZ bT;rw[hs2]at ki;have HE:=aa ki;have gb:=aa (bw.out.below bT).aQ;go_wp2;go_ret;exact⟨_,rfl,by rw[bx.out];exact HE.out,gb.out⟩
 |true=>
  rw[ha]at hal;have bx:Hid (oP g (V:Int) t=gW (j8 g (V:Int) t) (cq g).reverse):=by show _=_;unfold oP;rw[χ ha]
  go_wp2_with fail;refine(hal _).mono ?_;rintro r aO ⟨rfl,bT⟩;have ki:=cE vZ bT;have uF:=bw.out.below bT;have hs5:=bT.size;have fz:=mX ki V;have xX:=dx.cell ki jo;rw[hs2]at fz xX;clear hal bT vZ bw Sw Sx Em;obtain⟨bW,dU⟩:∃x,x=aO.setCell ⟨w.heap.size+1+1,V,η⟩ (.int .i64 t):=⟨_,rfl⟩;have s8:dx bW w.heap.size (w.heap.size+1+1) g.lives.length g.lives.length (j8 g (V:Int) t):=by rw[dU];rw[hs2]at ki;have:=dx.set ki V t;simpa[j8]using this
  have dD:Below w.heap.size w bW:=by rw[dU];exact uF.aQ.setCell (p:=⟨w.heap.size+1+1,V,η⟩) (by simp only;omega) _
  have BR:aO.heap.size=bW.heap.size:=by rw[dU];simp[eV]
  have k0:bW.cell? ⟨w.heap.size,0,η⟩=θ (.int .i64 g.hor):=by rw[dU,rJ (by omega)];exact uF.c0
  have k1:bW.cell? ⟨w.heap.size,1,η⟩=θ (.slice (θ ⟨lb,cC,η⟩) g.lives.length lc):=by rw[dU,rJ (by omega)];exact uF.c1
  have k2:bW.cell? ⟨w.heap.size,2,η⟩=θ (.slice ea g.af.length ec):=by rw[dU,rJ (by omega)];exact uF.c2
  have zP:=Ss g (θ ⟨lb,cC,η⟩) ea lc ec bW (cH.out.below dD) eO.out;have BT:=dU.symm;clear dU ki uF;obtain⟨dA,hM1⟩:∃M,M=w.heap.size+1+1:=⟨_,rfl⟩;obtain⟨gO,zQ⟩:∃M,M=bW.heap.size:=⟨_,rfl⟩;have F9:dA<gO:=by omega
  go_wp2_with fail;refine zP.mono ?_;rintro r w7 ⟨u,rfl,xY,ko⟩;rw[<-hM1];rw[<-hM1]at s8;rw[<-zQ]at xY;have HF:pQ w w7 dA gO g.lives.length u (cq g) (gW (j8 g (V:Int) t) ((cq g).reverse.take 0)):=⟨cE s8 ko,xY,dD.trans (ko.mono dD.size)⟩;have hok:∀r∈cq g,uC g r:=λr hr=>qC eO.out hr;have uo:(cq g).length<=3000:=Nat.le_trans (LN g _) (Nat.le_trans (Nat.mul_le_mul (show g.hor.toNat<=100 by have:=eO.out.hor;omega) eO.out.qm) (by omega));obtain⟨ao,cap,rfl,_⟩:=aaS xY;have Ho:g.hor<=100:=eO.out.hor.2;generalize cq g=bn at*;have e7:=aa hok;have lN:IntKind.i64.wrap ((bn.length:Int)- 1)=(bn.length:Int)- 1:=n6 _ (by omega) (by omega);clear zP BT s8 dD xY ko k0 k1 k2 fz xX hM1 zQ BR hs5 hs3 hs2 hs1 cH eO hok hlb;go_wp2_with fail;go_loopw [9] (λi wr=>∃k:Nat,k<=bn.length/\i=.int .i64 ((bn.length:Int)- 1-(k:Int))/\pQ w wr dA gO g.lives.length (.slice ao bn.length cap) bn (gW (j8 g (V:Int) t) (bn.reverse.take k))) (λi _=>(intOf i+1).toNat)
  case atStart=>exact⟨0,Nat.zero_le _,by simp,HF⟩
  case round=>
   clear HF lN;obtain⟨k,hk,rfl,S⟩:=hrel;by_cases bp:k<bn.length
   ·(obtain⟨J,hJ⟩:∃J:Nat,J=bn.length- 1-k:=⟨_,rfl⟩;(have SC:J<bn.length:=by omega);(have aa7:(bn.length:Int)- 1-(k:Int)=(J:Int):=by omega);(have aa8:Hid ((J:Int)- 1=(bn.length:Int)- 1-((k+1:Nat):Int)):=by show _=_;omega);have azV:IntKind.i64.wrap ((J:Int)- 1)=(J:Int)- 1:=n6 _ (by omega) (by omega);(have azW:(J:Int)<(bn.length:Int):=by omega);rw[aa7];obtain⟨rb,cap',e,hrb,gf⟩:=S.kT SC;simp only[jU,yE]at e;obtain⟨rfl,rfl⟩:=e;have hmem:=e7.out bn[J] (List.getElem_mem SC);(have hgd:bn.getD J qD=bn[J]:=by rw[List.getD_eq_getElem?_getD,List.getElem?_eq_getElem SC];rfl);(have hrev:bn.reverse[k]'(by simpa using bp)=bn[J]:=by rw[List.getElem_reverse];simp only[hJ]);have aX:=apy (T:=j8 g (V:Int) t) (l:=bn.reverse) (k:=k) (by simpa using bp);rw[hrev]at aX;have aX:=aa aX;rw[hgd]at gf;clear hrev hJ aa7;generalize bn[J]=rr at*;obtain⟨E,d,a,b,ar,c⟩:=rr;have ha0:=hmem.a0;have hb0:=hmem.b0;have Bn:=hmem.d0;have xQ:=hmem.lt;have nM:=hmem.hor;simp only at ha0 hb0 Bn xQ nM;obtain⟨A,rfl⟩:∃A:Nat,a=(A:Int):=⟨a.toNat,by omega⟩;obtain⟨B,rfl⟩:∃B:Nat,b=(B:Int):=⟨b.toNat,by omega⟩;(have hA:A<g.lives.length:=by omega);(have hB:B<g.lives.length:=by omega);generalize gW (j8 g (V:Int) t) (bn.reverse.take k)=T at*;obtain⟨wa,bY⟩:∃x,x=wr.alloc (.cells #[.int .i64 E,.int .i64 d,.int .i64 (A:Int),.int .i64 (B:Int),.int .i64 ar,.int .i64 c] 140):=⟨_,rfl⟩;have c0:=gf.c0;have c1:=gf.c1;have c2:=gf.c2;have c3:=gf.c3;have c4:=gf.c4;have c5:=gf.c5;simp only at c0 c1 c2 c3 c4 c5;(have xZ:pQ w wa dA gO g.lives.length (.slice (θ ⟨rb,0,η⟩) bn.length cap) bn T:=by rw[bY];exact S.below (ax wr _));have xa:=dx.cell xZ.t hA;have rL:=dx.cell xZ.t hB;(have y0:wa.cell? ⟨wr.heap.size,0,η⟩=θ (.int .i64 E):=by rw[bY];exact cx rfl rfl);(have y1:wa.cell? ⟨wr.heap.size,1,η⟩=θ (.int .i64 d):=by rw[bY];exact cx rfl rfl);(have y2:wa.cell? ⟨wr.heap.size,2,η⟩=θ (.int .i64 (A:Int)):=by rw[bY];exact cx rfl rfl);(have s9:wa.cell? ⟨wr.heap.size,3,η⟩=θ (.int .i64 (B:Int)):=by rw[bY];exact cx rfl rfl);(have rM:wa.cell? ⟨wr.heap.size,4,η⟩=θ (.int .i64 ar):=by rw[bY];exact cx rfl rfl);have zR:=bY.symm;have HG:=aa xZ;clear gf S xZ hmem hgd bY;obtain⟨x1,hx1⟩:∃x,x=T.getD A 0:=⟨_,rfl⟩;obtain⟨x2,hx2⟩:∃x,x=T.getD B 0:=⟨_,rfl⟩;rw[<-hx1]at xa;rw[<-hx2]at rL;have En:=aa hx1;have HH:=aa hx2;(have Sz:(A:Int)<(g.lives.length:Int):=by omega);(have Sb:(B:Int)<(g.lives.length:Int):=by omega);have kS:Hid (¬(ar<=x2)->gW (j8 g (V:Int) t) (bn.reverse.take (k+1))=T):=by intro h;rw[aX.out];unfold nj;simp only[Int.toNat_natCast];rw[<-HH.out,ς h]);(have n9:Hid (ar<=x2->gW (j8 g (V:Int) t) (bn.reverse.take (k+1))=T.set A (if x1<d then d else x1)):=by intro h;(have hmx:(if x1<d then d else x1)=max x1 d:=by split<;>omega);rw[aX.out];unfold nj;simp only[Int.toNat_natCast];rw[<-En.out,<- HH.out,χ h,hmx]);(have x4:Hid (¬(ar<=x2)->∀N,pQ w (wa.drewN N) dA gO g.lives.length (.slice (θ ⟨rb,0,η⟩) bn.length cap) bn (gW (j8 g (V:Int) t) (bn.reverse.take (k+1)))):=by intro h N;rw[kS.out h];exact HG.out.below (below_drewN (Below.refl _ _) N));clear hx1 hx2 aX kS;by_cases q2:ar<=x2
    ·(have d2:decide (ar<=x2)=true:=by simpa using q2);have kg:=aa (n9.out q2);have LZ:=aa (λ(W:υ) (h:pQ w W dA gO g.lives.length (.slice (θ ⟨rb,0,η⟩) bn.length cap) bn T)=>h.set F9 A (if x1<d then d else x1));clear x4 n9;go_wp2_with fail
     go_quiet (fail)
     clear rL q2 d2 c0 c1 c2 c3 c4 c5;go_wp2_with fail;refine D7 (S:=λw3=>w3.cell? ⟨wr.heap.size,1,η⟩=θ (.int .i64 d)/\w3.cell? ⟨wr.heap.size,2,η⟩=θ (.int .i64 (A:Int))/\w3.cell? ⟨dA,A,η⟩=θ (.int .i64 x1)) (by kernel_rfl) (by simp) (by kernel_rfl) (by kernel_rfl) ⟨y1,y2,xa⟩ (λhHeld=>?_);generalize Ep:(wa.drewN nq).drew=jf at*;(have x5:pQ w jf dA gO g.lives.length (.slice (θ ⟨rb,0,η⟩) bn.length cap) bn T:=by rw[<-Ep];exact HG.out.below (below_drewN (Below.refl _ _) (nq+1)));simp only[List.pop_toArray,List.dropLast,List.back!_toArray,List.getLast!];clear Ep y0 y1 y2 s9 rM xa;refine tk 0 ?_;refine tk 1 ?_;refine tk 2 ?_;refine tk 3 ?_;refine tk 4 ?_;refine tk 5 ?_;refine tk 6 ?_;refine tk 7 ?_;refine tk 8 ?_;refine tk 9 ?_;refine tk 10 ?_;refine tk 11 ?_;refine tk 12 ?_;refine gU (by kernel_rfl) ?_ _;refine pE (λK hK=>?_);have aa9:=mX x5.t A;have apA:=hHeld.2.2;have rN:=LZ.out _ x5;clear hHeld;go_simp;refine hK.out _ _ ?_;clear hK K aa9 apA;(try rw[show max x1 d=if x1<d then d else x1 by split<;>omega]);generalize jf.setCell ⟨dA,A,η⟩ (.int .i64 (if x1<d then d else x1))=zS at*;(have SB:Hid (pQ w zS dA gO g.lives.length (.slice (θ ⟨rb,0,η⟩) bn.length cap) bn (gW (j8 g (V:Int) t) (bn.reverse.take (k+1)))):=by rw[kg.out];exact rN);clear rN x5 kg LZ;generalize (if x1<d then d else x1)=mx at*;go_wp2;go_roundw
     case rel=>exact⟨k+1,by omega,by rw[<-aa8.out],SB.out⟩
     case measure=>simp[intOf]<;>omega
    ·(have d2:decide (ar<=x2)=false:=by simpa using q2);have lJ:=aa (x4.out q2);clear x4 n9;go_wp2_with fail
     go_quiet (fail)
     clear xa rL c0 c1 c2 c3 c4 c5 y0 y1 y2 s9 rM zR q2 d2;go_wp2;go_roundw
     case rel=>exact⟨k+1,by omega,by rw[<-aa8.out],lJ.out _⟩
     case measure=>simp[intOf]<;>omega
   ·(have c6:bn.length=k:=by omega);(have o7:(bn.length:Int)- 1-(k:Int)= -1:=by omega);rw[o7];rw[<-c6,List.take_of_length_le (by simp),<- bx.out]at S;have aU:=aa S;clear S o7 c6;go_wp2;go_ret;exact⟨_,rfl,aU.out.t,aU.out.b⟩
def zT(g:bg)(v t:Int):List Int:=if dB g v t=0 then(mL g v t).1 else[]
def zU(g:bg)(v t:Int):List Int:=if dB g v t=0 then oP g v t else[]
theorem apB g la ea lc ec v t w(hG:cL w la ea g):Ξ ah 50 #[.agg #[.int .i64 g.hor,.slice la g.lives.length lc,.slice ea g.af.length ec],.int .i64 v,.int .i64 t] w λr w'=>∃u,r=.returned (.tuple #[u,.int .i64 (dB g v t)])/\w'.ownsRow w.heap.size 3 1 u (zT g v t).length ((zT g v t).map (bM .i64))/\Below w.heap.size w w':=by
 have aA:=qA w g la ea lc ec 59;have h1:=LH g la ea lc ec v t _ (hG.below aA.aQ);by_cases e1:dB g v t=0
 case neg=>
  have bU:Hid (zT g v t=[]):=by show _=_;unfold zT;rw[ς e1]
  have d1:(dB g v t !=0)=true:=by simpa using e1
  generalize dB g v t=n at*;go_enter Ys,ntmps50;go_wp2_with fail;refine h1.mono ?_;rintro r w1 ⟨rfl,aj⟩;have cz:=(aA.below aj).aQ;go_wp2;(try simp only[lB,Exit.then]);refine cR (vX rfl _ _ _) rfl ?_;exact⟨_,rfl,by rw[bU.out];exact dJ _ _ _ _,cz⟩
 have bU:Hid (zT g v t=(mL g v t).1):=by show _=_;unfold zT;rw[χ e1]
 have cA:=aa (aaI g v t).1;have h2:=λW (hb:Below w.heap.size w W)=>apt g la ea lc ec v t W (hG.below hb) e1;rw[e1]at h1 ⊢;generalize (mL g v t).1=T at*;generalize (mL g v t).2=L at*;have SD:=bU.out;have gw:=aa SD;go_enter Ys,ntmps50;go_wp2_with fail;refine h1.mono ?_;rintro r w1 ⟨rfl,aj⟩;have bD:=aA.below aj;have g0:=bD.c0;have g1:=bD.c1;have g2:=bD.c2;have mF:=bD.aQ;go_wp2_with fail;refine(h2 _ mF).mono ?_;rintro r w2 ⟨m1,m2,rfl,hZ,_,aq⟩;have mE:=aa (gJ hZ mF.size);have cz:=bK mF aq;go_wp2;(try simp only[lB,Exit.then]);refine cR (vX rfl _ _ _) rfl ?_;exact⟨_,rfl,by rw[gw.out,cA.out];exact mE.out,cz⟩
theorem apC g la ea lc ec v t w(hG:cL w la ea g):Ξ ah 51 #[.agg #[.int .i64 g.hor,.slice la g.lives.length lc,.slice ea g.af.length ec],.int .i64 v,.int .i64 t] w λr w'=>∃u,r=.returned (.tuple #[u,.int .i64 (dB g v t)])/\w'.ownsRow w.heap.size 3 1 u (zU g v t).length ((zU g v t).map (bM .i64))/\Below w.heap.size w w':=by
 have aA:=qA w g la ea lc ec 59;have h1:=LH g la ea lc ec v t _ (hG.below aA.aQ);by_cases e1:dB g v t=0
 case neg=>
  have bU:Hid (zU g v t=[]):=by show _=_;unfold zU;rw[ς e1]
  have d1:(dB g v t !=0)=true:=by simpa using e1
  generalize dB g v t=n at*;go_enter Yt,ntmps51;go_wp2_with fail;refine h1.mono ?_;rintro r w1 ⟨rfl,aj⟩;have cz:=(aA.below aj).aQ;go_wp2;(try simp only[lB,Exit.then]);refine cR (vX rfl _ _ _) rfl ?_;exact⟨_,rfl,by rw[bU.out];exact dJ _ _ _ _,cz⟩
 have bU:Hid (zU g v t=oP g v t):=by show _=_;unfold zU;rw[χ e1]
 have cA:=aa (aaN g v t);have h2:=λW (hb:Below w.heap.size w W)=>apz g la ea lc ec v t W (hG.below hb) e1;rw[e1]at h1 ⊢;generalize oP g v t=T at*;have SD:=bU.out;have gw:=aa SD;go_enter Yt,ntmps51;go_wp2_with fail;refine h1.mono ?_;rintro r w1 ⟨rfl,aj⟩;have bD:=aA.below aj;have g0:=bD.c0;have g1:=bD.c1;have g2:=bD.c2;have mF:=bD.aQ;go_wp2_with fail;refine(h2 _ mF).mono ?_;rintro r w2 ⟨m1,rfl,hZ,aq⟩;have mE:=aa (gJ hZ mF.size);have cz:=bK mF aq;go_wp2;(try simp only[lB,Exit.then]);refine cR (vX rfl _ _ _) rfl ?_;exact⟨_,rfl,by rw[gw.out,cA.out];exact mE.out,cz⟩
inductive iF (g:bg) (F:Int->Int->Option Int) (pr:b7->Int):Int->Int->Int->Prop
 |base {v t p:Int}:F v t=θ p->iF g F pr v t p
 |wait {v t p:Int}:iF g F pr v t p->bl (t+1) g.lives v=ν->iF g F pr v (t+1) p
 |kT {p:Int}{r:b7}:r∈cq g->iF g F pr r.2.2.1 r.2.1 p->iF g F pr r.2.2.2.1 r.2.2.2.2.1 (p+pr r)
def gz(g:bg)(F:Int->Int->Option Int)(s0:Int):Prop:=∀v t p,F v t=θ p->0<=v/\bl t g.lives v=ν/\s0<=t
theorem iF.place(R:cQ g){s0}(hF:gz g F s0){p}(h:iF g F pr v t p):0<=v/\v<g.lives.length/\bl t g.lives v=ν/\0<=t/\t<g.hor/\s0<=t:=by
 have key:0<=v/\bl t g.lives v=ν/\s0<=t:=by
  induction h with
  |base h=>exact hF _ _ _ h
  |wait _ h ih=>exact⟨ih.1,h,by omega⟩
  |kT hr _ ih=>have:=qC R hr;have h1:=this.lt;exact⟨this.b0.1,this.alB,by omega⟩
 have:=pL R key.2.1;exact⟨key.1,by omega,key.2.1,this.2.1,this.2.2,key.2.2⟩
abbrev uH:=Int×b7
abbrev kq:=Int->Int->Option uH
def lQ(M:kq)(v t:Int)(x:uH):kq:=λa b=>if a=v/\b=t then θ x else M a b
theorem x6 M v t x:lQ M v t x v t=θ x:=by unfold lQ;rw[χ ⟨rfl,rfl⟩]
theorem qF M{a b}x(h:¬(a=v/\b=t)):lQ M v t x a b=M a b:=by unfold lQ;rw[ς h]
def Er(o:Option uH)(p:Int):Bool:=match o with|none=>ν|some x=>decide (p<x.1)
def BW(o:Option uH)(p:Int):Bool:=match o with|none=>ν|some x=>decide (p<=x.1)
def qG(M:kq)(r:b7)(p:Int):kq:=
 match M r.2.2.1 r.2.1 with
 |none=>M
 |some h=>if Er (M r.2.2.2.1 r.2.2.2.2.1) (h.1+p)=ν then lQ M r.2.2.2.1 r.2.2.2.2.1 (h.1+p,r)else M
def we(g:bg)(now:Int)(M:kq)(v:Int):kq:=
 match M v (now- 1)with
 |none=>M
 |some x=>if bl now g.lives v=ν then(if BW (M v now) x.1=ν then lQ M v now x else M)else M
def pR(g:bg)(now:Int)(M:kq):Nat->kq
 |0=>M
 |k+1=>we g now (pR g now M k) (k:Int)
structure iw(g:bg)(F:Int->Int->Option Int)(pr:b7->Int)(s0 now dp:Int)(k i:Nat)(M:kq):Prop where
 snd:∀v t x,M v t=θ x->iF g F pr v t x.1
 fst:∀v t p,F v t=θ p->∃x,M v t=θ x/\x.1<=p
 wt:∀(v t:Int) (x:uH),(t+1<now\/(t+1=now/\v<(k:Int)))->M v t=θ x->bl (t+1) g.lives v=ν->∃y,M v (t+1)=θ y/\y.1<=x.1
 rd:∀r∈(cq g).take i,∀x,M r.2.2.1 r.2.1=θ x->∃y,M r.2.2.2.1 r.2.2.2.2.1=θ y/\y.1<=x.1+pr r
 done:∀r∈(cq g).take i,r.2.1<=dp
 ahead:∀r∈(cq g).drop i,now<=r.2.1\/r.2.1<s0
 way:∀v t x,M v t=θ x->(∃t0,F v t0=θ x.1/\t0<=t)\/(x.2∈(cq g).take i/\x.2.2.2.2.1=v/\x.2.2.2.2.2.1<=t/\∃y,M x.2.2.2.1 x.2.2.1=θ y/\y.1+pr x.2=x.1)
theorem iw.start{s0}(hF:gz g F s0){M}(hM:∀v t,(M v t).map (·.1)=F v t):iw g F pr s0 s0 (s0- 1) 0 0 M:=by
 have e:∀v t x,M v t=θ x->F v t=θ x.1:=λv t x h=>by rw[<-hM,h];rfl
 refine⟨λv t x h=>.base (e v t x h),λv t p h=>?_,λv t x h hx _=>?_,λr hr=>by simp at hr,λr hr=>by simp at hr,λr _=>by omega,λv t x h=>.inl ⟨t,e v t x h,Int.le_refl _⟩⟩
 .rw[<-hM]at h;cases hx:M v t with
  |none=>rw[hx]at h;cases h
  |some x=>rw[hx]at h;simp at h;exact⟨x,rfl,by omega⟩
 .have:=(hF _ _ _ (e v t x hx)).2.2;omega
theorem iw.wait{g}{F}{pr}{s0 now}{k i}{M}(h:iw g F pr s0 now (now- 1) k i M):iw g F pr s0 now (now- 1) (k+1) i (we g now M (k:Int)):=by
 have keep:(∀x,M (k:Int) (now- 1)=θ x->bl now g.lives (k:Int)=ν->∃y,M (k:Int) now=θ y/\y.1<=x.1)->iw g F pr s0 now (now- 1) (k+1) i M:=λhk=>
  ⟨h.snd,h.fst,λv t x ht hx ha=>by
    by_cases e:t+1=now/\v=(k:Int)
    .obtain⟨e1,rfl⟩:=e;(have e2:t=now- 1:=by omega);subst e2;rw[e1]at ha ⊢;exact hk x hx ha
    .exact h.wt v t x (by omega) hx ha,h.rd,h.done,h.ahead,h.way⟩
 unfold we;cases hx:M (k:Int) (now- 1)with
 |none=>exact keep λx hx'=>by rw[hx]at hx';cases hx'
 |some x=>
  simp only;split
  .rename_i ha;split
   ·(rename_i hl;have apD:=h.snd _ _ _ hx;have apE:iF g F pr (k:Int) now x.1:=by have:=apD.wait (by rw[show now- 1+1=now by omega];exact ha);rwa[show now- 1+1=now by omega]at this);(have hle:∀y,M (k:Int) now=θ y->x.1<=y.1:=λy hy=>by unfold BW at hl;rw[hy]at hl;simpa using hl);have down:∀a b y,M a b=θ y->∃z,lQ M (k:Int) now x a b=θ z/\z.1<=y.1:=λa b y hy=>by
     by_cases e:a=(k:Int)/\b=now
     .obtain⟨rfl,rfl⟩:=e;exact⟨x,x6 _ _ _ _,hle y hy⟩
     .exact⟨y,by rw[qF _ _ e];exact hy,Int.le_refl _⟩
    refine⟨λv t y hy=>?_,λv t p hp=>?_,λv t y ht hy ha'=>?_,λr hr y hy=>?_,h.done,h.ahead,λv t y hy=>?_⟩
    .by_cases e:v=(k:Int)/\t=now
     .obtain⟨rfl,rfl⟩:=e;rw[x6]at hy;cases hy;exact apE
     .rw[qF _ _ e]at hy;exact h.snd v t y hy
    .obtain⟨y,hy,hyp⟩:=h.fst v t p hp;obtain⟨z,hz,HI⟩:=down v t y hy;exact⟨z,hz,by omega⟩
    ·(have e:¬(v=(k:Int)/\t=now):=by omega);rw[qF _ _ e]at hy;by_cases e2:t+1=now/\v=(k:Int)
     .obtain⟨e1,rfl⟩:=e2;(have e3:t=now- 1:=by omega);subst e3;rw[hx]at hy;(cases hy);rw[e1];exact⟨x,x6 _ _ _ _,Int.le_refl _⟩
     .obtain⟨z,hz,HI⟩:=h.wt v t y (by omega) hy ha';obtain⟨u,hu,SE⟩:=down v (t+1) z hz;exact⟨u,hu,by omega⟩
    .have hd:=h.done r hr;rw[qF _ _ (by omega)]at hy;obtain⟨z,hz,HI⟩:=h.rd r hr y hy;obtain⟨u,hu,SE⟩:=down _ _ z hz;exact⟨u,hu,by omega⟩
    .have old:∀t' y,t'<=t->M v t'=θ y->(∃t0,F v t0=θ y.1/\t0<=t)\/(y.2∈(cq g).take i/\y.2.2.2.2.1=v/\y.2.2.2.2.2.1<=t/\∃z,lQ M (k:Int) now x y.2.2.2.1 y.2.2.1=θ z/\z.1+pr y.2=y.1):=λt' y ht' hy=>by
      rcases h.way v t' y hy with⟨t0,h1,h2⟩|⟨h1,h2,h3,z,h4,h5⟩
      .exact .inl ⟨t0,h1,by omega⟩
      .refine .inr ⟨h1,h2,by omega,z,?_,h5⟩;have hd:=h.done _ h1;rw[qF _ _ (by omega)];exact h4
     by_cases e:v=(k:Int)/\t=now
     .obtain⟨rfl,rfl⟩:=e;(rw[x6]at hy;cases hy);exact old _ _ (by omega) hx
     .rw[qF _ _ e]at hy;exact old _ _ (Int.le_refl _) hy
   .rename_i hl;refine keep λx' hx' _=>?_;(rw[hx]at hx';cases hx');unfold BW at hl;cases hy:M (k:Int) now with
    |none=>rw[hy]at hl;simp at hl
    |some y=>rw[hy]at hl;simp at hl;exact⟨y,rfl,by omega⟩
  .rename_i ha;exact keep λ_ _ h=>absurd h ha
theorem iw.waits{s0 now}{M}(h:iw g F pr s0 now (now- 1) 0 i M):∀k,iw g F pr s0 now (now- 1) k i (pR g now M k)
 |0=>h
 |k+1=>(h.waits k).wait
theorem iw.turn{s0 now}{M}(h:iw g F pr s0 now (now- 1) k i M):iw g F pr s0 now now k i M:={h with done:=λr hr=>by have:=h.done r hr;omega }
theorem iw.take(R:cQ g){s0 now}(hF:gz g F s0){M}(h:iw g F pr s0 now now k i M)(hi:i<(cq g).length)(hd:(cq g)[i].2.1<=now):iw g F pr s0 now now k (i+1) (qG M (cq g)[i] (pr (cq g)[i])):=by
 have hr:=List.getElem_mem hi;have hok:=qC R hr;have apF:=h.ahead (cq g)[i] (by rw[List.drop_eq_getElem_cons hi];exact List.mem_cons_self);have Es:=List.take_succ_eq_append_getElem hi;have hdr:∀q∈(cq g).drop (i+1),q∈(cq g).drop i:=λq hq=>by rw[List.drop_eq_getElem_cons hi];exact List.mem_cons_of_mem _ hq
 have hsub:∀q∈(cq g).take i,q∈(cq g).take (i+1):=λq hq=>by rw[Es];exact List.mem_append_left _ hq
 obtain⟨r,apG⟩:∃r,r=(cq g)[i]:=⟨_,rfl⟩;rw[<-apG]at hr hok apF Es hd ⊢;have hlt:=hok.lt;have L1:∀q∈(cq g).take (i+1),q.2.1<=now:=λq hq=>by
  rw[Es,List.mem_append,List.mem_singleton]at hq;rcases hq with hq|rfl
  .exact h.done q hq
  .exact hd
 have keep:(∀x,M r.2.2.1 r.2.1=θ x->∃y,M r.2.2.2.1 r.2.2.2.2.1=θ y/\y.1<=x.1+pr r)->iw g F pr s0 now now k (i+1) M:=λhk=>
  ⟨h.snd,h.fst,h.wt,λq hq x hx=>by
    rw[Es,List.mem_append,List.mem_singleton]at hq;rcases hq with hq|rfl
    .exact h.rd q hq x hx
    .exact hk x hx,L1,λq hq=>h.ahead q (hdr q hq),λv t x hx=>by
    rcases h.way v t x hx with h1|⟨h1,h2⟩
    .exact .inl h1
    .exact .inr ⟨hsub _ h1,h2⟩⟩
 unfold qG;cases hx:M r.2.2.1 r.2.1 with
 |none=>exact keep λx hx'=>by rw[hx]at hx';cases hx'
 |some x=>
  simp only;have hP:=h.snd _ _ _ hx;have hpl:=hP.place R hF;have azX:r.2.1=now:=by omega
  split
  ·(rename_i hl;have hle:∀y,M r.2.2.2.1 r.2.2.2.2.1=θ y->x.1+pr r<=y.1:=λy hy=>by unfold Er at hl;rw[hy]at hl;simp at hl;omega);have down:∀a b y,M a b=θ y->∃z,lQ M r.2.2.2.1 r.2.2.2.2.1 (x.1+pr r,r) a b=θ z/\z.1<=y.1:=λa b y hy=>by
    by_cases e:a=r.2.2.2.1/\b=r.2.2.2.2.1
    .obtain⟨rfl,rfl⟩:=e;exact⟨_,x6 _ _ _ _,hle y hy⟩
    .exact⟨y,by rw[qF _ _ e];exact hy,Int.le_refl _⟩
   refine⟨λv t y hy=>?_,λv t p hp=>?_,λv t y ht hy ha'=>?_,λq hq y hy=>?_,L1,λq hq=>h.ahead q (hdr q hq),λv t y hy=>?_⟩
   .by_cases e:v=r.2.2.2.1/\t=r.2.2.2.2.1
    .obtain⟨rfl,rfl⟩:=e;rw[x6]at hy;cases hy;exact .kT hr hP
    .rw[qF _ _ e]at hy;exact h.snd v t y hy
   .obtain⟨y,hy,hyp⟩:=h.fst v t p hp;obtain⟨z,hz,HI⟩:=down v t y hy;exact⟨z,hz,by omega⟩
   .rw[qF _ _ (by omega)]at hy;obtain⟨z,hz,HI⟩:=h.wt v t y ht hy ha';obtain⟨u,hu,SE⟩:=down v (t+1) z hz;exact⟨u,hu,by omega⟩
   .have apH:=L1 q hq;rw[qF _ _ (by omega)]at hy;rw[Es,List.mem_append,List.mem_singleton]at hq;rcases hq with hq|rfl
    .obtain⟨z,hz,HI⟩:=h.rd q hq y hy;obtain⟨u,hu,SE⟩:=down _ _ z hz;exact⟨u,hu,by omega⟩
    ·(rw[hx]at hy;cases hy);exact⟨_,x6 _ _ _ _,Int.le_refl _⟩
   .by_cases e:v=r.2.2.2.1/\t=r.2.2.2.2.1
    .obtain⟨rfl,rfl⟩:=e;(rw[x6]at hy;cases hy);refine .inr ⟨by rw[Es];exact List.mem_append_right _ (List.mem_singleton.2 rfl),rfl,Int.le_refl _,x,?_,rfl⟩;rw[qF _ _ (by simp only;omega)];exact hx
    .rw[qF _ _ e]at hy;rcases h.way v t y hy with h1|⟨h1,h2,h3,z,h4,h5⟩
     .exact .inl h1
     .refine .inr ⟨hsub _ h1,h2,h3,z,?_,h5⟩;have apH:=L1 _ (hsub _ h1);rw[qF _ _ (by omega)];exact h4
  .rename_i hl;refine keep λx' hx'=>?_;(rw[hx]at hx';cases hx');unfold Er at hl;cases hy:M r.2.2.2.1 r.2.2.2.2.1 with
   |none=>rw[hy]at hl;simp at hl
   |some y=>rw[hy]at hl;simp at hl;exact⟨y,rfl,by omega⟩
theorem iw.next(R:cQ g){s0 now}(hF:gz g F s0){M}(h:iw g F pr s0 now now g.lives.length i M)(hd:∀hi:i<(cq g).length,now<(cq g)[i].2.1):iw g F pr s0 (now+1) (now+1- 1) 0 i M:=by
 refine{h with wt:=λv t x ht hx ha=>h.wt v t x ?_ hx ha,done:=λr hr=>by have:=h.done r hr;omega,ahead:=λr hr=>?_ }
 .have:=(h.snd v t x hx).place R hF;omega
 .by_cases hi:i<(cq g).length
  .have hs:(cq g).Pairwise λa b=>a.2.1<=b.2.1:=LP g _;have hs2:=hs.drop (i:=i);rw[List.drop_eq_getElem_cons hi]at hs2 hr;have:=hd hi;rcases List.mem_cons.1 hr with rfl|hr
   .omega
   .have:=(List.pairwise_cons.1 hs2).1 r hr;omega
  .rw[List.drop_eq_nil_of_le (by omega)]at hr;simp at hr
structure BX(g:bg)(F:Int->Int->Option Int)(pr:b7->Int)(M:kq):Prop where
 snd:∀v t x,M v t=θ x->iF g F pr v t x.1
 all:∀v t p,iF g F pr v t p->∃x,M v t=θ x/\x.1<=p
 way:∀v t x,M v t=θ x->(∃t0,F v t0=θ x.1/\t0<=t)\/(x.2∈cq g/\x.2.2.2.2.1=v/\x.2.2.2.2.2.1<=t/\∃y,M x.2.2.2.1 x.2.2.1=θ y/\y.1+pr x.2=x.1)
theorem iw.fin(R:cQ g){s0 dp}(hF:gz g F s0){M}(h:iw g F pr s0 g.hor dp 0 i M):BX g F pr M:=by
 refine⟨h.snd,λv t p hp=>?_,λv t x hx=>?_⟩
 .induction hp with
  |base hp=>exact h.fst _ _ _ hp
  |@wait v t p hp ha ih=>
   obtain⟨x,hx,apI⟩:=ih;have:=pL R ha;obtain⟨y,hy,apJ⟩:=h.wt v t x (by omega) hx ha;exact⟨y,hy,by omega⟩
  |@kT p r hr hp ih=>
   obtain⟨x,hx,apI⟩:=ih;have hmem:r∈(cq g).take i:=by
    have hr':=hr;rw[<-List.take_append_drop i (cq g),List.mem_append]at hr';rcases hr' with h1|h1
    .exact h1
    .have:=h.ahead r h1;have h2:=(qC R hr).lt;have h3:=(qC R hr).hor;have:=(h.snd _ _ _ hx).place R hF;omega
   obtain⟨y,hy,apJ⟩:=h.rd r hmem x hx;exact⟨y,hy,by omega⟩
 .rcases h.way v t x hx with h1|⟨h1,h2⟩
  .exact .inl h1
  .exact .inr ⟨List.mem_of_mem_take h1,h2⟩
theorem iF.stay{p}(h:iF g F pr v t p)(ha:bl t g.lives v=ν):∀n:Nat,bl (t+n) g.lives v=ν->iF g F pr v (t+n) p
 |0,_=>by simpa using h
 |n+1,hn=>by have h1:bl (t+n) g.lives v=true:=aaC ha hn (by omega) (by omega);have h2:=(h.stay ha n h1).wait (by rw[show t+(n:Int)+1=t+((n+1:Nat):Int)by omega];exact hn);rw[show t+(n:Int)+1=t+((n+1:Nat):Int)by omega]at h2;exact h2
theorem iF.waits(R:cQ g){s0}(hF:gz g F s0){t' p}(h:iF g F pr v t p)(ht:t<=t')(ha:bl t' g.lives v=ν):iF g F pr v t' p:=by
 have e:t'=t+((t' -t).toNat:Int):=by omega
 rw[e]at ha ⊢;exact h.stay (h.place R hF).2.2.1 _ ha
def ri(v0 t0:Int):Int->Int->Option Int:=λv t=>if v=v0/\t=t0 then θ 0 else η
theorem L2(h0:0<=v0)(ha:bl t0 g.lives v0=ν):gz g (ri v0 t0) t0:=λv t p h=>by
 unfold ri at h;split at h
 .rename_i e;obtain⟨rfl,rfl⟩:=e;exact⟨h0,ha,Int.le_refl _⟩
 .cases h
def th(g:bg)(pr:b7->Int)(v0 t0 v t p:Int):Prop:=bl t0 g.lives v0=ν/\iF g (ri v0 t0) pr v t p
structure L3(g:bg)(pr:b7->Int)(v0 t0:Int)(L:List Int):Prop where
 len:L.length=g.lives.length
 is:∀v:Nat,v<g.lives.length->L.getD v 0=1099511627776\/∃t,th g pr v0 t0 (v:Int) t (L.getD v 0)
 least:∀v:Nat,v<g.lives.length->∀t p,th g pr v0 t0 (v:Int) t p->L.getD v 0<=p
def uI(g:bg)(pr:b7->Int):Prop:=∀r∈cq g,0<=pr r/\pr r<=1000
theorem iF.range(R:cQ g)(lR:uI g pr){p}(h0:0<=v0)(ha:bl t0 g.lives v0=ν)(h:iF g (ri v0 t0) pr v t p):0<=p/\p<=1000*(t-t0):=by
 induction h with
 |@base v t p h=>
  unfold ri at h;split at h
  .rename_i e;obtain⟨rfl,rfl⟩:=e;cases h;omega
  .cases h
 |wait _ _ ih=>omega
 |kT hr _ ih=>have:=lR _ hr;have:=(qC R hr).lt;omega
theorem th.range(R:cQ g)(lR:uI g pr){p}(h0:0<=v0)(h:th g pr v0 t0 v t p):0<=p/\p<=100000:=by have h1:=h.2.range R lR h0 h.1;have h2:=(h.2.place R (L2 h0 h.1)).2.2.2;have:=R.hor;have:=(pL R h.1).2;omega
theorem SF{a b:List Int}(h:a.length=b.length)(k:∀v,v<a.length->a.getD v 0=b.getD v 0):a=b:=by apply List.ext_getElem h;intro v h1 h2;have:=k v h1;rw[List.getD_eq_getElem?_getD,List.getD_eq_getElem?_getD,List.getElem?_eq_getElem h1,List.getElem?_eq_getElem h2]at this;exact this
theorem apK(R:cQ g)(lR:uI g pr)(h0:0<=v0){L L':List Int}(h:L3 g pr v0 t0 L)(h':L3 g pr v0 t0 L'):L=L':=by
 refine SF (by rw[h.len,h'.len]) λv hv=>?_;rw[h.len]at hv;rcases h.is v hv with e|⟨t,e⟩<;>rcases h'.is v hv with e'|⟨t',e'⟩
 .rw[e,e']
 .have h1:=h.least v hv _ _ e';have h2:=(e'.range R lR h0);omega
 .have h1:=h'.least v hv _ _ e;have h2:=(e.range R lR h0);omega
 .have h1:=h.least v hv _ _ e';have h2:=h'.least v hv _ _ e;omega
open Go.RowKit Go.Maps
variable{M:kq}
theorem Tryz.apL:laidOutB ah=true:=by kernel_rfl
theorem Tryz.aba:(144:Θ)<ah.types.size:=AF (by kernel_rfl)
theorem Tryz.apM:(match ah.underlying 144 with|some (.array _ _)|some (.struct _)=>ν|_=>ο)=true:=by rw[((cD 144).trans underlying144)]
theorem Tryz.apN:ah.keyTypeAt 2 144=true:=by kernel_rfl
theorem Tryz.L4:Keyed ah 144:=Keyed.of_law (deep_law_laid Tryz.apL (m:=2) (by omega) Tryz.aba Tryz.apN Tryz.apM)
theorem Tryz.apO:ah.keyType 144=true:=by kernel_rfl
theorem Tryz.apP:ah.cellsOf 144=2:=by kernel_rfl
theorem Tryz.apQ:ah.cellsOf 3=1:=by kernel_rfl
def mM(n:Int):Prop:= -9223372036854775808<=n/\n<=9223372036854775807
theorem abb{n}(h:mM n):(Lit.int .i64 n).wf=true:=WalkArith.wf_i64 h
def kW(v t:Int):Value:=.agg #[.int .i64 v,.int .i64 t]
def HJ(v t:Int):Lit:=.string (keyBytes [.int .i64 v,.int .i64 t])
theorem HK(hv:mM v)(ht:mM t):keyOf ah 144 (kW v t)=θ (HJ v t):=by have w1:=abb hv;have w2:=abb ht;obtain⟨m,hm⟩:∃m,ah.types.size=m+1:=⟨ah.types.size- 1,by have:=Nat.lt_of_le_of_lt (Nat.zero_le _) Tryz.aba;omega⟩;unfold keyOf;simp only[((cD 144).trans underlying144)];rw[χ (by rw[Tryz.apO];kernel_rfl),hm];unfold Program.keyLits;simp only[((cD 144).trans underlying144),Value.cells,kW];rw[χ ⟨by rw[Tryz.apP];rfl,by kernel_rfl⟩];simp[Program.keyLits,Tryz.apQ,w1,w2,HJ]
theorem apR{a b}(h:kW v t=kW a b):v=a/\t=b:=by unfold kW at h;simp at h;exact h
theorem apS{a b}(hv:mM v)(ht:mM t)(ha:mM a)(hb:mM b)(h:¬(a=v/\b=t)):HJ a b≠HJ v t:=λe=>by have h1:=HK hv ht;rw[<-e]at h1;have:=apR (Tryz.L4.inj (HK ha hb) h1);exact h this
def zW(x:uH):Value:=.agg #[.int .i64 x.1,.int .i64 x.2.1,.int .i64 x.2.2.1,.int .i64 x.2.2.2.1,.int .i64 x.2.2.2.2.1,.int .i64 x.2.2.2.2.2.1,.int .i64 x.2.2.2.2.2.2]
def BZ(x:uH):GU Unit:=.agg [.lit (.int .i64 x.1),.lit (.int .i64 x.2.1),.lit (.int .i64 x.2.2.1),.lit (.int .i64 x.2.2.2.1),.lit (.int .i64 x.2.2.2.2.1),.lit (.int .i64 x.2.2.2.2.2.1),.lit (.int .i64 x.2.2.2.2.2.2)]
def SG:List ay->Option uH
 |[.int .i64 a,.int .i64 b,.int .i64 c,.int .i64 d,.int .i64 e,.int .i64 f,.int .i64 g]=>θ (a,b,c,d,e,f,g)
 |_=>η
def L5:ay->Option uH
 | .agg cs=>SG cs.toList
 |_=>η
def L6(v:ay):Option (GU Unit×List MemPlace):=(L5 v).map λx=>(BZ x,[])
theorem apT{l}{x}(h:SG l=θ x):l=[.int .i64 x.1,.int .i64 x.2.1,.int .i64 x.2.2.1,.int .i64 x.2.2.2.1,.int .i64 x.2.2.2.2.1,.int .i64 x.2.2.2.2.2.1,.int .i64 x.2.2.2.2.2.2]:=by
 unfold SG at h;split at h
 .cases h;rfl
 .cases h
theorem apU{v}{x}(h:L5 v=θ x):v=zW x:=by
 unfold L5 at h;split at h
 .rename_i cs;have:=apT h;unfold zW;rw[<-this]
 .cases h
theorem abc x:L6 (zW x)=θ (BZ x,[]):=rfl
theorem apV{x y}(h:BZ x=BZ y):x=y:=by obtain⟨a,b,c,d,e,f,g⟩:=x;obtain⟨a',b',c',d',e',f',g'⟩:=y;simp[BZ]at h;simp[h]
theorem abd{v}{x}{ps}(h:L6 v=θ (BZ x,ps)):v=zW x:=by
 unfold L6 at h;cases e:L5 v with
 |none=>rw[e]at h;cases h
 |some y=>
  rw[e]at h;simp at h;rw[apU e,apV h.1]
def dn(w:υ)(b n:Nat)(M:kq):Prop:=∃D:GU Unit,w.ownsMap ah 144 L6 b n D/\∀v t,mM v->mM t->∀z,D.atKey (HJ v t) z=match M v t with|none=>z|some x=>BZ x
theorem dn.mono{b n'}(h:dn w b n M)(hn:n<=n'):dn w b n' M:=by obtain⟨D,h1,h2⟩:=h;exact⟨D,h1.mono hn,h2⟩
theorem dn.lt{b}(h:dn w b n M):b<w.heap.size:=by obtain⟨D,h1,h2⟩:=h;exact h1.lt
theorem dn.kept{b}{row}(h:dn w b n M)(hg:w.grownBy w' row)(hne:θ b≠row):dn w' b n M:=by obtain⟨D,h1,h2⟩:=h;exact⟨D,h1.kept hg hne,h2⟩
theorem dn.below{b}(h:dn w b n M)(hb:Below w.heap.size w w'):dn w' b n M:=h.kept (s5 hb η) (by simp)
theorem dn.alloc{b}(h:dn w b n M)o:dn (w.alloc o) b n M:=h.below ((Below.refl _ _).alloc (Nat.le_refl _) o)
theorem abe(w:υ):dn (w.alloc (.map #[] 0)) w.heap.size 0 (λ_ _=>η):=⟨.map [],World.ownsMap_made _ _ _ _,λ_ _ _ _ _=>rfl⟩
theorem dn.look{b}(h:dn w b n M)(hv:mM v)(ht:mM t):(Instr.lookup 138 (.map (θ b)) (kW v t) ν).run ah w=.ok (.tuple #[zW ((M v t).getD (0,0,0,0,0,0,0)),.bool (M v t).isSome]) w:=by
 obtain⟨D,h1,h2⟩:=h;obtain⟨x,ps,hr,hx⟩:=h1.look_ok Tryz.L4 ((cD 138).trans underlying138) (z:=zW (0,0,0,0,0,0,0)) ((λw=>(Yk 142 w).trans (zeroValue142 w)) w) (abc _) (HK hv ht);rw[hr];have hk:=h2 v t hv ht;cases hm:M v t with
 |none=>
  rw[hm]at hk;have hk:=hk;rw[hk]at hx;rw[abd hx,Maps.has_false_of_atKey hk];rfl
 |some y=>
  rw[hm]at hk;have hk:=hk;rw[hk]at hx;rw[abd hx,Maps.has_true_of_atKey hk];rfl
theorem dn.store{b}(h:dn w b n M)(hn:n<maxLen)(hv:mM v)(ht:mM t)x:∃w',(C2 138 (.map (θ b)) (kW v t) (zW x)).run ah w=.ok () w'/\dn w' b (n+1) (lQ M v t x)/\w.grownBy w' (θ b):=by
 obtain⟨D,h1,h2⟩:=h;obtain⟨w',hr,h3,h4⟩:=h1.update Tryz.L4 ((cD 138).trans underlying138) hn (HK hv ht) (abc x);refine⟨w',hr,⟨_,h3,λa c ha hc z=>?_⟩,h4⟩;by_cases e:a=v/\c=t
 .obtain⟨rfl,rfl⟩:=e;rw[x6];exact Maps.atKey_put_same h1.isMap (Tryz.L4.key (HK hv ht)) _ _
 .rw[qF _ _ e,Maps.atKey_put_other (apS hv ht ha hc e)];exact h2 a c ha hc z
def tj(r:b7):Value:=.agg #[.int .i64 r.1,.int .i64 r.2.1,.int .i64 r.2.2.1,.int .i64 r.2.2.2.1,.int .i64 r.2.2.2.2.1,.int .i64 r.2.2.2.2.2]
theorem apW r w:Ξ ah 87 #[tj r] w λres w'=>res=.returned (.int .i64 r.2.2.2.2.2)/\Below w.heap.size w w':=by obtain⟨E,d,a,e,ar,c⟩:=r;simp only[tj];go_enter ak0,ntmps87;go_wp2;go_ret;exact⟨rfl,ax w _⟩
theorem apX r w:Ξ ah 88 #[tj r] w λres w'=>res=.returned (.int .i64 1)/\Below w.heap.size w w':=by obtain⟨E,d,a,e,ar,c⟩:=r;simp only[tj];go_enter ak1,ntmps88;go_wp2;go_ret;exact⟨rfl,ax w _⟩
theorem apY r w:Ξ ah 91 #[tj r] w λres w'=>res=.returned (.int .i64 0)/\Below w.heap.size w w':=by obtain⟨E,d,a,e,ar,c⟩:=r;simp only[tj];go_enter ak4,ntmps91;go_wp2;go_ret;exact⟨rfl,ax w _⟩
theorem qH p E d a e ar c:zW (p,E,d,a,e,ar,c)=.agg #[.int .i64 p,.int .i64 E,.int .i64 d,.int .i64 a,.int .i64 e,.int .i64 ar,.int .i64 c]:=rfl
theorem apZ b n M r p w(hM:dn w b n M)(hn:n<100000)(hr:mM r.2.1/\mM r.2.2.1/\mM r.2.2.2.1/\mM r.2.2.2.2.1)(hp:0<=p/\p<=1000)(hx:∀x,M r.2.2.1 r.2.1=θ x-> -1000000<=x.1/\x.1<=1000000):Ξ ah 118 #[.map (θ b),tj r,.int .i64 p] w λres w'=>(∃v,res=.returned v)/\dn w' b (n+1) (qG M r p)/\w.grownBy w' (θ b):=by
 obtain⟨E,d,a,e,ar,c⟩:=r;simp only[tj];simp only at hr hx;obtain⟨hd,ha,he,har⟩:=hr;obtain⟨w1,hw1⟩:∃x,x=w.alloc (.cells #[.int .i64 E,.int .i64 d,.int .i64 a,.int .i64 e,.int .i64 ar,.int .i64 c] 140):=⟨_,rfl⟩;have b1:Below w.heap.size w w1:=by rw[hw1];exact ax w _
 have dA:=hM.below b1;have k1:=dA.look ha hd;have y1:w1.cell? ⟨w.heap.size,1,η⟩=θ (.int .i64 d):=by rw[hw1];exact cx rfl rfl
 have y2:w1.cell? ⟨w.heap.size,2,η⟩=θ (.int .i64 a):=by rw[hw1];exact cx rfl rfl
 have cY:=hw1.symm;cases h1:M a d with
 |none=>
  have aX:Hid (qG M (E,d,a,e,ar,c) p=M):=by show _=_;unfold qG;simp only;rw[h1]
  rw[h1]at k1;simp only[kW,jG,qH,ic]at k1;clear h1 hw1;go_enter K0,ntmps118;go_wp2;refine cR (BD rfl _ _ _) rfl ⟨⟨_,rfl⟩,?_,?_⟩
  .rw[aX.out];exact(dA.alloc _).mono (by omega)
  .exact s5 (bK b1 (ax w1 _)) _
 |some x=>
  obtain⟨q,pS,d2,a2,e2,pU,c2⟩:=x;have hq:=hx _ h1;simp only at hq;rw[h1]at k1;simp only[kW,Ω,qH,gu]at k1;have cc:IntKind.i64.wrap (q+p)=q+p:=n6 _ (by omega) (by omega);obtain⟨w3,pV⟩:∃x,x=(w1.alloc (.cells #[.int .i64 q,.int .i64 pS,.int .i64 d2,.int .i64 a2,.int .i64 e2,.int .i64 pU,.int .i64 c2] 142)).alloc (.cells #[.int .i64 e,.int .i64 ar] 144):=⟨_,rfl⟩;have b3:Below w1.heap.size w1 w3:=by rw[pV];exact bK (ax _ _) (ax _ _)
  have s3:w3.heap.size=w1.heap.size+1+1:=by rw[pV];simp
  have s1:w1.heap.size=w.heap.size+1:=by rw[hw1];simp
  have gO:=dA.below b3;have k2:=gO.look he har;have z0:w3.cell? ⟨w1.heap.size,0,η⟩=θ (.int .i64 q):=by rw[pV,(ax _ _).cell (by simp)];exact cx rfl rfl
  have z1:w3.cell? ⟨w1.heap.size+1,0,η⟩=θ (.int .i64 e):=by rw[pV];exact cx (by simp) rfl
  have z2:w3.cell? ⟨w1.heap.size+1,1,η⟩=θ (.int .i64 ar):=by rw[pV];exact cx (by simp) rfl
  have s9:w1.cell? ⟨w.heap.size,3,η⟩=θ (.int .i64 e):=by rw[hw1];exact cx rfl rfl
  have rM:w1.cell? ⟨w.heap.size,4,η⟩=θ (.int .i64 ar):=by rw[hw1];exact cx rfl rfl
  have azY:(w1.alloc (.cells #[.int .i64 q,.int .i64 pS,.int .i64 d2,.int .i64 a2,.int .i64 e2,.int .i64 pU,.int .i64 c2] 142)).cell? ⟨w.heap.size,3,η⟩=θ (.int .i64 e):=((ax w1 _).cell (p:=⟨w.heap.size,3,η⟩) (by simp only;omega)).trans s9;have azZ:(w1.alloc (.cells #[.int .i64 q,.int .i64 pS,.int .i64 d2,.int .i64 a2,.int .i64 e2,.int .i64 pU,.int .i64 c2] 142)).cell? ⟨w.heap.size,4,η⟩=θ (.int .i64 ar):=((ax w1 _).cell (p:=⟨w.heap.size,4,η⟩) (by simp only;omega)).trans rM;have az0:=pV.symm;have no:∀W,Below w3.heap.size w3 W->qG M (E,d,a,e,ar,c) p=M->dn W b (n+1) (qG M (E,d,a,e,ar,c) p)/\w.grownBy W (θ b):=λW h h'=>by rw[h'];exact⟨(gO.below h).mono (by omega),s5 (bK b1 (bK b3 h)) _⟩
  have yes:∀W,Below w3.heap.size w3 W->qG M (E,d,a,e,ar,c) p=lQ M e ar (q+p,E,d,a,e,ar,c)->∃w',(C2 138 (.map (θ b)) (.agg #[.int .i64 e,.int .i64 ar]) (.agg #[.int .i64 (q+p),.int .i64 E,.int .i64 d,.int .i64 a,.int .i64 e,.int .i64 ar,.int .i64 c])).run ah W=.ok () w'/\Hid (dn w' b (n+1) (qG M (E,d,a,e,ar,c) p)/\w.grownBy w' (θ b)):=λW h h'=>by obtain⟨w',r1,r2,r3⟩:=(gO.below h).store (by unfold maxLen;omega) he har (q+p,E,d,a,e,ar,c);exact⟨w',r1,by rw[h'];exact r2,n4 (s5 (bK b1 (bK b3 h)) _) r3⟩
  have kS:=aa no;have n9:=aa yes;have abf:∀W,Below w3.heap.size w3 W->∀j x,w1.cell? ⟨w.heap.size,j,η⟩=θ x->W.cell? ⟨w.heap.size,j,η⟩=θ x:=λW h j x hx=>((bK b3 h).cell (p:=⟨w.heap.size,j,η⟩) (by simp only;omega)).trans hx;have ak:=aa abf;have y0:w1.cell? ⟨w.heap.size,0,η⟩=θ (.int .i64 E):=by rw[hw1];exact cx rfl rfl
  have BU:w1.cell? ⟨w.heap.size,5,η⟩=θ (.int .i64 c):=by rw[hw1];exact cx rfl rfl
  have uJ:Hid (qG M (E,d,a,e,ar,c) p=if Er (M e ar) (q+p)=ν then lQ M e ar (q+p,E,d,a,e,ar,c)else M):=by show _=_;unfold qG;simp only;rw[h1]
  have uK:Hid (w3.heap.size=w1.heap.size+1+1):=s3;clear no yes hM dA gO hx h1 abf hw1 pV s1 s3;cases h2:M e ar with
  |none=>
   rw[h2]at k2;simp only[kW,jG,qH,ic]at k2;(have aX:Hid (qG M (E,d,a,e,ar,c) p=lQ M e ar (q+p,E,d,a,e,ar,c)):=by show _=_;rw[uJ.out,h2];rfl);obtain⟨w',B0,aJ⟩:=n9.out (w3.alloc (.cells #[.int .i64 0,.int .i64 0,.int .i64 0,.int .i64 0,.int .i64 0,.int .i64 0,.int .i64 0] 142)) (ax w3 _) aX.out;have abg:=((ax w3 (.cells #[.int .i64 0,.int .i64 0,.int .i64 0,.int .i64 0,.int .i64 0,.int .i64 0,.int .i64 0] 142)).cell (p:=⟨w1.heap.size,0,η⟩) (by simp only;have:=uK.out;omega)).trans z0;have ap0:=((ax w3 (.cells #[.int .i64 0,.int .i64 0,.int .i64 0,.int .i64 0,.int .i64 0,.int .i64 0,.int .i64 0] 142)).cell (p:=⟨w1.heap.size+1,0,η⟩) (by simp only;have:=uK.out;omega)).trans z1;have ap1:=((ax w3 (.cells #[.int .i64 0,.int .i64 0,.int .i64 0,.int .i64 0,.int .i64 0,.int .i64 0,.int .i64 0] 142)).cell (p:=⟨w1.heap.size+1,1,η⟩) (by simp only;have:=uK.out;omega)).trans z2;have c0:=ak.out _ (ax w3 (.cells #[.int .i64 0,.int .i64 0,.int .i64 0,.int .i64 0,.int .i64 0,.int .i64 0,.int .i64 0] 142)) 0 _ y0;have c1:=ak.out _ (ax w3 (.cells #[.int .i64 0,.int .i64 0,.int .i64 0,.int .i64 0,.int .i64 0,.int .i64 0,.int .i64 0] 142)) 1 _ y1;have rH:=ak.out _ (ax w3 (.cells #[.int .i64 0,.int .i64 0,.int .i64 0,.int .i64 0,.int .i64 0,.int .i64 0,.int .i64 0] 142)) 2 _ y2;have c3:=ak.out _ (ax w3 (.cells #[.int .i64 0,.int .i64 0,.int .i64 0,.int .i64 0,.int .i64 0,.int .i64 0,.int .i64 0] 142)) 3 _ s9;have c4:=ak.out _ (ax w3 (.cells #[.int .i64 0,.int .i64 0,.int .i64 0,.int .i64 0,.int .i64 0,.int .i64 0,.int .i64 0] 142)) 4 _ rM;have c5:=ak.out _ (ax w3 (.cells #[.int .i64 0,.int .i64 0,.int .i64 0,.int .i64 0,.int .i64 0,.int .i64 0,.int .i64 0] 142)) 5 _ BU;go_enter K0,ntmps118;go_wp2;refine DZ (BD rfl _ _ _) rfl ⟨⟨_,rfl⟩,aJ.out.1,aJ.out.2⟩
  |some y=>
   obtain⟨q2,rO,d3,a3,e3,rP,c3⟩:=y;rw[h2]at k2;simp only[kW,Ω,qH,gu]at k2;by_cases hl:q+p<q2
   ·(have aX:Hid (qG M (E,d,a,e,ar,c) p=lQ M e ar (q+p,E,d,a,e,ar,c)):=by show _=_;rw[uJ.out,h2,χ (by simp[Er,hl])]);obtain⟨w',B0,aJ⟩:=n9.out (w3.alloc (.cells #[.int .i64 q2,.int .i64 rO,.int .i64 d3,.int .i64 a3,.int .i64 e3,.int .i64 rP,.int .i64 c3] 142)) (ax w3 _) aX.out;have abg:=((ax w3 (.cells #[.int .i64 q2,.int .i64 rO,.int .i64 d3,.int .i64 a3,.int .i64 e3,.int .i64 rP,.int .i64 c3] 142)).cell (p:=⟨w1.heap.size,0,η⟩) (by simp only;have:=uK.out;omega)).trans z0;have ap0:=((ax w3 (.cells #[.int .i64 q2,.int .i64 rO,.int .i64 d3,.int .i64 a3,.int .i64 e3,.int .i64 rP,.int .i64 c3] 142)).cell (p:=⟨w1.heap.size+1,0,η⟩) (by simp only;have:=uK.out;omega)).trans z1;have ap1:=((ax w3 (.cells #[.int .i64 q2,.int .i64 rO,.int .i64 d3,.int .i64 a3,.int .i64 e3,.int .i64 rP,.int .i64 c3] 142)).cell (p:=⟨w1.heap.size+1,1,η⟩) (by simp only;have:=uK.out;omega)).trans z2;have c0:=ak.out _ (ax w3 (.cells #[.int .i64 q2,.int .i64 rO,.int .i64 d3,.int .i64 a3,.int .i64 e3,.int .i64 rP,.int .i64 c3] 142)) 0 _ y0;have c1:=ak.out _ (ax w3 (.cells #[.int .i64 q2,.int .i64 rO,.int .i64 d3,.int .i64 a3,.int .i64 e3,.int .i64 rP,.int .i64 c3] 142)) 1 _ y1;have rH:=ak.out _ (ax w3 (.cells #[.int .i64 q2,.int .i64 rO,.int .i64 d3,.int .i64 a3,.int .i64 e3,.int .i64 rP,.int .i64 c3] 142)) 2 _ y2;have ap2:=ak.out _ (ax w3 (.cells #[.int .i64 q2,.int .i64 rO,.int .i64 d3,.int .i64 a3,.int .i64 e3,.int .i64 rP,.int .i64 c3] 142)) 3 _ s9;have c4:=ak.out _ (ax w3 (.cells #[.int .i64 q2,.int .i64 rO,.int .i64 d3,.int .i64 a3,.int .i64 e3,.int .i64 rP,.int .i64 c3] 142)) 4 _ rM;have c5:=ak.out _ (ax w3 (.cells #[.int .i64 q2,.int .i64 rO,.int .i64 d3,.int .i64 a3,.int .i64 e3,.int .i64 rP,.int .i64 c3] 142)) 5 _ BU;go_enter K0,ntmps118;go_wp2;refine DZ (BD rfl _ _ _) rfl ⟨⟨_,rfl⟩,aJ.out.1,aJ.out.2⟩
   ·(have aX:Hid (qG M (E,d,a,e,ar,c) p=M):=by show _=_;rw[uJ.out,h2,ς (by simp[Er];omega)]);have abg:=((ax w3 (.cells #[.int .i64 q2,.int .i64 rO,.int .i64 d3,.int .i64 a3,.int .i64 e3,.int .i64 rP,.int .i64 c3] 142)).cell (p:=⟨w1.heap.size,0,η⟩) (by simp only;have:=uK.out;omega)).trans z0;go_enter K0,ntmps118;go_wp2;refine DZ (BD rfl _ _ _) rfl ⟨⟨_,rfl⟩,(kS.out _ (ax w3 _) aX.out).1,(kS.out _ (ax w3 _) aX.out).2⟩
end Go.Proofs.YtfphigmeppdocaaGreatDoor.Q
