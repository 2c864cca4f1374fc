/-
  Several texts in one.
-/
import Derived.Test.YtfphigmeppdocaaGreatDoorPk5
open Array renaming getElem?_eq_none->gx,length_toList->jk
open Bool renaming false->ο
open Go renaming World->υ,TypeId->Θ,Calls->Ξ,Value->ay,info_parts->er,wpAnyH_done->gU,wp_region_held->sU,Addr->bP
open Go.Act renaming put->dz
open Go.Ending renaming returned->sH
open Go.Extern.AbiNoEscape renaming same->C1
open Go.Lib renaming cell_of_heap->eu,itoa->dK,byteCells->mW,frozen_of_heap->vH,itoa_length_le->Al,BuilderAtF->I9,byteCells_length->ae1,ownsRowF_kind->ae2
open Go.Lib.BuilderAtF renaming put->ae3
open Go.Lib.OthersKept renaming refl->ae4
open Go.Result renaming andThen->qW
open Go.Value renaming int->bM,string->gV
open Go.Value.slice renaming injEq->jU
open Go.WideShapes renaming add_plain->ae5
open Go.World renaming ownsRow_nil->dJ,setCell->eV
open Go.World.ownsRow renaming alloc->fW
open Option renaming none->η,some->θ,isSome_some->gu,isSome_none->ic,map_eq_some_iff->kZ
set_option linter.unusedSimpArgs false
set_option maxHeartbeats 8000000
set_option maxRecDepth 100000
namespace Go.Proofs.YtfphigmeppdocaaGreatDoor.Q
open Lo (ah)
open Go.Proofs.Tryz
open Go.RowKit
variable{ops:Array Oper}{cs:Array ay}{d h how t t0 v v0:Int}{F:Int->Int->Option Int}{q:Int×Int×Int}{l:List (Int×Int)}{m:List (Int×Int×Int)}{al:List Bool}{S T ns x:List Int}{xs:List ay}{B cap e aT i j k n r:Nat}{val:Nat->ay}{o st:Oper}{ao:Option bP}{P:Program}{cO cG:ay}{W W' w w' w0:υ}
variable{M:kq}
variable{pr:b7->Int}
variable{g:bg}{L:List (eF×ay)}
variable{p:b9->Int}{ai:List b9}
structure r7(w W:υ)(g:bg)(la ea:Option bP)(lc ec:Nat)(k:List UInt8)(n:List Int)(na:Option bP)(au:Nat)(hs:List (Int×Int))(ha:Option bP)(hc:Nat):Prop where
 c0:W.cell? ⟨w.heap.size,0,η⟩=θ (.string ⟨k.toArray⟩)
 c1:W.cell? ⟨w.heap.size,1,η⟩=θ (.slice na n.length au)
 c3:W.cell? ⟨w.heap.size,3,η⟩=θ (.slice ha hs.length hc)
 g0:W.cell? ⟨w.heap.size+1,0,η⟩=θ (.int .i64 g.hor)
 g1:W.cell? ⟨w.heap.size+1,1,η⟩=θ (.slice la g.lives.length lc)
 g2:W.cell? ⟨w.heap.size+1,2,η⟩=θ (.slice ea g.af.length ec)
 zs:jC W na n
 iv:eg W ha hs
 ga:cL W la ea g
 aQ:Below w.heap.size w W
 lt:w.heap.size+1<W.heap.size
section
variable {w W:υ}{g:bg}{la ea:Option bP}{lc ec:Nat}{k:List UInt8}{n:List Int}{na:Option bP}{au:Nat}{hs:List (Int×Int)}{ha:Option bP}{hc:Nat}
theorem r7.below(h:r7 w W g la ea lc ec k n na au hs ha hc)(hb:Below W.heap.size W W'):r7 w W' g la ea lc ec k n na au hs ha hc:=by have l:=h.lt;have e:∀j,W'.cell? ⟨w.heap.size,j,η⟩=W.cell? ⟨w.heap.size,j,η⟩:=λj=>hb.cell (p:=⟨w.heap.size,j,η⟩) (show w.heap.size<_ by omega);have e' :∀j,W'.cell? ⟨w.heap.size+1,j,η⟩=W.cell? ⟨w.heap.size+1,j,η⟩:=λj=>hb.cell (p:=⟨w.heap.size+1,j,η⟩) l;exact⟨(e 0).trans h.c0,(e 1).trans h.c1,(e 3).trans h.c3,(e' 0).trans h.g0,(e' 1).trans h.g1,(e' 2).trans h.g2,h.zs.below hb,h.iv.below hb,h.ga.below hb,bK h.aQ hb,Nat.lt_of_lt_of_le l hb.size⟩
theorem CJ(hG:cL w la ea g)(hN:jC w na n)(hH:eg w ha hs)f(T aM:Θ):r7 w ((w.alloc (.cells #[.string ⟨k.toArray⟩,.slice na n.length au,f,.slice ha hs.length hc] T)).alloc (.cells #[.int .i64 g.hor,.slice la g.lives.length lc,.slice ea g.af.length ec] aM)) g la ea lc ec k n na au hs ha hc:=by
 have l:w.heap.size<(w.alloc (.cells #[.string ⟨k.toArray⟩,.slice na n.length au,f,.slice ha hs.length hc] T)).heap.size:=by simp
 have hb:=bK (ax w (.cells #[.string ⟨k.toArray⟩,.slice na n.length au,f,.slice ha hs.length hc] T)) (ax _ (.cells #[.int .i64 g.hor,.slice la g.lives.length lc,.slice ea g.af.length ec] aM));have e:=λj=>(ax (w.alloc (.cells #[.string ⟨k.toArray⟩,.slice na n.length au,f,.slice ha hs.length hc] T)) (.cells #[.int .i64 g.hor,.slice la g.lives.length lc,.slice ea g.af.length ec] aM)).cell (p:=⟨w.heap.size,j,η⟩) l;have s:w.heap.size+1=(w.alloc (.cells #[.string ⟨k.toArray⟩,.slice na n.length au,f,.slice ha hs.length hc] T)).heap.size:=by simp
 exact⟨(e 0).trans (by simp),(e 1).trans (by simp),(e 3).trans (by simp),cx s rfl,cx s rfl,cx s rfl,hN.below hb,hH.below hb,hG.below hb,hb,by simp⟩
theorem r7.two{a b}(h:r7 w W g la ea lc ec k [a,b] na au hs ha hc):∃nb no,na=θ ⟨nb,no,η⟩/\nb<W.heap.size/\W.cell? ⟨nb,no,η⟩=θ (.int .i64 a)/\W.cell? ⟨nb,no+1,η⟩=θ (.int .i64 b):=by
 rcases h.zs with e|⟨nb,no,rfl,hl,hz⟩
 .cases e
 .exact⟨nb,no,rfl,hl,hz 0 (by simp),hz 1 (by simp)⟩
end
def Ny(f:FuncId)(g:bg)(la ea:Option bP)(lc ec:Nat)(o:nT):Prop:=∀W,cL W la ea g->Ξ ah f #[.agg #[.int .i64 g.hor,.slice la g.lives.length lc,.slice ea g.af.length ec],.int .i64 o.a,.int .i64 o.b] W λr w' =>
 ∃u l aI,r=.returned (.tuple #[u,.int .i64 aI])/\eT g o l aI/\w'.ownsRow W.heap.size 3 1 u l.length (l.map (bM .i64))/\Below W.heap.size W w'
theorem av8 g la ea lc ec k a b F hs na ha au hc f w(hG:cL w la ea g)(h0:aK g=0)(hN:jC w na [a,b])(hH:eg w ha hs)(hT:gv w)(hk:k=sW\/k=vL\/k=vM\/k=vN):Ξ ah 29 #[.agg #[.string ⟨k.toArray⟩,.slice na 2 au,f,.slice ha hs.length hc],.agg #[.int .i64 g.hor,.slice la g.lives.length lc,.slice ea g.af.length ec]] w λe w'=>∃l aI s,e=.returned (.tuple #[.string ⟨s.toArray⟩,.int .i64 aI])/\eT g ⟨k,[a,b],F,hs⟩ l aI/\(aI=0->s=pI l)/\Below w.heap.size w w':=by
 obtain⟨w1,hw1⟩:∃x,x=(w.alloc (.cells #[.string ⟨k.toArray⟩,.slice na 2 au,f,.slice ha hs.length hc] 53)).alloc (.cells #[.int .i64 g.hor,.slice la g.lives.length lc,.slice ea g.af.length ec] 59):=⟨_,rfl⟩;have aA:r7 w w1 g la ea lc ec k [a,b] na au hs ha hc:=by rw[hw1];exact CJ hG hN hH f _ _
 have cY:=hw1.symm;have aX:=aa hT.low;have bS:=aa aA;have cy:Hid (∀l aI,eT g ⟨k,[a,b],F,hs⟩ l aI->rW l):=λl aI h=>MS h0 h;obtain⟨nb,no,rfl,hnb,z0,z1⟩:=aA.two;have c0:=aA.c0;have c1:=aA.c1;have g0:=aA.g0;have g1:=aA.g1;have g2:=aA.g2;clear hG hN hH hT hw1 aA;rcases hk with rfl|rfl|rfl|rfl
 case' inl=>have bI:Hid (Ny 50 g la ea lc ec ⟨sW,[a,b],F,hs⟩):=λW hW=>(apB g la ea lc ec a b W hW).mono λr w' ⟨u,h1,h2,h3⟩=>⟨u,_,_,h1,by unfold eT;dsimp only;rw[ς (by decide),χ rfl];exact⟨rfl,rfl⟩,h2,h3⟩
 case' inr.inl=>have bI:Hid (Ny 51 g la ea lc ec ⟨vL,[a,b],F,hs⟩):=λW hW=>(apC g la ea lc ec a b W hW).mono λr w' ⟨u,h1,h2,h3⟩=>⟨u,_,_,h1,by unfold eT;dsimp only;rw[ς (by decide),ς (by decide),χ rfl];exact⟨rfl,rfl⟩,h2,h3⟩
 case' inr.inr.inl=>have bI:Hid (Ny 52 g la ea lc ec ⟨vM,[a,b],F,hs⟩):=λW hW=>(aqq g la ea lc ec a b W hW).mono λr w' ⟨u,l,h1,h4,h2,h3⟩=>⟨u,l,_,h1,by unfold eT;dsimp only;rw[ς (by decide),ς (by decide),ς (by decide),χ rfl];exact⟨h4,rfl⟩,h2,h3⟩
 case' inr.inr.inr=>have bI:Hid (Ny 53 g la ea lc ec ⟨vN,[a,b],F,hs⟩):=λW hW=>(aqr g la ea lc ec a b W hW).mono λr w' ⟨u,l,h1,h4,h2,h3⟩=>⟨u,l,_,h1,by unfold eT;dsimp only;rw[ς (by decide),ς (by decide),ς (by decide),ς (by decide),χ rfl];exact⟨h4,rfl⟩,h2,h3⟩
 all_goals
  simp only[sW,vL,vM,vN]at c0 cY;simp only[sW,vL,vM,vN];go_enter Bz,ntmps29;go_wp2_with fail;clear cY;refine sU (S:=λw3=>w3.cell? ⟨w.heap.size,1,η⟩=θ (.slice (θ ⟨nb,no,η⟩) 2 au)/\w3.cell? ⟨w.heap.size+1,0,η⟩=θ (.int .i64 g.hor)/\w3.cell? ⟨w.heap.size+1,1,η⟩=θ (.slice la g.lives.length lc)/\w3.cell? ⟨w.heap.size+1,2,η⟩=θ (.slice ea g.af.length ec)/\w3.cell? ⟨nb,no,η⟩=θ (.int .i64 a)/\w3.cell? ⟨nb,no+1,η⟩=θ (.int .i64 b)) (by kernel_rfl) ?_;generalize cc:({w1 with drawn:=w1.drawn+1 }:υ)=w2;have aq:Below w1.heap.size w1 w2:=by rw[<-cc];exact below_drewN (Below.refl _ _) 1
  have bt:=bS.out.below aq;have aU:Hid (∀W,Below w1.heap.size w1 W->W.cell? ⟨w.heap.size,1,η⟩=θ (.slice (θ ⟨nb,no,η⟩) 2 au)/\W.cell? ⟨w.heap.size+1,0,η⟩=θ (.int .i64 g.hor)/\W.cell? ⟨w.heap.size+1,1,η⟩=θ (.slice la g.lives.length lc)/\W.cell? ⟨w.heap.size+1,2,η⟩=θ (.slice ea g.af.length ec)/\W.cell? ⟨nb,no,η⟩=θ (.int .i64 a)/\W.cell? ⟨nb,no+1,η⟩=θ (.int .i64 b)):=λW hb=>by have B:=bS.out.below hb;exact⟨B.c1,B.g0,B.g1,B.g2,(hb.cell (p:=⟨nb,no,η⟩) hnb).trans z0,(hb.cell (p:=⟨nb,no+1,η⟩) hnb).trans z1⟩
  have ox:=aU.out _ aq;have aN:=aa aq;clear cc aq c0 c1 g0 g1 g2 z0 z1;refine tk 0 ?_;refine tk 1 ?_;refine tk 2 ?_;refine tk 3 ?_;refine tk 4 ?_;refine tk 5 ?_;refine tk 6 ?_;refine tk 7 ?_;refine tk 8 ?_;refine eL (i:=9) rfl (by kernel_rfl) (λK hK=>?_);go_simp;refine(bI.out _ bt.ga).mono ?_;rintro e w3 ⟨u,l,aI,rfl,qQ,eY,aB⟩;have bw:=aa (bK aN.out aB);have iU:=aU.out _ bw.out;obtain⟨Vn,uc,rfl,uE⟩:=GO eY;have aR:=aa qQ;refine hK.out _ _ iU (λ_=>?_);clear hK K ox aB eY qQ bt aN;try simp only[dz,List.setIfInBounds_toArray,List.set_cons_zero,List.set_cons_succ]
  refine tk 10 ?_;refine tk 11 ?_;refine eL (i:=12) rfl (by kernel_rfl) (λK hK=>?_);go_simp;refine(MX Vn uc l aI w3 uE (cy.out l aI aR.out) (aX.out.below (bS.out.aQ.trans (bw.out.mono bS.out.aQ.size))).tab).mono ?_;rintro e w4 ⟨rfl,hb4⟩;have cr:=aa (bK bw.out hb4);have ae6:=aU.out _ cr.out;refine hK.out _ _ ae6 (λ_=>?_);clear hK K iU hb4 uE;try simp only[dz,List.setIfInBounds_toArray,List.set_cons_zero,List.set_cons_succ]
  refine tk 13 ?_;refine tk 14 ?_;refine tk 15 ?_;refine tk 16 ?_;refine gU (by kernel_rfl) ?_ _;clear ae6;go_wp2;go_ret2;exact⟨l,aI,_,rfl,aR.out,λ_=>rfl,bS.out.aQ.trans (cr.out.mono bS.out.aQ.size)⟩
theorem ae7(w:υ)ns cs (t:Θ)(hcs:cs=(ns.map (bM .i64)).toArray):jC (w.alloc (.cells cs t)) (θ ⟨w.heap.size,0,η⟩) ns:=by subst hcs;refine .inr ⟨w.heap.size,0,rfl,by simp,λj hj=>?_⟩;rw[eu (heap_alloc_new w _)];simp[List.getD_eq_getElem?_getD,List.getElem?_eq_getElem hj]
theorem av9 g la ea lc ec(a b:Int)F hs na ha au hc f w(hG:cL w la ea g)(h0:aK g=0)(hN:jC w na [a,b])(hH:eg w ha hs)(hT:gv w):Ξ ah 29 #[.agg #[.string ⟨(mZ).toArray⟩,.slice na 2 au,f,.slice ha hs.length hc],.agg #[.int .i64 g.hor,.slice la g.lives.length lc,.slice ea g.af.length ec]] w λe w'=>∃l aI s,e=.returned (.tuple #[.string ⟨s.toArray⟩,.int .i64 aI])/\eT g ⟨mZ,[a,b],F,hs⟩ l aI/\(aI=0->s=pI l)/\Below w.heap.size w w':=by
 obtain⟨w1,hw1⟩:∃x,x=(w.alloc (.cells #[.string ⟨(mZ).toArray⟩,.slice na 2 au,f,.slice ha hs.length hc] 53)).alloc (.cells #[.int .i64 g.hor,.slice la g.lives.length lc,.slice ea g.af.length ec] 59):=⟨_,rfl⟩;have aA:r7 w w1 g la ea lc ec mZ [a,b] na au hs ha hc:=by rw[hw1];exact CJ hG hN hH f _ _
 have cY:=hw1.symm;have aX:=aa hT.low;have bS:=aa aA;have cy:Hid (∀l aI,eT g ⟨mZ,[a,b],F,hs⟩ l aI->rW l):=λl aI h=>MS h0 h;obtain⟨nb,no,rfl,hnb,z0,z1⟩:=aA.two;have c0:=aA.c0;have c1:=aA.c1;have c3:=aA.c3;have g0:=aA.g0;have g1:=aA.g1;have g2:=aA.g2;clear hG hN hH hT hw1 aA;have bI:Hid (∀W,Below w1.heap.size w1 W->Ξ ah 54 #[.agg #[.int .i64 g.hor,.slice la g.lives.length lc,.slice ea g.af.length ec],.int .i64 a,.int .i64 b] W λr w'=>∃d x aI,r=.returned (.tuple #[.int .i64 d,.int .i64 x,.int .i64 aI])/\eT g ⟨mZ,[a,b],F,hs⟩ [d,x] aI/\Below W.heap.size W w'):=λW hb=>(aqN g la ea lc ec a b W (bS.out.below hb).ga).mono λr w' ⟨d,x,aI,h1,h2,h3⟩=>⟨d,x,aI,h1,by unfold eT;dsimp only;rw[ς (by decide),ς (by decide),ς (by decide),ς (by decide),ς (by decide),χ rfl];exact⟨d,x,rfl,h2⟩,h3⟩;simp only[mZ,kP]at c0 cY;simp only[mZ,kP];go_enter Bz,ntmps29;go_wp2_with fail;clear cY;refine sU (S:=λw3=>w3.cell? ⟨w.heap.size,1,η⟩=θ (.slice (θ ⟨nb,no,η⟩) 2 au)/\w3.cell? ⟨w.heap.size,3,η⟩=θ (.slice ha hs.length hc)/\w3.cell? ⟨w.heap.size+1,0,η⟩=θ (.int .i64 g.hor)/\w3.cell? ⟨w.heap.size+1,1,η⟩=θ (.slice la g.lives.length lc)/\w3.cell? ⟨w.heap.size+1,2,η⟩=θ (.slice ea g.af.length ec)/\w3.cell? ⟨nb,no,η⟩=θ (.int .i64 a)/\w3.cell? ⟨nb,no+1,η⟩=θ (.int .i64 b)) (by kernel_rfl) ?_;generalize cc:({w1 with drawn:=w1.drawn+1 }:υ)=w2;have aq:Below w1.heap.size w1 w2:=by rw[<-cc];exact below_drewN (Below.refl _ _) 1
 have aU:Hid (∀W,Below w1.heap.size w1 W->W.cell? ⟨w.heap.size,1,η⟩=θ (.slice (θ ⟨nb,no,η⟩) 2 au)/\W.cell? ⟨w.heap.size,3,η⟩=θ (.slice ha hs.length hc)/\W.cell? ⟨w.heap.size+1,0,η⟩=θ (.int .i64 g.hor)/\W.cell? ⟨w.heap.size+1,1,η⟩=θ (.slice la g.lives.length lc)/\W.cell? ⟨w.heap.size+1,2,η⟩=θ (.slice ea g.af.length ec)/\W.cell? ⟨nb,no,η⟩=θ (.int .i64 a)/\W.cell? ⟨nb,no+1,η⟩=θ (.int .i64 b)):=λW hb=>by have B:=bS.out.below hb;exact⟨B.c1,B.c3,B.g0,B.g1,B.g2,(hb.cell (p:=⟨nb,no,η⟩) hnb).trans z0,(hb.cell (p:=⟨nb,no+1,η⟩) hnb).trans z1⟩
 have ox:=aU.out _ aq;have aN:=aa aq;clear cc aq c0 c1 c3 g0 g1 g2 z0 z1;refine tk 0 ?_;refine tk 1 ?_;refine tk 2 ?_;refine tk 3 ?_;refine tk 4 ?_;refine tk 5 ?_;refine tk 6 ?_;refine tk 7 ?_;refine tk 8 ?_;refine eL (i:=9) rfl (by kernel_rfl) (λK hK=>?_);go_simp;refine(bI.out _ aN.out).mono ?_;rintro e w3 ⟨d,x,aI,rfl,qQ,aB⟩;have aR:=aa qQ;clear qQ;have bw:=aa (bK aN.out aB);have iU:=aU.out _ bw.out;refine hK.out _ _ iU (λ_=>?_);clear hK K ox aB aN;try simp only[dz,List.setIfInBounds_toArray,List.set_cons_zero,List.set_cons_succ]
 refine tk 10 ?_;refine tk 11 ?_;refine tk 12 ?_;refine tk 13 ?_;refine tk 14 ?_;refine tk 15 ?_;refine tk 16 ?_;refine gU (by kernel_rfl) ?_ _;clear iU;have cr:=aa (bS.out.aQ.trans (bw.out.mono bS.out.aQ.size));have hrow:=MX (θ ⟨w3.heap.size,0,η⟩) 2 [d,x] aI (w3.alloc (.cells #[.int .i64 d,.int .i64 x] 3)) (ae7 w3 [d,x] _ _ rfl) (cy.out _ _ aR.out) (aX.out.below (cr.out.alloc cr.out.size _)).tab;go_wp2_with fail;refine hrow.mono ?_;rintro e w4 ⟨rfl,hb4⟩;have gb:=aa (cr.out.trans (hb4.mono (by have:=cr.out.size;simp;omega) |> λh=>((Below.refl w.heap.size w3).alloc cr.out.size _).trans h));clear hrow hb4;go_wp2;go_ret2;exact⟨_,_,_,rfl,aR.out,λ_=>rfl,gb.out⟩
theorem awa g la ea lc ec(a b:Int)F hs na ha au hc f w(hG:cL w la ea g)(h0:aK g=0)(hN:jC w na [a,b])(hH:eg w ha hs)(hT:gv w)(CF:hs.length<=9223372036854775807):Ξ ah 29 #[.agg #[.string ⟨(kP).toArray⟩,.slice na 2 au,f,.slice ha hs.length hc],.agg #[.int .i64 g.hor,.slice la g.lives.length lc,.slice ea g.af.length ec]] w λe w'=>∃l aI s,e=.returned (.tuple #[.string ⟨s.toArray⟩,.int .i64 aI])/\eT g ⟨kP,[a,b],F,hs⟩ l aI/\(aI=0->s=pI l)/\Below w.heap.size w w':=by
 obtain⟨w1,hw1⟩:∃x,x=(w.alloc (.cells #[.string ⟨(kP).toArray⟩,.slice na 2 au,f,.slice ha hs.length hc] 53)).alloc (.cells #[.int .i64 g.hor,.slice la g.lives.length lc,.slice ea g.af.length ec] 59):=⟨_,rfl⟩;have aA:r7 w w1 g la ea lc ec kP [a,b] na au hs ha hc:=by rw[hw1];exact CJ hG hN hH f _ _
 have cY:=hw1.symm;have aX:=aa hT.low;have bS:=aa aA;have cy:Hid (∀l aI,eT g ⟨kP,[a,b],F,hs⟩ l aI->rW l):=λl aI h=>MS h0 h;obtain⟨nb,no,rfl,hnb,z0,z1⟩:=aA.two;have c0:=aA.c0;have c1:=aA.c1;have c3:=aA.c3;have g0:=aA.g0;have g1:=aA.g1;have g2:=aA.g2;clear hG hN hH hT hw1 aA;have bI:Hid (∀W,Below w1.heap.size w1 W->Ξ ah 55 #[.agg #[.int .i64 g.hor,.slice la g.lives.length lc,.slice ea g.af.length ec],.int .i64 a,.int .i64 b,.slice ha hs.length hc] W λr w'=>∃x y z aI,r=.returned (.tuple #[.int .i64 x,.int .i64 y,.int .i64 z,.int .i64 aI])/\eT g ⟨kP,[a,b],F,hs⟩ [x,y,z] aI/\Below W.heap.size W w'):=λW hb=>(aqD g la ea lc ec a b ha hc hs W (bS.out.below hb).ga (bS.out.below hb).iv CF).mono λr w' ⟨h1,h3⟩=>⟨_,_,_,_,h1,by unfold eT;dsimp only;rw[ς (by decide),ς (by decide),ς (by decide),ς (by decide),ς (by decide),ς (by decide)];exact⟨rfl,rfl⟩,h3⟩;simp only[mZ,kP]at c0 cY;simp only[mZ,kP];go_enter Bz,ntmps29;go_wp2_with fail;clear cY;refine sU (S:=λw3=>w3.cell? ⟨w.heap.size,1,η⟩=θ (.slice (θ ⟨nb,no,η⟩) 2 au)/\w3.cell? ⟨w.heap.size,3,η⟩=θ (.slice ha hs.length hc)/\w3.cell? ⟨w.heap.size+1,0,η⟩=θ (.int .i64 g.hor)/\w3.cell? ⟨w.heap.size+1,1,η⟩=θ (.slice la g.lives.length lc)/\w3.cell? ⟨w.heap.size+1,2,η⟩=θ (.slice ea g.af.length ec)/\w3.cell? ⟨nb,no,η⟩=θ (.int .i64 a)/\w3.cell? ⟨nb,no+1,η⟩=θ (.int .i64 b)) (by kernel_rfl) ?_;generalize cc:({w1 with drawn:=w1.drawn+1 }:υ)=w2;have aq:Below w1.heap.size w1 w2:=by rw[<-cc];exact below_drewN (Below.refl _ _) 1
 have aU:Hid (∀W,Below w1.heap.size w1 W->W.cell? ⟨w.heap.size,1,η⟩=θ (.slice (θ ⟨nb,no,η⟩) 2 au)/\W.cell? ⟨w.heap.size,3,η⟩=θ (.slice ha hs.length hc)/\W.cell? ⟨w.heap.size+1,0,η⟩=θ (.int .i64 g.hor)/\W.cell? ⟨w.heap.size+1,1,η⟩=θ (.slice la g.lives.length lc)/\W.cell? ⟨w.heap.size+1,2,η⟩=θ (.slice ea g.af.length ec)/\W.cell? ⟨nb,no,η⟩=θ (.int .i64 a)/\W.cell? ⟨nb,no+1,η⟩=θ (.int .i64 b)):=λW hb=>by have B:=bS.out.below hb;exact⟨B.c1,B.c3,B.g0,B.g1,B.g2,(hb.cell (p:=⟨nb,no,η⟩) hnb).trans z0,(hb.cell (p:=⟨nb,no+1,η⟩) hnb).trans z1⟩
 have ox:=aU.out _ aq;have aN:=aa aq;clear cc aq c0 c1 c3 g0 g1 g2 z0 z1;refine tk 0 ?_;refine tk 1 ?_;refine tk 2 ?_;refine tk 3 ?_;refine tk 4 ?_;refine tk 5 ?_;refine tk 6 ?_;refine tk 7 ?_;refine tk 8 ?_;refine tk 9 ?_;refine tk 10 ?_;refine eL (i:=11) rfl (by kernel_rfl) (λK hK=>?_);go_simp;refine(bI.out _ aN.out).mono ?_;rintro e w3 ⟨x,y,z,aI,rfl,qQ,aB⟩;have aR:=aa qQ;clear qQ;have bw:=aa (bK aN.out aB);have iU:=aU.out _ bw.out;refine hK.out _ _ iU (λ_=>?_);clear hK K ox aB aN;try simp only[dz,List.setIfInBounds_toArray,List.set_cons_zero,List.set_cons_succ]
 refine tk 12 ?_;refine tk 13 ?_;refine tk 14 ?_;refine tk 15 ?_;refine tk 16 ?_;refine tk 17 ?_;refine tk 18 ?_;refine tk 19 ?_;refine tk 20 ?_;refine gU (by kernel_rfl) ?_ _;clear iU;have cr:=aa (bS.out.aQ.trans (bw.out.mono bS.out.aQ.size));have hrow:=MX (θ ⟨w3.heap.size,0,η⟩) 3 [x,y,z] aI (w3.alloc (.cells #[.int .i64 x,.int .i64 y,.int .i64 z] 3)) (ae7 w3 [x,y,z] _ _ rfl) (cy.out _ _ aR.out) (aX.out.below (cr.out.alloc cr.out.size _)).tab;go_wp2_with fail;refine hrow.mono ?_;rintro e w4 ⟨rfl,hb4⟩;have gb:=aa (cr.out.trans (hb4.mono (by have:=cr.out.size;simp;omega) |> λh=>((Below.refl w.heap.size w3).alloc cr.out.size _).trans h));clear hrow hb4;go_wp2;go_ret2;exact⟨_,_,_,rfl,aR.out,λ_=>rfl,gb.out⟩
def Vo(fv:FuncId)(ue:Array ay)(al:List Bool)(ar:List b9)(Rel:Int->List Int->Prop)(W:υ):Prop:=∀ao bo ca cb,nZ W ao al->cm W bo ar ->
 Ξ ah fv (#[.agg #[.slice ao al.length ca,.slice bo ar.length cb]]++ue) W λr w'=>∃aI l,Rel aI l/\HX W w' r aI l
theorem aiX b al ar ob nb no au W(vp:ob<W.heap.size)(hnb:nb<W.heap.size)(h1:W.cell? ⟨ob,1,η⟩=θ (.slice (θ ⟨nb,no,η⟩) 2 au))(h2:W.cell? ⟨nb,no+1,η⟩=θ (.int .i64 b)):Vo 44 #[.pointer (θ ⟨ob,0,η⟩)] al ar (nw al ar b (λ_=>1)) W:=by
 intro ao bo ca cb hA hP;obtain⟨w1,hw1⟩:∃x,x=W.alloc (.cells #[.slice ao al.length ca,.slice bo ar.length cb] 86):=⟨_,rfl⟩;have aj:Below W.heap.size W w1:=by rw[hw1];exact ax W _
 have hC:=λV (hb:Below W.heap.size W V)=>ari ao bo ca cb al ar b V (hA.below hb) (hP.below hb);have s0:w1.cell? ⟨W.heap.size,0,η⟩=θ (.slice ao al.length ca):=by rw[hw1];simp
 have s1:w1.cell? ⟨W.heap.size,1,η⟩=θ (.slice bo ar.length cb):=by rw[hw1];simp
 have hz1:W.heap.size<w1.heap.size:=by rw[hw1];simp
 have cY:=hw1.symm;have ak:=aa hC;have aS:=aa aj;clear hw1 hC hA hP;go_enter akJ,ntmps44;go_wp2_with fail;clear cY;refine sU (S:=λv=>v.cell? ⟨W.heap.size,0,η⟩=θ (.slice ao al.length ca)/\v.cell? ⟨W.heap.size,1,η⟩=θ (.slice bo ar.length cb)/\v.cell? ⟨ob,1,η⟩=θ (.slice (θ ⟨nb,no,η⟩) 2 au)/\v.cell? ⟨nb,no+1,η⟩=θ (.int .i64 b)) (by kernel_rfl) ?_;generalize cc:({w1 with drawn:=w1.drawn+1 }:υ)=w2;have aq:Below w1.heap.size w1 w2:=by rw[<-cc];exact below_drewN (Below.refl _ _) 1
 have aU:Hid (∀V,Below w1.heap.size w1 V->V.cell? ⟨W.heap.size,0,η⟩=θ (.slice ao al.length ca)/\V.cell? ⟨W.heap.size,1,η⟩=θ (.slice bo ar.length cb)/\V.cell? ⟨ob,1,η⟩=θ (.slice (θ ⟨nb,no,η⟩) 2 au)/\V.cell? ⟨nb,no+1,η⟩=θ (.int .i64 b)):=λV hb=>
  have hb':=bK aS.out hb
  ⟨(hb.cell (p:=⟨W.heap.size,0,η⟩) hz1).trans s0,(hb.cell (p:=⟨W.heap.size,1,η⟩) hz1).trans s1,(hb'.cell (p:=⟨ob,1,η⟩) vp).trans h1,(hb'.cell (p:=⟨nb,no+1,η⟩) hnb).trans h2⟩
 have ox:=aU.out _ aq;have aN:=aa aq;clear cc aq s0 s1 h1 h2 aj;refine tk 0 ?_;refine tk 1 ?_;refine tk 2 ?_;refine tk 3 ?_;refine tk 4 ?_;refine eL (i:=5) rfl (by kernel_rfl) (λK hK=>?_);go_simp;refine(ak.out _ (bK aS.out aN.out)).mono ?_;rintro e w3 ⟨aI,l,hL,u,rfl,ho,aB⟩;have bw:=aa (bK aN.out aB);have iU:=aU.out _ bw.out;have cA:=aa hL;have ck:=aa (gJ ho (bK aS.out aN.out).size);refine hK.out _ _ iU (λ_=>?_);clear hK K ox aB ho hL;try simp only[dz,List.setIfInBounds_toArray,List.set_cons_zero,List.set_cons_succ]
 refine tk 6 ?_;refine tk 7 ?_;refine tk 8 ?_;refine tk 9 ?_;refine gU (by kernel_rfl) ?_ _;clear iU;go_wp2;go_ret2;exact⟨aI,l,cA.out,u,rfl,ck.out,bK aS.out bw.out⟩
theorem aff b al ar ob nb no au W(vp:ob<W.heap.size)(hnb:nb<W.heap.size)(h1:W.cell? ⟨ob,1,η⟩=θ (.slice (θ ⟨nb,no,η⟩) 2 au))(h2:W.cell? ⟨nb,no+1,η⟩=θ (.int .i64 b)):Vo 46 #[.pointer (θ ⟨ob,0,η⟩)] al ar (nw al ar b (λa=>a.2.2)) W:=by
 intro ao bo ca cb hA hP;obtain⟨w1,hw1⟩:∃x,x=W.alloc (.cells #[.slice ao al.length ca,.slice bo ar.length cb] 86):=⟨_,rfl⟩;have aj:Below W.heap.size W w1:=by rw[hw1];exact ax W _
 have hC:=λV (hb:Below W.heap.size W V)=>arj ao bo ca cb al ar b V (hA.below hb) (hP.below hb);have s0:w1.cell? ⟨W.heap.size,0,η⟩=θ (.slice ao al.length ca):=by rw[hw1];simp
 have s1:w1.cell? ⟨W.heap.size,1,η⟩=θ (.slice bo ar.length cb):=by rw[hw1];simp
 have hz1:W.heap.size<w1.heap.size:=by rw[hw1];simp
 have cY:=hw1.symm;have ak:=aa hC;have aS:=aa aj;clear hw1 hC hA hP;go_enter akL,ntmps46;go_wp2_with fail;clear cY;refine sU (S:=λv=>v.cell? ⟨W.heap.size,0,η⟩=θ (.slice ao al.length ca)/\v.cell? ⟨W.heap.size,1,η⟩=θ (.slice bo ar.length cb)/\v.cell? ⟨ob,1,η⟩=θ (.slice (θ ⟨nb,no,η⟩) 2 au)/\v.cell? ⟨nb,no+1,η⟩=θ (.int .i64 b)) (by kernel_rfl) ?_;generalize cc:({w1 with drawn:=w1.drawn+1 }:υ)=w2;have aq:Below w1.heap.size w1 w2:=by rw[<-cc];exact below_drewN (Below.refl _ _) 1
 have aU:Hid (∀V,Below w1.heap.size w1 V->V.cell? ⟨W.heap.size,0,η⟩=θ (.slice ao al.length ca)/\V.cell? ⟨W.heap.size,1,η⟩=θ (.slice bo ar.length cb)/\V.cell? ⟨ob,1,η⟩=θ (.slice (θ ⟨nb,no,η⟩) 2 au)/\V.cell? ⟨nb,no+1,η⟩=θ (.int .i64 b)):=λV hb=>
  have hb':=bK aS.out hb
  ⟨(hb.cell (p:=⟨W.heap.size,0,η⟩) hz1).trans s0,(hb.cell (p:=⟨W.heap.size,1,η⟩) hz1).trans s1,(hb'.cell (p:=⟨ob,1,η⟩) vp).trans h1,(hb'.cell (p:=⟨nb,no+1,η⟩) hnb).trans h2⟩
 have ox:=aU.out _ aq;have aN:=aa aq;clear cc aq s0 s1 h1 h2 aj;refine tk 0 ?_;refine tk 1 ?_;refine tk 2 ?_;refine tk 3 ?_;refine tk 4 ?_;refine eL (i:=5) rfl (by kernel_rfl) (λK hK=>?_);go_simp;refine(ak.out _ (bK aS.out aN.out)).mono ?_;rintro e w3 ⟨aI,l,hL,u,rfl,ho,aB⟩;have bw:=aa (bK aN.out aB);have iU:=aU.out _ bw.out;have cA:=aa hL;have ck:=aa (gJ ho (bK aS.out aN.out).size);refine hK.out _ _ iU (λ_=>?_);clear hK K ox aB ho hL;try simp only[dz,List.setIfInBounds_toArray,List.set_cons_zero,List.set_cons_succ]
 refine tk 6 ?_;refine tk 7 ?_;refine tk 8 ?_;refine tk 9 ?_;refine gU (by kernel_rfl) ?_ _;clear iU;go_wp2;go_ret2;exact⟨aI,l,cA.out,u,rfl,ck.out,bK aS.out bw.out⟩
def AtR(Rel:Int->List Int->Prop)(g:bg)(t:Int)(l:List Int)(aI:Int):Prop:=if ng g t≠0 then l=[]/\aI=ng g t else Rel aI l
theorem yH fv ue(oc:∀args w,(callFunc fv args).run ah w=.ok (.enter fv args) w)Rel(ae8:∀aI l,Rel aI l->rW l)g la ea lc ec t w(hG:cL w la ea g)(hlc:g.lives.length<=lc)(hlm:lc<=9223372036854775807)(hT:gv w)(hA:∀W,Below w.heap.size w W->Vo fv ue (cU t g.lives) (dc t g.lives g.af) Rel W):Ξ ah 42 #[.agg #[.int .i64 g.hor,.slice la g.lives.length lc,.slice ea g.af.length ec],.int .i64 t,.func (.func fv) #[] ue] w λe w'=>∃l aI s,e=.returned (.tuple #[.string ⟨s.toArray⟩,.int .i64 aI])/\AtR Rel g t l aI/\(aI=0->s=pI l)/\Below w.heap.size w w':=by
 obtain⟨w1,hw1⟩:∃x,x=w.alloc (.cells #[.int .i64 g.hor,.slice la g.lives.length lc,.slice ea g.af.length ec] 59):=⟨_,rfl⟩;have aA:s7 w w1 w.heap.size g la ea lc ec:=by rw[hw1];exact xW w g la ea lc ec 59
 have h1:=ars g la ea lc ec t w1 (hG.below aA.aQ) hlc hlm;have g0:=aA.c0;have g1:=aA.c1;have g2:=aA.c2;have cY:=hw1.symm;have aS:=aa aA;have aX:=aa hT.low;have cu:=aa hA;have awb:=aa ae8;clear hG aA hw1 hT hA ae8 hlc hlm;by_cases he:ng g t=0
 .rw[χ he,χ he,he]at h1;have bu:Hid (∀l aI,Rel aI l->AtR Rel g t l aI):=λl aI h=>by unfold AtR;rw[ς (by simpa using he)];exact h
  clear he;generalize cU t g.lives=al at*;generalize dc t g.lives g.af=ar at*;go_enter Yp,ntmps42;go_wp2_with fail;refine h1.mono ?_;rintro e w2 ⟨ao,ca,bo,cb,rfl,hal,har,aq⟩;have aN:=aa (aS.out.below aq).aQ;have hAs:=aa (λW hb=>cu.out W (aN.out.trans (hb.mono aN.out.size)) ao bo ca cb (hal.below hb) (har.below hb));clear h1 cY g0 g1 g2 aq aS cu hal har;go_wp2_with fail;refine(hAs.out _ (ax w2 _)).mono ?_;rintro e w3 ⟨aI,l,hR,u,rfl,eY,aB⟩;have bw:=aa (aN.out.trans ((bK (ax w2 _) aB).mono aN.out.size));obtain⟨Vn,uc,rfl,uE⟩:=GO eY;have hrow:=MX Vn uc l aI w3 uE (awb.out _ _ hR) (aX.out.below bw.out).tab;have r6:=aa (bu.out l aI hR);clear hR eY aB uE hAs;go_wp2_with fail;refine hrow.mono ?_;rintro e w4 ⟨rfl,hb4⟩;have cr:=aa (bw.out.trans (hb4.mono bw.out.size));clear hrow hb4;go_wp2;go_ret2;exact⟨l,aI,_,rfl,r6.out,λ_=>rfl,cr.out⟩
 .have hx:(ng g t==0)=false:=by simpa using he
  rw[ς he,ς he]at h1;have kV:=aa he;have bu:Hid (∀l aI,l=[]/\aI=ng g t->AtR Rel g t l aI):=λl aI h=>by unfold AtR;rw[χ he];exact h
  clear he;go_enter Yp,ntmps42;go_wp2_with fail;refine h1.mono ?_;rintro e w2 ⟨ao,ca,bo,cb,rfl, -, -,aq⟩;have aJ:=aa (aS.out.below aq).aQ;have aD:=aa (λo=>aJ.out.alloc aJ.out.size o);clear h1 cY g0 g1 g2 aq aS;go_wp2;go_ret2;exact⟨[],_,[],rfl,bu.out _ _ ⟨rfl,rfl⟩,λh=>absurd h kV.out,aD.out _⟩
theorem Tryz.sizeBuilder:(ah.info? 35).map (·.size)=θ 2:=by kernel_rfl
theorem Tryz.liesBuilder:liesAt ah ah.depth 35 (2/ah.cellsOf 35) 0 35 1=true:=by kernel_rfl
theorem Tryz.infoByte:(ah.info? 5).map (λi=>(i.zero,i.size,i.bytes))=θ (θ (.int .u8 0),1,1):=by kernel_rfl
def dX(B b:Nat)(l:List UInt8)(w:υ):Prop:=Lib.IsBuilderF 35 5 B b (mW l) w
def kX(B b:Nat)(w w':υ):Prop:=Below B w w'/\Lib.OthersKept 5 (θ b) w w'
theorem kX.trans{b}{x y z}(h:kX B b x y)(k:kX B b y z):kX B b x z:=⟨h.1.trans k.1,h.2.trans k.2⟩
theorem kX.size{b}{x y}(h:kX B b x y):x.heap.size<=y.heap.size:=h.1.size
theorem kX.awc{b}{x y}(h:Below x.heap.size x y)(hB:B<=x.heap.size):kX B b x y:=
 ⟨h.mono hB,λk o hk _ _=>by
  have hlt:k<x.heap.size:=by
   rcases Nat.lt_or_ge k x.heap.size with q|q
   .exact q
   .rw[gx q]at hk;simp at hk
  rw[h.block k hlt];exact hk⟩
theorem kX.cells{b}{x y}(h:kX B b x y){t:Θ}{fz}(hk:x.heap[k]?=θ (.cells cs t fz))(hkb:k≠b)(ht:t≠5):y.heap[k]?=θ (.cells cs t fz):=
 h.2 k _ hk (by simpa using hkb) (λc aBi e=>by simp only[Obj.cells.injEq]at e;exact ht e.2.1)
theorem dX.below{b}{l}(h:dX B b l w)(hb:Below w.heap.size w w'):dX B b l w':=by
 have one:∀p,I9 35 5 B b p (mW l) w->I9 35 5 B b p (mW l) w':=by intro p hp;have hlt:=hp.lt;obtain⟨hB,v,hbk,hown,hne⟩:=hp;exact⟨hB,v,by rw[hb.block b hlt];exact hbk,hown.kept (row:=η) ⟨hb.os,hb.tape,hb.output,hb.size,λk hk _=>hb.block k hk⟩ (by cases v.ownBlock<;>simp),hne⟩
 exact h.imp (one _) (one _)
theorem dX.lt{b}{l}(h:dX B b l w):b<w.heap.size:=h.elim (·.lt) (·.lt)
theorem ae9(w:υ):dX w.heap.size w.heap.size [] (w.alloc (.cells #[.pointer η,.slice η 0 0] 35)):=by refine .inl ⟨Nat.le_refl _,.slice η 0 0,heap_alloc_new w _,?_,by simp[Value.ownBlock]⟩;exact World.ownsRowF_of (dJ _ _ _ _)
theorem awd b w(h0:w.cell? ⟨b,0,η⟩=θ (.pointer (θ ⟨b,0,η⟩))):Ξ ah 25 #[.pointer (θ ⟨b,0,η⟩)] w λe w'=>e=.returned (.tuple #[])/\w'=w:=by obtain⟨j,hj,_⟩:=kZ.1 Tryz.sizeBuilder;go_enter Yn,ntmps25;go_wp2;rw[Lib.run_neq_ptr_same w _ ((cD 32).trans underlying32) hj];go_wp2;go_end0;exact⟨rfl,rfl⟩
theorem awe b w(h0:w.cell? ⟨b,0,η⟩=θ (.pointer η))(hsh:w.shape? b=θ (35,2))(hfz:w.frozen? ⟨b,0,η⟩=ο):Ξ ah 25 #[.pointer (θ ⟨b,0,η⟩)] w λe w'=>e=.returned (.tuple #[])/\w'=w.setCell ⟨b,0,η⟩ (.pointer (θ ⟨b,0,η⟩)):=by obtain⟨j,hj,T7⟩:=kZ.1 Tryz.sizeBuilder;go_enter Yn,ntmps25;go_wp2;rw[Lib.run_to_unsafe w ⟨b,0,η⟩ ((cD 32).trans underlying32) ((cD 66).trans underlying66) hj (by rw[T7];decide) hsh (Nat.zero_lt_succ 1)];simp only[qW];rw[Oper.upon_value];go_wp2;rw[run_callFunc_extern alH (by kernel_rfl) (by kernel_rfl) (by kernel_rfl) (e:=C1) (by kernel_rfl)];rw[Lib.run_noEscape];simp only[qW];rw[Oper.upon_value];go_wp2;rw[Lib.run_from_unsafe w ⟨b,0,η⟩ ((cD 66).trans underlying66) ((cD 32).trans underlying32) hj hsh Tryz.liesBuilder];simp only[qW];rw[Oper.upon_value];go_wp2;go_end0;exact⟨rfl,rfl⟩
theorem afa B b l w(h:dX B b l w):Ξ ah 25 #[.pointer (θ ⟨b,0,η⟩)] w λe w'=>e=.returned (.tuple #[])/\(I9 35 5 B b (.pointer (θ ⟨b,0,η⟩)) (mW l) w'/\kX B b w w'):=by
 rcases h with h|h
 .refine(awe b w h.cell0 h.shape h.frozen0).mono ?_;rintro e w' ⟨rfl,rfl⟩;exact⟨rfl,h.used _,(Below.refl B w).setCell (p:=⟨b,0,η⟩) h.1 _,(ae4 _ _ w).setCell ⟨b,0,η⟩ rfl _⟩
 .refine(awd b w h.cell0).mono ?_;rintro e w' ⟨rfl,rfl⟩;exact⟨rfl,h,Below.refl B _,ae4 _ _ _⟩
theorem Vp B b l c w(h:dX B b l w)(hlen:l.length+1<=140737488355328)(hBw:B<=w.heap.size):Ξ ah 16 #[.pointer (θ ⟨b,0,η⟩),.int .u8 (c.toNat:Int)] w λe w'=>e=.returned .nilIface/\dX B b (l++[c]) w'/\kX B b w w':=by
 obtain⟨i0,hi,cg,hz1,bX⟩:=er Tryz.infoByte;go_enter akB,ntmps16;go_wp2_with(go_at_call 25;refine(afa B b l _ h).mono ?_);rintro e w1 ⟨rfl,h1,hw1⟩;obtain⟨hB,v,hbk,hown,hne⟩:=h1;obtain⟨aj,hk1⟩:=hw1;have c0:w1.cell? ⟨b,0,η⟩=θ (.pointer (θ ⟨b,0,η⟩)):=by rw[eu hbk];rfl
 have c1:w1.cell? ⟨b,1,η⟩=θ v:=by rw[eu hbk];rfl
 have hcl:(mW l).length=l.length:=ae1 l;go_wp2_with(at_builtin;refine wpList_append_ownF _ rfl _ _ 33 rfl B 5 i0 (.int .u8 0) 1 1 ((cD 33).trans underlying33) hi cg hz1 bX rfl (by decide) _ _ _ rfl (hown.alloc _) ⟨w1.heap.size,0,η⟩ 1 1 [.int .u8 (c.toNat:Int)] rfl rfl ?c1 ?c2 ?c3 ?c4 ?c5 ?_)
 case c1=>
  intro j u hj
  match j,hj with
  |0,hj=>simp at hj;subst hj;simp[Addr.add]
 case c2=>intro u hu;simp at hu;subst hu;rfl
 case c3=>unfold maxLen;omega
 case c4=>omega
 case c5=>have:=aj.size;simp;omega
 intro v' w2 jK hgrow _;have hlt:b<w1.heap.size:=by
  rcases Nat.lt_or_ge b w1.heap.size with h'|h'
  .exact h'
  .simp[gx h']at hbk
 have aq:w2.heap[b]?=θ (.cells #[.pointer (θ ⟨b,0,η⟩),v] 35 (0,0)):=by rw[hgrow.block b (by simp;omega) (λe=>hne e.symm),Lib.alloc_old w1 _ b hlt];exact hbk
 have d0:w2.cell? ⟨b,0,η⟩=θ (.pointer (θ ⟨b,0,η⟩)):=by rw[eu aq];rfl
 have d1:w2.cell? ⟨b,1,η⟩=θ v:=by rw[eu aq];rfl
 have f1:w2.frozen? ⟨b,1,η⟩=false:=vH aq 1;obtain⟨g,cap,rfl⟩:∃g cap,v'=.slice (θ ⟨g,0,η⟩) (l.length+1) cap:=by
  rcases jK.2 with⟨_,h0⟩|⟨g,cap,cur,fz,hv,_⟩
  .omega
  .exact⟨g,cap,hv⟩
 have bI:Hid (dX B b (l++[c]) (w2.setCell ⟨b,1,η⟩ (.slice (θ ⟨g,0,η⟩) (l.length+1) cap))/\kX B b w (w2.setCell ⟨b,1,η⟩ (.slice (θ ⟨g,0,η⟩) (l.length+1) cap))):=by
  refine⟨.inr ?_,?_,((hk1.alloc _).grown hgrow (ae2 (hown.alloc _))).setCell ⟨b,1,η⟩ rfl _⟩
  ·(have e2:mW (l++[c])=mW l++[.int .u8 (c.toNat:Int)]:=by simp[mW]);rw[e2];exact ae3 (T:=35) (e:=5) hB aq (bs':=mW l++[.int .u8 (c.toNat:Int)]) (by simpa[hcl]using jK) (by decide)
  .exact((aj.alloc (by have:=aj.size;omega) _).grown hgrow (by have:=aj.size;simp;omega) (λk hk=>(hown.lt k hk).1)).setCell (p:=⟨b,1,η⟩) hB _
 clear jK hgrow hown hcl;go_wp2;go_ret;exact⟨rfl,bI.out⟩
theorem Vq B b l s w(h:dX B b l w)(hlen:l.length+s.size<=140737488355328)(hBw:B<=w.heap.size):Ξ ah 14 #[.pointer (θ ⟨b,0,η⟩),.string s] w λe w'=>e=.returned (.tuple #[.int .i64 s.size,.nilIface])/\dX B b (l++s.data.toList) w'/\kX B b w w':=by
 obtain⟨i0,hi,cg,hz1,bX⟩:=er Tryz.infoByte;go_enter akz,ntmps14;go_wp2_with(go_at_call 25;refine(afa B b l _ h).mono ?_);rintro e w1 ⟨rfl,h1,hw1⟩;obtain⟨hB,v,hbk,hown,hne⟩:=h1;obtain⟨aj,hk1⟩:=hw1;have c0:w1.cell? ⟨b,0,η⟩=θ (.pointer (θ ⟨b,0,η⟩)):=by rw[eu hbk];rfl
 have c1:w1.cell? ⟨b,1,η⟩=θ v:=by rw[eu hbk];rfl
 have hcl:(mW l).length=l.length:=ae1 l;go_wp2_with(at_builtin;refine Lib.wpList_append_own_stringF _ rfl _ _ 33 9 rfl B 5 i0 ((cD 33).trans underlying33) ((cD 9).trans underlying9) hi cg hz1 bX _ _ _ rfl hown s rfl ?c3 ?c4 ?c5 ?_)
 case c3=>unfold maxLen;omega
 case c4=>omega
 case c5=>have:=aj.size;omega
 intro v' w2 jK hgrow _;have hlt:b<w1.heap.size:=by
  rcases Nat.lt_or_ge b w1.heap.size with h'|h'
  .exact h'
  .simp[gx h']at hbk
 have aq:w2.heap[b]?=θ (.cells #[.pointer (θ ⟨b,0,η⟩),v] 35 (0,0)):=by rw[hgrow.block b hlt (λe=>hne e.symm)];exact hbk
 have d0:w2.cell? ⟨b,0,η⟩=θ (.pointer (θ ⟨b,0,η⟩)):=by rw[eu aq];rfl
 have d1:w2.cell? ⟨b,1,η⟩=θ v:=by rw[eu aq];rfl
 have f1:w2.frozen? ⟨b,1,η⟩=false:=vH aq 1;obtain⟨ao,n',cap,rfl⟩:∃ao n' cap,v'=.slice ao n' cap:=by
  rcases jK.2 with⟨hv,_⟩|⟨g,cap,cur,fz,hv,_⟩
  .exact⟨_,_,_,hv⟩
  .exact⟨_,_,_,hv⟩
 have bI:Hid (dX B b (l++s.data.toList) (w2.setCell ⟨b,1,η⟩ (.slice ao n' cap))/\kX B b w (w2.setCell ⟨b,1,η⟩ (.slice ao n' cap))):=by
  refine⟨.inr ?_,?_,(hk1.grown hgrow (ae2 hown)).setCell ⟨b,1,η⟩ rfl _⟩
  ·(have e2:mW (l++s.data.toList)=mW l++Lib.strCells s:=by rw[Lib.byteCells_append];rfl);rw[e2];exact ae3 (T:=35) (e:=5) hB aq (bs':=mW l++Lib.strCells s) (by simpa[Lib.strCells_length,hcl]using jK) (by decide)
  .exact(aj.grown hgrow (by have:=aj.size;omega) (λk hk=>(hown.lt k hk).1)).setCell (p:=⟨b,1,η⟩) hB _
 clear jK hgrow hown hcl;go_wp2;go_ret2;exact⟨rfl,bI.out⟩
theorem afb B b l w(h:dX B b l w)(hBw:B<=w.heap.size):Ξ ah 17 #[.pointer (θ ⟨b,0,η⟩)] w λe w'=>e=.returned (.string ⟨l.toArray⟩)/\Below B w w':=
 (Tryz.Builder_String_any_k B b l w h hBw).mono λ_ _ ⟨h1,_,h2,_⟩=>⟨h1,h2⟩
theorem awf(ns:List Int)k(hk:k<ns.length):(ns.take (k+1)).flatMap (λn=>32::dK n)=(ns.take k).flatMap (λn=>32::dK n)++(32::dK ns[k]):=by rw[List.take_succ_eq_append_getElem hk,List.flatMap_append,List.flatMap_singleton]
theorem afc(h:∀n∈ns,0<=n/\n<=9999)k:((ns.take k).flatMap (λn=>32::dK n)).length<=5*ns.length:=by
 have:=Lj (λn=>32::dK n) 5 (ns.take k) (λn hn=>by
  have hn':=h n (List.mem_of_mem_take hn);have:=Zq (n:=n) hn'.1 3 (by omega);simp;omega)
 have hl:(ns.take k).length<=ns.length:=by simp;omega
 have:=Nat.mul_le_mul_left 5 hl;omega
theorem Nz B b l word k0 cap fz ns w(h:dX B b l w)(hT:zw B w)(hk:w.heap[k0]?=θ (.cells (ns.map (bM .i64)).toArray 3 fz))(hkb:k0≠b)(hl:l.length<=100000)(hw:word.size<=100)(hn:ns.length<=4)(hns:∀n∈ns,0<=n/\n<=9999)(hBw:B<=w.heap.size):Ξ ah 105 #[.pointer (θ ⟨b,0,η⟩),.string word,.slice (θ ⟨k0,0,η⟩) ns.length cap] w λe w'=>e=.returned (.tuple #[])/\dX B b (l++line word.data.toList ns) w'/\kX B b w w':=by
 have hsz:word.data.toList.length=word.size:=by rw[jk];rfl
 have afd:∀(l:List UInt8) (W:υ),dX B b l W->l.length+1<=140737488355328->B<=W.heap.size->Ξ ah 16 #[.pointer (θ ⟨b,0,η⟩),.int .u8 32] W λe w'=>e=.returned .nilIface/\dX B b (l++[32]) w'/\kX B b W w':=λl W h1 h2 h3=>Vp B b l 32 W h1 h2 h3;have Ja:∀(l:List UInt8) (W:υ),dX B b l W->l.length+1<=140737488355328->B<=W.heap.size->Ξ ah 16 #[.pointer (θ ⟨b,0,η⟩),.int .u8 10] W λe w'=>e=.returned .nilIface/\dX B b (l++[10]) w'/\kX B b W w':=λl W h1 h2 h3=>Vp B b l 10 W h1 h2 h3;have aX:=aa hT;have cy:=aa hk;have awg:=aa hns;have awh:=aa (afc hns);have H0:=aa (Vq B b l word w h (by omega) hBw);have hH:=aa (⟨afd,Ja⟩:_/\_);have BH:=aa hsz;clear hT hk hns h afd Ja hsz;go_enter ak7,ntmps105;go_wp2_with(go_at_call 14;refine H0.out.mono ?_;rintro e w1 ⟨rfl,xQ,hw1⟩);go_loopw [7,13] (λ_ i wr=>∃k:Nat,k<=ns.length/\i=.int .i64 k/\dX B b (l++word.data.toList++(ns.take k).flatMap (λn=>32::dK n)) wr/\kX B b w wr) (λ_ i _=>ns.length-(intOf i).toNat)
 case atStart=>exact⟨0,Nat.zero_le _,rfl,by simpa using xQ,hw1⟩
 case round=>
  obtain⟨k,bp,rfl,hd,Ey⟩:=hrel;have hl1:=awh.out k;have hBr:B<=wr.heap.size:=Nat.le_trans hBw Ey.size;have hlen:(l++word.data.toList++(ns.take k).flatMap (λn=>32::dK n)).length<=100120:=by rw[List.length_append,List.length_append,BH.out];omega
  have fR:=aa hd;have fN:=aa Ey;have p7:=aa hlen;clear hd Ey hl1 hlen;by_cases hlt:k<ns.length
  .have hheap:=fN.out.cells cy.out hkb (by decide);(have c0:wr.cell? ⟨k0,k,η⟩=θ (.int .i64 ns[k]):=by rw[eu hheap];simp[hlt]);have hn':=awg.out ns[k] (List.getElem_mem hlt);have aJ:=aa (awf ns k hlt);have bu:=aa (Zq (n:=ns[k]) hn'.1 3 (by omega));clear hheap;go_wp2_with(go_at_call 16;refine(hH.out.1 _ _ fR.out (by have:=p7.out;omega) hBr).mono ?_;rintro e w2 ⟨rfl,nM,cc⟩);have tB:=aa nM;have EZ:=aa (fN.out.trans cc);have gj:B<=w2.heap.size:=Nat.le_trans hBr cc.size;have ht2:=(aX.out.below EZ.out.1).tab;clear nM cc c0;go_wp2_with(go_at_call 23;refine(anD _ hn'.1 hn'.2 _ ht2).mono ?_;rintro e w3 ⟨rfl,aB⟩);have Jb:=aa (tB.out.below aB);have awi:=aa (EZ.out.trans (kX.awc (b:=b) aB gj));have IF:B<=w3.heap.size:=Nat.le_trans gj aB.size;clear aB ht2;go_wp2_with(go_at_call 14;refine(Vq B b _ _ _ Jb.out (by have:=p7.out;have:=bu.out;rw[bsize,List.length_append,List.length_singleton];omega) IF).mono ?_;rintro e w4 ⟨rfl,NA,fZ⟩);go_roundw
   case rel=>exact⟨k+1,by omega,by go_num,by rw[aJ.out];simpa using NA,awi.out.trans fZ⟩
   case measure=>simp[intOf];omega
  ·(have c6:k=ns.length:=by omega);subst c6;go_wp2_with(go_at_call 16;refine(hH.out.2 _ _ fR.out (by have:=p7.out;omega) hBr).mono ?_;rintro e w2 ⟨rfl,nM,cc⟩);go_end0;exact⟨rfl,by simpa[line]using nM,fN.out.trans cc⟩
def NB(g:bg):List UInt8:=if aK g=0 then rA g else[]
theorem Vr{α:Type}(f:α->List UInt8)(l:List α)k(hk:k<l.length):(l.take (k+1)).flatMap f=(l.take k).flatMap f++f l[k]:=by rw[List.take_succ_eq_append_getElem hk,List.flatMap_append,List.flatMap_singleton]
theorem Jc{α:Type}(f:α->List UInt8)c(l:List α)k(h:∀x∈l,(f x).length<=c):((l.take k).flatMap f).length<=c*l.length:=by
 have:=Lj f c (l.take k) λx hx=>h x (List.mem_of_mem_take hx);have hl:(l.take k).length<=l.length:=by simp;omega
 have:=Nat.mul_le_mul_left c hl;omega
theorem Fi{w}(h:∀n∈ns,0<=n/\n<=9999):(line w ns).length<=w.length+5*ns.length+1:=by have:=afc h ns.length;rw[List.take_length]at this;simp only[line,List.length_append,List.length_singleton];omega
structure Small(g:bg):Prop where
 hor:0<=g.hor/\g.hor<=9999
 tF:g.lives.length<=12
 qm:g.af.length<=30
 life:∀p∈g.lives,∀n∈[p.1,p.2],0<=n/\n<=9999
 ends:∀e∈g.af,(∀n∈[e.1,e.2.1],0<=n/\n<=9999)/\e.2.2.length<=6
 aH:∀e∈g.af,∀l∈e.2.2,∀n∈[l.1,l.2.1,l.2.2.1,l.2.2.2],0<=n/\n<=9999
theorem cQ.small(R:cQ g):Small g:=by
 have hh:=R.hor;have hl:=R.tF;refine⟨by omega,R.tF,R.qm,λp hp n hn=>?_,λe he=>⟨λn hn=>?_,(R.ends e he).2.2⟩,λe he l hl n hn=>?_⟩
 .have:=R.life p hp;simp at hn;rcases hn with rfl|rfl<;>omega
 .have:=R.ends e he;simp at hn;rcases hn with rfl|rfl<;>omega
 .have hf:=(xz l g.hor).1 (R.aH e he l hl);simp at hn;rcases hn with rfl|rfl|rfl|rfl<;>omega
theorem afe(S:Small g):∀p∈g.lives,(uf p).length<=17:=λp hp=>by have:=Fi (w:=ru) (S.life p hp);simpa[uf,ru]using this
theorem afg(S:Small g){e}(he:e∈g.af):∀l∈e.2.2,(vG l).length<=24:=λl hl=>by have:=Fi (w:=ry) (S.aH e he l hl);simpa[vG,ry]using this
theorem afh(S:Small g):∀e∈g.af,(rz e).length<=200:=λe he=>by
 have h1:=Fi (w:=oJ) (S.ends e he).1;have h2:=Lj vG 24 e.2.2 (afg S he);have h3:=(S.ends e he).2;have h4:=Nat.mul_le_mul_left 24 h3;have h5:(line oJ [e.1,e.2.1]).length<=15:=by simpa[oJ]using h1
 rw[rz,List.length_append];omega
theorem awj g la ea lc ec w(hG:cL w la ea g)(hT:gv w):Ξ ah 68 #[.agg #[.int .i64 g.hor,.slice la g.lives.length lc,.slice ea g.af.length ec]] w λr w'=>r=.returned (.tuple #[.string ⟨(NB g).toArray⟩,.int .i64 (aK g)])/\Below w.heap.size w w':=by
 have aD:=aa (ax w);have hC:=λo=>Eb g la ea lc ec (w.alloc o) (hG.below (ax w o));by_cases h0:aK g=0
 .have ck:Hid (NB g=rA g):=χ h0;have S:=(ei h0).small;rw[h0]at hC ⊢;clear h0;obtain⟨h,lives,af⟩:=g;simp only at hC ⊢;have aU:=aa S;have hh:=S.hor;simp only at hh;have hlv:lives.length<=12:=S.tF;have jE:af.length<=30:=S.qm;have cH:=aa hG;have aX:=aa hT;clear hG hT S;go_enter Yu,ntmps68;go_wp2_with fail;refine(hC _).mono ?_;rintro e w1 ⟨rfl,aj⟩;have aS:=aa (bK (ax w _) aj);have hz1:w.heap.size<w1.heap.size:=by have:=aj.size;simp at this;omega
  have q0:w1.cell? ⟨w.heap.size,0,η⟩=θ (.int .i64 h):=by rw[aj.cell (p:=⟨w.heap.size,0,η⟩) (by simp)];simp
  have q1:w1.cell? ⟨w.heap.size,1,η⟩=θ (.slice la lives.length lc):=by rw[aj.cell (p:=⟨w.heap.size,1,η⟩) (by simp)];simp
  have q2:w1.cell? ⟨w.heap.size,2,η⟩=θ (.slice ea af.length ec):=by rw[aj.cell (p:=⟨w.heap.size,2,η⟩) (by simp)];simp
  have rC:=aa (cH.out.below aS.out);have wG:=aa (aX.out.low.below aS.out);clear hC aj cH aX;have Mq:=aa (show (line mB [h]).length<=20 by have:=Fi (w:=mB) (ns:=[h]) (by simpa using hh);simp[mB]at this ⊢;omega);go_wp2_with fail;have afi:=aa (ae9 w1);have mF:=aa (ax w1 (.cells #[.pointer η,.slice η 0 0] 35));refine(Nz w1.heap.size w1.heap.size [] ⟨#[116,105,109,101]⟩ (w1.heap.size+1) 1 (0,0) [h] _ (dX.below afi.out (ax _ _)) ((wG.out.mono (by omega)).below (mF.out.alloc (by simp) _)) (by rw[show w1.heap.size+1=(w1.alloc (.cells #[.pointer η,.slice η 0 0] 35)).heap.size by simp];exact heap_alloc_new _ _) (by omega) (by simp) (by decide) (by simp) (by simpa using hh) (by simp;omega)).mono ?_;rintro e w2 ⟨rfl,nM,cc⟩;have tB:=aa nM;have aN:Hid (Below w1.heap.size w1 w2):=(mF.out.alloc (by simp) _).trans cc.1;clear nM cc afi mF;have bX:w1.heap.size<w2.heap.size:=tB.out.lt;have G2:w.heap.size<w2.heap.size:=by omega
  have p0:w2.cell? ⟨w.heap.size,1,η⟩=θ (.slice la lives.length lc):=by rw[aN.out.cell (p:=⟨w.heap.size,1,η⟩) hz1,q1]
  clear q0;go_wp2_with fail;go_loopw [24] (λi wr=>∃k:Nat,k<=lives.length/\i=.int .i64 k/\dX w1.heap.size w1.heap.size (line mB [h]++(lives.take k).flatMap uf) wr/\Below w1.heap.size w1 wr) (λi _=>lives.length-(intOf i).toNat)
  case atStart=>exact⟨0,Nat.zero_le _,rfl,by simpa[mB]using tB.out,aN.out⟩
  case round=>
   (obtain⟨k,hk,rfl,hd,hb⟩:=hrel;have fR:=aa hd;have iR:=aa hb;have Fj:w1.heap.size<wr.heap.size:=hd.lt;(have awk:w.heap.size<wr.heap.size:=by omega);have pF:Hid ((line mB [h]++(lives.take k).flatMap uf).length<=1000):=by have h1:=Mq.out;have h2:=Jc uf 17 lives k (afe aU.out);show _<=_;rw[List.length_append];omega);have yC:=aa ((wG.out.mono (B':=w1.heap.size) (by omega)).below hb);clear hd hb p0 tB aN;by_cases hlt:k<lives.length
   .have ZT:=rC.out.lv.below iR.out;rcases ZT with h0|⟨b,off,rfl,cp,hc⟩
    .simp only at h0;subst h0;simp at hlt
    obtain⟨c0,c1⟩:=eg.get hlt hc;have hn:=aa (aU.out.life lives[k] (List.getElem_mem hlt));have aJ:=aa (Vr uf lives k hlt);clear hc;go_wp2_with fail;refine(Nz w1.heap.size w1.heap.size _ ⟨#[118,101,114,116,101,120]⟩ (wr.heap.size+1) 2 (0,0) [lives[k].1,lives[k].2] _ (dX.below (dX.below fR.out (ax _ _)) (ax _ _)) ((yC.out.below ((ax _ _).mono (by omega))).below ((ax _ _).mono (by simp;omega))) (by rw[show wr.heap.size+1=(wr.alloc (.cells #[.int .i64 lives[k].1,.int .i64 lives[k].2] 109)).heap.size by simp];exact heap_alloc_new _ _) (by omega) (by have:=pF.out;omega) (by decide) (by simp) hn.out (by simp;omega)).mono ?_;rintro e w3 ⟨rfl,Jd,pV⟩;have bx:=aa (⟨by rw[aJ.out];simpa[uf,ru]using Jd,(iR.out.alloc (by omega) _ |>.alloc (by simp;omega) _).trans pV.1⟩:dX w1.heap.size w1.heap.size (line mB [h]++(lives.take (k+1)).flatMap uf) w3/\Below w1.heap.size w1 w3);clear Jd pV;go_wp2;go_roundw
    case rel=>exact⟨k+1,by omega,by go_num,bx.out⟩
    case measure=>simp[intOf];omega
   ·(have c6:k=lives.length:=by omega);subst c6;rw[List.take_length]at fR pF;(have p2:wr.cell? ⟨w.heap.size,2,η⟩=θ (.slice ea af.length ec):=by rw[iR.out.cell (p:=⟨w.heap.size,2,η⟩) hz1,q2]);obtain⟨T0,E6⟩:∃T0,T0=line mB [h]++lives.flatMap uf:=⟨_,rfl⟩;have E7:=aa E6;rw[<-E6]at fR pF;clear E6;obtain⟨mG,ux⟩:∃mG,mG=wr:=⟨_,rfl⟩;subst ux;go_wp2_with fail;go_loopw [38] (λi wr=>∃k:Nat,k<=af.length/\i=.int .i64 k/\dX w1.heap.size w1.heap.size (T0++(af.take k).flatMap rz) wr/\Below w1.heap.size w1 wr) (λi _=>af.length-(intOf i).toNat)
    case atStart=>exact⟨0,Nat.zero_le _,rfl,by simpa using fR.out,iR.out⟩
    case round=>
     (clear fR iR yC p2;obtain⟨k,hk,rfl,hd,hb⟩:=hrel;have fR:=aa hd;have iR:=aa hb;have Fj:w1.heap.size<wr.heap.size:=hd.lt;(have awk:w.heap.size<wr.heap.size:=by omega);have afj:Hid ((T0++(af.take k).flatMap rz).length<=7000):=by have h1:=pF.out;have h2:=Jc rz 200 af k (afh aU.out);show _<=_;rw[List.length_append];omega);have yC:=aa ((wG.out.mono (B':=w1.heap.size) (by omega)).below hb);clear hd hb;by_cases hlt:k<af.length
     .rcases rC.out.ed with h0|⟨b,off,rfl,cp,hc⟩
      .simp only at h0;subst h0;simp at hlt
      (obtain⟨xO,xP,lo,cv,rH,hL,_,_⟩:=hc k hlt;have c0:=(iR.out.cell (p:=⟨b,off+k*3,η⟩) cp).trans xO;have c1:=(iR.out.cell (p:=⟨b,off+k*3+1,η⟩) cp).trans xP;have c2:=(iR.out.cell (p:=⟨b,off+k*3+2,η⟩) cp).trans rH;(have arx:b<wr.heap.size:=by omega);clear xO xP rH;have hm:=List.getElem_mem hlt;have aR:=aa (aU.out.ends af[k] hm);have Vs:=aa (aU.out.aH af[k] hm);have Vt:=aa (Jc vG 24 af[k].2.2 · (afg aU.out hm));have aJ:=aa (Vr rz af k hlt);have Hv:=aa hL;clear hc hL hm;simp only at aR Vs Vt aJ Hv c0 c1 c2;generalize af[k]=ed at*;obtain⟨A,B,aH⟩:=ed;simp only at aR Vs Vt aJ Hv c0 c1 c2;have h6:aH.length<=6:=aR.out.2;go_wp2_with fail;refine(Nz w1.heap.size w1.heap.size _ ⟨#[101,100,103,101]⟩ (wr.heap.size+1) 2 (0,0) [A,B] _ (dX.below (dX.below fR.out (ax _ _)) (ax _ _)) ((yC.out.below ((ax _ _).mono (by omega))).below ((ax _ _).mono (by simp;omega))) (by rw[show wr.heap.size+1=(wr.alloc (.cells #[.int .i64 A,.int .i64 B,.slice lo aH.length cv] 112)).heap.size by simp];exact heap_alloc_new _ _) (by omega) (by have:=afj.out;omega) (by decide) (by simp) aR.out.1 (by simp;omega)).mono ?_;rintro e w3 ⟨rfl,Jd,pV⟩;have Jb:Hid (dX w1.heap.size w1.heap.size (T0++(af.take k).flatMap rz++line oJ [A,B]) w3):=Jd;have bw:=aa ((iR.out.alloc (by omega) _ |>.alloc (by simp;omega) _).trans pV.1);have jF:=pV.cells (k:=wr.heap.size) (cs:=#[.int .i64 A,.int .i64 B,.slice lo aH.length cv]) (t:=112) (fz:=(0,0)) (((ax _ _).block _ (by simp)).trans (heap_alloc_new _ _)) (by omega) (by decide);(have e2:w3.cell? ⟨wr.heap.size,2,η⟩=θ (.slice lo aH.length cv):=by rw[eu jF];rfl);have afk:Hid ((T0++(af.take k).flatMap rz++line oJ [A,B]).length<=7020):=by have h1:=afj.out;have h2:=Fi (w:=oJ) aR.out.1;show _<=_;simp[oJ]at h1 h2 ⊢;omega);obtain⟨T1,Fe⟩:∃T1,T1=T0++(af.take k).flatMap rz++line oJ [A,B]:=⟨_,rfl⟩;have awl:=aa Fe;rw[<-Fe]at Jb afk;clear Jd pV jF c0 c1 c2 Fe;obtain⟨wv,awm⟩:∃wv,wv=wr:=⟨_,rfl⟩;subst awm;go_wp2_with fail;go_loopw [51] (λi wr=>∃j:Nat,j<=aH.length/\i=.int .i64 j/\dX w1.heap.size w1.heap.size (T1++(aH.take j).flatMap vG) wr/\Below w1.heap.size w1 wr) (λi _=>aH.length-(intOf i).toNat)
      case atStart=>exact⟨0,Nat.zero_le _,rfl,by simpa using Jb.out,bw.out⟩
      case round=>
       (clear fR iR yC e2 Jb bw;obtain⟨j,hj,rfl,hd,hb⟩:=hrel;have fR:=aa hd;have iR:=aa hb;have Fj:w1.heap.size<wr.heap.size:=hd.lt;have yC:=aa ((wG.out.mono (B':=w1.heap.size) (by omega)).below hb);have awn:Hid ((T1++(aH.take j).flatMap vG).length<=7200):=by have h1:=afk.out;have h2:=Vt.out j;show _<=_;rw[List.length_append];omega);clear hd hb;by_cases hjl:j<aH.length
       .rcases Hv.out.below iR.out with h0|⟨b',off',rfl,aBj,dV⟩
        .subst h0;simp at hjl
        obtain⟨d0,d1,d2,d3⟩:=pn.get hjl dV;have hn:=aa (Vs.out aH[j] (List.getElem_mem hjl));have awo:=aa (Vr vG aH j hjl);clear dV;go_wp2_with fail;refine(Nz w1.heap.size w1.heap.size _ ⟨#[108,101,103]⟩ (wr.heap.size+1) 4 (0,0) [aH[j].1,aH[j].2.1,aH[j].2.2.1,aH[j].2.2.2] _ (dX.below (dX.below fR.out (ax _ _)) (ax _ _)) ((yC.out.below ((ax _ _).mono (by omega))).below ((ax _ _).mono (by simp;omega))) (by rw[show wr.heap.size+1=(wr.alloc (.cells #[.int .i64 aH[j].1,.int .i64 aH[j].2.1,.int .i64 aH[j].2.2.1,.int .i64 aH[j].2.2.2] 167)).heap.size by simp];exact heap_alloc_new _ _) (by omega) (by have:=awn.out;omega) (by decide) (by simp) hn.out (by simp;omega)).mono ?_;rintro e w4 ⟨rfl,NA,fZ⟩;have bx:=aa (⟨by rw[awo.out];simpa[vG,ry]using NA,(iR.out.alloc (by omega) _ |>.alloc (by simp;omega) _).trans fZ.1⟩:dX w1.heap.size w1.heap.size (T1++(aH.take (j+1)).flatMap vG) w4/\Below w1.heap.size w1 w4);clear NA fZ;go_wp2;go_roundw
        case rel=>exact⟨j+1,by omega,by go_num,bx.out⟩
        case measure=>simp[intOf];omega
       ·((have awp:j=aH.length:=by omega);subst awp;rw[List.take_length]at fR;have bx:Hid (dX w1.heap.size w1.heap.size (T0++(af.take (k+1)).flatMap rz) wr):=by have:=fR.out;rw[awl.out]at this;show dX _ _ _ _;rw[aJ.out,rz];simpa using this);go_wp2;go_roundw
        case rel=>exact⟨k+1,by omega,by go_num,bx.out,iR.out⟩
        case measure=>simp[intOf];omega
     ·(have c6:k=af.length:=by omega);subst c6;rw[List.take_length]at fR;go_wp2_with fail;refine(afb w1.heap.size w1.heap.size _ _ fR.out (by omega)).mono ?_;rintro e w3 ⟨rfl,aB⟩;go_wp2;go_ret2;exact⟨by rw[ck.out,rA,E7.out];rfl,aS.out.trans ((iR.out.trans aB).mono (by omega))⟩
 .have ck:Hid (NB g=[]):=ς h0;have hne:(aK g !=0)=true:=by simpa using h0
  generalize aK g=ev at*;clear hG hT;go_enter Yu,ntmps68;go_wp2_with(go_at_call 40;refine(hC _).mono ?_;rintro e w1 ⟨rfl,aj⟩);go_ret2;exact⟨by rw[ck.out];rfl,bK (aD.out _) aj⟩
open Low (ji eX)
open Lo (eH)
theorem Vu{k}{n}{F}{hs}{l}{aI}{R}(hk:k=lG\/k=rD\/k=ur)(h:AtR R g (n.getD 0 0) l aI)(hR:R aI l->if k=lG then wo (cU (n.getD 0 0) g.lives) (dc (n.getD 0 0) g.lives g.af) aI l
   else if k=rD then nw (cU (n.getD 0 0) g.lives) (dc (n.getD 0 0) g.lives g.af) (n.getD 1 0) (λ_=>1) aI l
   else nw (cU (n.getD 0 0) g.lives) (dc (n.getD 0 0) g.lives g.af) (n.getD 1 0) (λa=>a.2.2) aI l):eT g ⟨k,n,F,hs⟩ l aI:=by
 unfold eT;rw[χ hk];unfold AtR at h;simp only[nT.a,nT.b];by_cases h1:ng g (n.getD 0 0)=0
 .simp only[h1,ne_eq,Jn,fh]at h ⊢;exact hR h
 .simp only[h1,ne_eq,NQ,dF]at h ⊢;exact h
theorem awq g la ea lc ec a F hs na ha au hc f w(hG:cL w la ea g)(h0:aK g=0)(hlc:g.lives.length<=lc)(hlm:lc<=9223372036854775807)(hN:jC w na [a])(hH:eg w ha hs)(hT:gv w):Ξ ah 29 #[.agg #[.string ⟨lG.toArray⟩,.slice na 1 au,f,.slice ha hs.length hc],.agg #[.int .i64 g.hor,.slice la g.lives.length lc,.slice ea g.af.length ec]] w λe w'=>∃l aI s,e=.returned (.tuple #[.string ⟨s.toArray⟩,.int .i64 aI])/\eT g ⟨lG,[a],F,hs⟩ l aI/\(aI=0->s=pI l)/\Below w.heap.size w w':=by
 obtain⟨w1,hw1⟩:∃x,x=(w.alloc (.cells #[.string ⟨lG.toArray⟩,.slice na 1 au,f,.slice ha hs.length hc] 53)).alloc (.cells #[.int .i64 g.hor,.slice la g.lives.length lc,.slice ea g.af.length ec] 59):=⟨_,rfl⟩;have aA:r7 w w1 g la ea lc ec lG [a] na au hs ha hc:=by rw[hw1];exact CJ hG hN hH f _ _
 have cY:=hw1.symm;have aX:=aa hT.low;have bS:=aa aA;rcases aA.zs with e|⟨nb,no,rfl,hnb,hz⟩
 .cases e
 have z0:w1.cell? ⟨nb,no,η⟩=θ (.int .i64 a):=hz 0 (by simp);have c0:=aA.c0;have c1:=aA.c1;have g0:=aA.g0;have g1:=aA.g1;have g2:=aA.g2;have bI:Hid (∀W,Below w1.heap.size w1 W->Ξ ah 42 #[.agg #[.int .i64 g.hor,.slice la g.lives.length lc,.slice ea g.af.length ec],.int .i64 a,.func (.func 43) #[] #[]] W λr w'=>∃l aI s,r=.returned (.tuple #[.string ⟨s.toArray⟩,.int .i64 aI])/\eT g ⟨lG,[a],F,hs⟩ l aI/\(aI=0->s=pI l)/\Below W.heap.size W w'):=λW hb=>
  (yH 43 #[] (λargs w=>rfl) (wo (cU a g.lives) (dc a g.lives g.af)) (λaI l h=>adr (ei h0) h) g la ea lc ec a W (bS.out.below hb).ga hlc hlm (aX.out.below (bS.out.aQ.trans (hb.mono bS.out.aQ.size))).tab (λV hV ao bo ca cb hA hP=>ark ao bo ca cb _ _ V hA hP)).mono λr w' ⟨l,aI,s,h1,h2,h3,h4⟩=>⟨l,aI,s,h1,Vu (.inl rfl) h2 (λh=>by rw[χ rfl];exact h),h3,h4⟩
 clear hG hN hH hT hw1 aA hz hlc hlm;simp only[lG]at c0 cY;simp only[lG];go_enter Bz,ntmps29;go_wp2_with fail;clear cY;refine sU (S:=λw3=>w3.cell? ⟨w.heap.size,1,η⟩=θ (.slice (θ ⟨nb,no,η⟩) 1 au)/\w3.cell? ⟨w.heap.size+1,0,η⟩=θ (.int .i64 g.hor)/\w3.cell? ⟨w.heap.size+1,1,η⟩=θ (.slice la g.lives.length lc)/\w3.cell? ⟨w.heap.size+1,2,η⟩=θ (.slice ea g.af.length ec)/\w3.cell? ⟨nb,no,η⟩=θ (.int .i64 a)) (by kernel_rfl) ?_;generalize cc:({w1 with drawn:=w1.drawn+1 }:υ)=w2;have aq:Below w1.heap.size w1 w2:=by rw[<-cc];exact below_drewN (Below.refl _ _) 1
 have aU:Hid (∀W,Below w1.heap.size w1 W->W.cell? ⟨w.heap.size,1,η⟩=θ (.slice (θ ⟨nb,no,η⟩) 1 au)/\W.cell? ⟨w.heap.size+1,0,η⟩=θ (.int .i64 g.hor)/\W.cell? ⟨w.heap.size+1,1,η⟩=θ (.slice la g.lives.length lc)/\W.cell? ⟨w.heap.size+1,2,η⟩=θ (.slice ea g.af.length ec)/\W.cell? ⟨nb,no,η⟩=θ (.int .i64 a)):=λW hb=>by have B:=bS.out.below hb;exact⟨B.c1,B.g0,B.g1,B.g2,(hb.cell (p:=⟨nb,no,η⟩) hnb).trans z0⟩
 have ox:=aU.out _ aq;have aN:=aa aq;clear cc aq c0 c1 g0 g1 g2 z0;refine tk 0 ?_;refine tk 1 ?_;refine tk 2 ?_;refine tk 3 ?_;refine tk 4 ?_;refine eL (i:=5) rfl (by kernel_rfl) (λK hK=>?_);go_simp;refine(bI.out _ aN.out).mono ?_;rintro e w3 ⟨l,aI,s,rfl,qQ,hs,aB⟩;have bw:=aa (bK aN.out aB);have iU:=aU.out _ bw.out;have aR:=aa qQ;have EC:=aa hs;refine hK.out _ _ iU (λ_=>?_);clear hK K ox aB qQ aN hs;try simp only[dz,List.setIfInBounds_toArray,List.set_cons_zero,List.set_cons_succ]
 refine tk 6 ?_;refine tk 7 ?_;refine tk 8 ?_;refine tk 9 ?_;refine gU (by kernel_rfl) ?_ _;clear iU;go_wp2;go_ret2;exact⟨l,aI,s,rfl,aR.out,EC.out,bS.out.aQ.trans (bw.out.mono bS.out.aQ.size)⟩
theorem awr g la ea lc ec k a b F hs na ha au hc f w(hG:cL w la ea g)(h0:aK g=0)(hlc:g.lives.length<=lc)(hlm:lc<=9223372036854775807)(hN:jC w na [a,b])(hH:eg w ha hs)(hT:gv w)(hk:k=rD\/k=ur):Ξ ah 29 #[.agg #[.string ⟨k.toArray⟩,.slice na 2 au,f,.slice ha hs.length hc],.agg #[.int .i64 g.hor,.slice la g.lives.length lc,.slice ea g.af.length ec]] w λe w'=>∃l aI s,e=.returned (.tuple #[.string ⟨s.toArray⟩,.int .i64 aI])/\eT g ⟨k,[a,b],F,hs⟩ l aI/\(aI=0->s=pI l)/\Below w.heap.size w w':=by
 obtain⟨w1,hw1⟩:∃x,x=(w.alloc (.cells #[.string ⟨k.toArray⟩,.slice na 2 au,f,.slice ha hs.length hc] 53)).alloc (.cells #[.int .i64 g.hor,.slice la g.lives.length lc,.slice ea g.af.length ec] 59):=⟨_,rfl⟩;have aA:r7 w w1 g la ea lc ec k [a,b] na au hs ha hc:=by rw[hw1];exact CJ hG hN hH f _ _
 have cY:=hw1.symm;have aX:=aa hT.low;have bS:=aa aA;obtain⟨nb,no,rfl,hnb,z0,z1⟩:=aA.two;have c0:=aA.c0;have c1:=aA.c1;have g0:=aA.g0;have g1:=aA.g1;have g2:=aA.g2;have S:=Tj (ei h0) a;clear hG hN hH hT hw1 aA;rcases hk with rfl|rfl
 case' inl=>have bI:Hid (∀W,Below w1.heap.size w1 W->Ξ ah 42 #[.agg #[.int .i64 g.hor,.slice la g.lives.length lc,.slice ea g.af.length ec],.int .i64 a,.func (.func 44) #[] #[.pointer (θ ⟨w.heap.size,0,η⟩)]] W λr w'=>∃l aI s,r=.returned (.tuple #[.string ⟨s.toArray⟩,.int .i64 aI])/\eT g ⟨rD,[a,b],F,hs⟩ l aI/\(aI=0->s=pI l)/\Below W.heap.size W w'):=λW hb=>
  (yH 44 #[.pointer (θ ⟨w.heap.size,0,η⟩)] (λargs w=>rfl) (nw (cU a g.lives) (dc a g.lives g.af) b (λ_=>1)) (λaI l h=>MR (ei h0) (λ_ _=>by omega) h) g la ea lc ec a W (bS.out.below hb).ga hlc hlm (aX.out.below (bS.out.aQ.trans (hb.mono bS.out.aQ.size))).tab
   (λV hV=>have CK:=bK hb hV;have B:=bS.out.below CK;aiX b _ _ w.heap.size nb no au V (by have:=B.lt;omega) (Nat.lt_of_lt_of_le hnb CK.size) B.c1 ((CK.cell (p:=⟨nb,no+1,η⟩) hnb).trans z1))).mono λr w' ⟨l,aI,s,h1,h2,h3,h4⟩=>⟨l,aI,s,h1,Vu (.inr (.inl rfl)) h2 (λh=>by rw[ς (by decide),χ rfl];exact h),h3,h4⟩
 case' inr=>have bI:Hid (∀W,Below w1.heap.size w1 W->Ξ ah 42 #[.agg #[.int .i64 g.hor,.slice la g.lives.length lc,.slice ea g.af.length ec],.int .i64 a,.func (.func 46) #[] #[.pointer (θ ⟨w.heap.size,0,η⟩)]] W λr w'=>∃l aI s,r=.returned (.tuple #[.string ⟨s.toArray⟩,.int .i64 aI])/\eT g ⟨ur,[a,b],F,hs⟩ l aI/\(aI=0->s=pI l)/\Below W.heap.size W w'):=λW hb=>
  (yH 46 #[.pointer (θ ⟨w.heap.size,0,η⟩)] (λargs w=>rfl) (nw (cU a g.lives) (dc a g.lives g.af) b (λa=>a.2.2)) (λaI l h=>MR (ei h0) (λa ha=>(S.cost a ha).1) h) g la ea lc ec a W (bS.out.below hb).ga hlc hlm (aX.out.below (bS.out.aQ.trans (hb.mono bS.out.aQ.size))).tab
   (λV hV=>have CK:=bK hb hV;have B:=bS.out.below CK;aff b _ _ w.heap.size nb no au V (by have:=B.lt;omega) (Nat.lt_of_lt_of_le hnb CK.size) B.c1 ((CK.cell (p:=⟨nb,no+1,η⟩) hnb).trans z1))).mono λr w' ⟨l,aI,s,h1,h2,h3,h4⟩=>⟨l,aI,s,h1,Vu (.inr (.inr rfl)) h2 (λh=>by rw[ς (by decide),ς (by decide)];exact h),h3,h4⟩
 all_goals
  clear S hlc hlm;simp only[rD,ur]at c0 cY;simp only[rD,ur];go_enter Bz,ntmps29;go_wp2_with fail;clear cY;refine sU (S:=λw3=>w3.cell? ⟨w.heap.size,1,η⟩=θ (.slice (θ ⟨nb,no,η⟩) 2 au)/\w3.cell? ⟨w.heap.size+1,0,η⟩=θ (.int .i64 g.hor)/\w3.cell? ⟨w.heap.size+1,1,η⟩=θ (.slice la g.lives.length lc)/\w3.cell? ⟨w.heap.size+1,2,η⟩=θ (.slice ea g.af.length ec)/\w3.cell? ⟨nb,no,η⟩=θ (.int .i64 a)) (by kernel_rfl) ?_;generalize cc:({w1 with drawn:=w1.drawn+1 }:υ)=w2;have aq:Below w1.heap.size w1 w2:=by rw[<-cc];exact below_drewN (Below.refl _ _) 1
  have aU:Hid (∀W,Below w1.heap.size w1 W->W.cell? ⟨w.heap.size,1,η⟩=θ (.slice (θ ⟨nb,no,η⟩) 2 au)/\W.cell? ⟨w.heap.size+1,0,η⟩=θ (.int .i64 g.hor)/\W.cell? ⟨w.heap.size+1,1,η⟩=θ (.slice la g.lives.length lc)/\W.cell? ⟨w.heap.size+1,2,η⟩=θ (.slice ea g.af.length ec)/\W.cell? ⟨nb,no,η⟩=θ (.int .i64 a)):=λW hb=>by have B:=bS.out.below hb;exact⟨B.c1,B.g0,B.g1,B.g2,(hb.cell (p:=⟨nb,no,η⟩) hnb).trans z0⟩
  have ox:=aU.out _ aq;have aN:=aa aq;clear cc aq c0 c1 g0 g1 g2 z0 z1;refine tk 0 ?_;refine tk 1 ?_;refine tk 2 ?_;refine tk 3 ?_;refine tk 4 ?_;refine tk 5 ?_;refine eL (i:=6) rfl (by kernel_rfl) (λK hK=>?_);go_simp;refine(bI.out _ aN.out).mono ?_;rintro e w3 ⟨l,aI,s,rfl,qQ,hs,aB⟩;have bw:=aa (bK aN.out aB);have iU:=aU.out _ bw.out;have aR:=aa qQ;have EC:=aa hs;refine hK.out _ _ iU (λ_=>?_);clear hK K ox aB qQ aN hs;try simp only[dz,List.setIfInBounds_toArray,List.set_cons_zero,List.set_cons_succ]
  refine tk 7 ?_;refine tk 8 ?_;refine tk 9 ?_;refine tk 10 ?_;refine gU (by kernel_rfl) ?_ _;clear iU;go_wp2;go_ret2;exact⟨l,aI,s,rfl,aR.out,EC.out,bS.out.aQ.trans (bw.out.mono bS.out.aQ.size)⟩
theorem afl(S:Small g):(rA g).length<=50000:=by have h1:=Jc uf 17 g.lives g.lives.length (afe S);have h2:=Jc rz 200 g.af g.af.length (afh S);have h3:=Fi (w:=mB) (ns:=[g.hor]) (by simpa using S.hor);have h4:=S.tF;have h5:=S.qm;rw[List.take_length]at h1 h2;have h6:mB.length=4:=rfl;simp only[rA,List.length_append,List.length_singleton]at h3 ⊢;omega
theorem aws g la ea lc ec w(hG:cL w la ea g)(h0:aK g=0)(hT:gv w):Ξ ah 41 #[.agg #[.int .i64 g.hor,.slice la g.lives.length lc,.slice ea g.af.length ec]] w λe w'=>e=.returned (.tuple #[.string ⟨(rA g++lH).toArray⟩,.int .i64 0])/\Below w.heap.size w w':=by have hl:=afl (ei h0).small;have hP:=λo=>awj g la ea lc ec (w.alloc o) (hG.below (ax w o)) (hT.low.below (ax w o)).tab;have e1:NB g=rA g:=χ h0;rw[e1,h0]at hP;have ak:=aa (uS (rA g) lH);generalize rA g=T at*;clear hG h0 hT e1;go_enter akI,ntmps41;go_wp2_with fail;refine(hP _).mono ?_;rintro e w2 ⟨rfl,aq⟩;have aN:=aa (bK (ax w _) aq);clear hP aq;go_wp2;go_ret2;exact⟨jM (λx=>sH (.tuple #[.string x,.int .i64 0])) ak.out,aN.out⟩
theorem awt(h0:aK g=0){o}{l}{e}(h:eT g o l e):0<=e/\e<=9:=by
 have pc:∀v t,0<=dB g v t/\dB g v t<=9:=λv t=>by have:=aow g v t;omega
 have sc:∀{al:List Bool}{ar:List b9},¬ij al ar=0->0<=ij al ar/\ij al ar<=9:=λh=>by obtain⟨n,h1,h2⟩:=Tb h;omega
 have awu:∀{al:List Bool}{ar:List b9}{fr n:Int}{p:b9->Int}{r:List Int},nw al ar fr p n r->0<=n/\n<=9:=by
  intro al ar fr n p r h;rcases h with⟨h1,rfl,_⟩|⟨_,_,rfl,_⟩|⟨_,_,rfl,_⟩
  .exact sc h1
  .omega
  .omega
 unfold eT at h;split at h
 .split at h
  .rw[h.2];unfold ng;rw[χ h0];split<;>omega
  .split at h
   .rcases h with⟨h1,rfl,_⟩|⟨_,rfl,_⟩
    .exact sc h1
    .omega
   .split at h<;>exact awu h
 .split at h
  .rw[h.2];exact pc _ _
  .split at h
   .rw[h.2];exact pc _ _
   .split at h
    .rw[h.2];exact pc _ _
    .split at h
     .rw[h.2];exact pc _ _
     .split at h
      .obtain⟨d,x,_,h⟩:=h;rcases h with⟨h1,_⟩|⟨_,_,rfl,_⟩|⟨_,_,h⟩
       .exact absurd h0 h1
       .omega
       .unfold B2 at h;omega
      .rw[h.2];unfold n5;split
       .split
        .simp
        .split<;>simp
       .exact pc _ _
def Fl(g:bg)(o:nT)(s:List UInt8)(aI:Int):Prop:=fe g o (if aI=0 then s else ie aI)/\(aI=0->s.length<=100000)/\0<=aI/\aI<=9
theorem Je(h0:aK g=0){o}{l}{aI}{s}(h1:o.name≠gL)(h2:o.name≠kO)(h:eT g o l aI)(hs:aI=0->s=pI l):Fl g o s aI:=by
 refine⟨?_,λh3=>?_,awt h0 h⟩
 .unfold fe;rw[ς h1,ς h2];refine⟨l,aI,h,?_⟩;unfold TZ;split
  .rename_i h3;exact hs h3
  .rfl
 .rw[hs h3];have:=atd (MS h0 h);omega
theorem awv g la ea lc ec n F hs na ha au hc f w(hG:cL w la ea g)(h0:aK g=0)(hN:jC w na n)(hH:eg w ha hs)(hT:gv w):Ξ ah 29 #[.agg #[.string ⟨gL.toArray⟩,.slice na n.length au,f,.slice ha hs.length hc],.agg #[.int .i64 g.hor,.slice la g.lives.length lc,.slice ea g.af.length ec]] w λe w'=>∃s aI,e=.returned (.tuple #[.string ⟨s.toArray⟩,.int .i64 aI])/\Fl g ⟨gL,n,F,hs⟩ s aI/\Below w.heap.size w w':=by
 obtain⟨w1,hw1⟩:∃x,x=(w.alloc (.cells #[.string ⟨gL.toArray⟩,.slice na n.length au,f,.slice ha hs.length hc] 53)).alloc (.cells #[.int .i64 g.hor,.slice la g.lives.length lc,.slice ea g.af.length ec] 59):=⟨_,rfl⟩;have aA:r7 w w1 g la ea lc ec gL n na au hs ha hc:=by rw[hw1];exact CJ hG hN hH f _ _
 have cY:=hw1.symm;have hS:=aws g la ea lc ec w1 aA.ga h0 (hT.low.below aA.aQ).tab;have cu:Hid (Fl g ⟨gL,n,F,hs⟩ (rA g++lH) 0):=⟨by unfold fe;rw[χ rfl,χ rfl],λ_=>by
  have:=afl (ei h0).small;have h2:lH.length=2:=rfl;unfold rA at this ⊢;simp only[List.length_append]at this ⊢;omega,by omega,by omega⟩
 have c0:=aA.c0;have g0:=aA.g0;have g1:=aA.g1;have g2:=aA.g2;have aD:=aa aA.aQ;generalize rA g++lH=T at*;clear hG hN hH hT hw1 aA;simp only[gL]at c0 cY;simp only[gL];go_enter Bz,ntmps29;go_wp2_with fail;refine hS.mono ?_;rintro e w2 ⟨rfl,aq⟩;have aN:=aa (aD.out.trans (aq.mono aD.out.size));clear hS aq;go_wp2;go_ret2;exact⟨_,_,rfl,cu.out,aN.out⟩
theorem aww g la ea lc ec a b F hs na ha au hc f w(hG:cL w la ea g)(h0:aK g=0)(hN:jC w na [a,b])(hH:eg w ha hs)(hT:gv w):Ξ ah 29 #[.agg #[.string ⟨kO.toArray⟩,.slice na 2 au,f,.slice ha hs.length hc],.agg #[.int .i64 g.hor,.slice la g.lives.length lc,.slice ea g.af.length ec]] w λe w'=>(∃s aI,e=.returned (.tuple #[.string ⟨s.toArray⟩,.int .i64 aI])/\Fl g ⟨kO,[a,b],F,hs⟩ s aI/\Below w.heap.size w w')\/(¬eH eX w.tape/\∃ch,e=.panicked ch/\ji w'):=by
 obtain⟨w1,hw1⟩:∃x,x=(w.alloc (.cells #[.string ⟨kO.toArray⟩,.slice na 2 au,f,.slice ha hs.length hc] 53)).alloc (.cells #[.int .i64 g.hor,.slice la g.lives.length lc,.slice ea g.af.length ec] 59):=⟨_,rfl⟩;have aA:r7 w w1 g la ea lc ec kO [a,b] na au hs ha hc:=by rw[hw1];exact CJ hG hN hH f _ _
 have cY:=hw1.symm;have aX:=aa hT.low;have bS:=aa aA;obtain⟨nb,no,rfl,hnb,z0,z1⟩:=aA.two;have c0:=aA.c0;have c1:=aA.c1;have g0:=aA.g0;have g1:=aA.g1;have g2:=aA.g2;have cu:Hid (∀s,(gh g a b=0->s=vO ((List.range g.lives.length).map λv=>lI (fT g a.toNat b v g.hor.toNat))/\s.length<=100000)->Fl g ⟨kO,[a,b],F,hs⟩ s (gh g a b)):=λs h=>by
  refine⟨?_,λe=>(h e).2,?_⟩
  .unfold fe;rw[ς (by show ¬kO=gL;decide),χ rfl];unfold adn;(show _=if gh g a b≠0 then _ else _);by_cases e:gh g a b=0
   .rw[χ e,ς (by simpa using e)];exact(h e).1
   .rw[ς e,χ e];rfl
  .unfold gh;rw[χ h0]
   repeat' split
   all_goals omega
 clear hG hN hH hT hw1 aA;simp only[kO]at c0 cY;simp only[kO];go_enter Bz,ntmps29;go_wp2_with fail;clear cY;refine sU (S:=λw3=>w3.cell? ⟨w.heap.size,1,η⟩=θ (.slice (θ ⟨nb,no,η⟩) 2 au)/\w3.cell? ⟨w.heap.size+1,0,η⟩=θ (.int .i64 g.hor)/\w3.cell? ⟨w.heap.size+1,1,η⟩=θ (.slice la g.lives.length lc)/\w3.cell? ⟨w.heap.size+1,2,η⟩=θ (.slice ea g.af.length ec)/\w3.cell? ⟨nb,no,η⟩=θ (.int .i64 a)/\w3.cell? ⟨nb,no+1,η⟩=θ (.int .i64 b)) (by kernel_rfl) ?_;generalize cc:({w1 with drawn:=w1.drawn+1 }:υ)=w2;have aq:Below w1.heap.size w1 w2:=by rw[<-cc];exact below_drewN (Below.refl _ _) 1
 have aU:Hid (∀W,Below w1.heap.size w1 W->W.cell? ⟨w.heap.size,1,η⟩=θ (.slice (θ ⟨nb,no,η⟩) 2 au)/\W.cell? ⟨w.heap.size+1,0,η⟩=θ (.int .i64 g.hor)/\W.cell? ⟨w.heap.size+1,1,η⟩=θ (.slice la g.lives.length lc)/\W.cell? ⟨w.heap.size+1,2,η⟩=θ (.slice ea g.af.length ec)/\W.cell? ⟨nb,no,η⟩=θ (.int .i64 a)/\W.cell? ⟨nb,no+1,η⟩=θ (.int .i64 b)):=λW hb=>by have B:=bS.out.below hb;exact⟨B.c1,B.g0,B.g1,B.g2,(hb.cell (p:=⟨nb,no,η⟩) hnb).trans z0,(hb.cell (p:=⟨nb,no+1,η⟩) hnb).trans z1⟩
 have ox:=aU.out _ aq;have bt:=bS.out.below aq;have aN:=aa aq;clear cc aq c0 c1 g0 g1 g2 z0 z1;refine tk 0 ?_;refine tk 1 ?_;refine tk 2 ?_;refine tk 3 ?_;refine tk 4 ?_;refine tk 5 ?_;refine tk 6 ?_;refine tk 7 ?_;refine tk 8 ?_;refine eL (i:=9) rfl (by kernel_rfl) (λK hK=>?_);go_simp;refine(av4 g la ea lc ec a b w2 bt.ga (aX.out.below bt.aQ).tab).mono ?_;rintro e w3 (⟨s,rfl,hs,aB⟩|⟨hz,ch,rfl,hd⟩)
 .have bw:=aa (bK aN.out aB);have iU:=aU.out _ bw.out;have aR:=aa (cu.out s hs);refine hK.out _ _ iU (λ_=>?_);clear hK K ox aB bt aN hs cu;generalize gh g a b=x at*;try simp only[dz,List.setIfInBounds_toArray,List.set_cons_zero,List.set_cons_succ]
  refine tk 10 ?_;refine tk 11 ?_;refine tk 12 ?_;refine tk 13 ?_;refine gU (by kernel_rfl) ?_ _;clear iU;go_wp2;go_ret2;exact .inl ⟨s,_,rfl,aR.out,bS.out.aQ.trans (bw.out.mono bS.out.aQ.size)⟩
 .exact⟨rfl,.inr ⟨λh=>hz (by rw[bt.aQ.tape];exact h),ch,rfl,hd⟩⟩
theorem awx{k}{m}{f}(h:sX k=θ (m,f)):(m=0/\(k=qs\/k=gL\/k=pH))\/(m=1/\k=lG)\/(m=2/\((k=rD\/k=ur)\/k=kO\/(k=sW\/k=vL\/k=vM\/k=vN)\/k=mZ\/k=kP)):=by
 unfold sX at h;split at h
 .rename_i c;cases h;exact .inl ⟨rfl,by rcases c with c|c<;>simp[c]⟩
 .split at h
  .rename_i c;cases h;exact .inl ⟨rfl,by simp[c]⟩
  .split at h
   .rename_i c;cases h;exact .inr (.inl ⟨rfl,c⟩)
   .split at h
    .rename_i c;cases h;exact .inr (.inr ⟨rfl,by rcases c with c|c|c|c|c|c|c|c<;>simp[c]⟩)
    .split at h
     .rename_i c;cases h;exact .inr (.inr ⟨rfl,by simp[c]⟩)
     .cases h
theorem awy g la ea lc ec o na ha au hc f w(hG:cL w la ea g)(h0:aK g=0)(hlc:g.lives.length<=lc)(hlm:lc<=9223372036854775807)(hN:jC w na o.n)(hH:eg w ha o.hops)(hT:gv w)(CF:o.hops.length<=9223372036854775807){fl}(hsh:sX o.name=θ (o.n.length,fl))(h1:o.name≠pH)(h2:o.name≠qs):Ξ ah 29 #[.agg #[.string ⟨o.name.toArray⟩,.slice na o.n.length au,f,.slice ha o.hops.length hc],.agg #[.int .i64 g.hor,.slice la g.lives.length lc,.slice ea g.af.length ec]] w λe w'=>(∃s aI,e=.returned (.tuple #[.string ⟨s.toArray⟩,.int .i64 aI])/\Fl g o s aI/\Below w.heap.size w w')\/(¬eH eX w.tape/\∃ch,e=.panicked ch/\ji w'):=by
 obtain⟨k,n,F,hs⟩:=o;simp only at hN hH CF hsh h1 h2 ⊢;rcases awx hsh with⟨_,hk⟩|⟨hn,rfl⟩|⟨hn,hk⟩
 .obtain rfl:k=gL:=by rcases hk with h|h|h;exact absurd h h2;exact h;exact absurd h h1
  exact(awv g la ea lc ec n F hs na ha au hc f w hG h0 hN hH hT).mono λ_ _ h=>.inl h
 .obtain⟨a,rfl⟩:=ZE hn;exact(awq g la ea lc ec a F hs na ha au hc f w hG h0 hlc hlm hN hH hT).mono λe w' ⟨l,aI,s,e1,e2,e3,iJ⟩=>.inl ⟨s,aI,e1,Je h0 (by show ¬lG=gL;decide) (by show ¬lG=kO;decide) e2 e3,iJ⟩
 .obtain⟨a,b,rfl⟩:=RB hn;rcases hk with h|rfl|h|rfl|rfl
  .exact(awr g la ea lc ec k a b F hs na ha au hc f w hG h0 hlc hlm hN hH hT h).mono λe w' ⟨l,aI,s,e1,e2,e3,iJ⟩=>.inl ⟨s,aI,e1,Je h0 (by show k≠gL;rcases h with rfl|rfl<;>decide) (by show k≠kO;rcases h with rfl|rfl<;>decide) e2 e3,iJ⟩
  .exact aww g la ea lc ec a b F hs na ha au hc f w hG h0 hN hH hT
  .exact(av8 g la ea lc ec k a b F hs na ha au hc f w hG h0 hN hH hT h).mono λe w' ⟨l,aI,s,e1,e2,e3,iJ⟩=>.inl ⟨s,aI,e1,Je h0 (by show k≠gL;rcases h with rfl|rfl|rfl|rfl<;>decide) (by show k≠kO;rcases h with rfl|rfl|rfl|rfl<;>decide) e2 e3,iJ⟩
  .exact(av9 g la ea lc ec a b F hs na ha au hc f w hG h0 hN hH hT).mono λe w' ⟨l,aI,s,e1,e2,e3,iJ⟩=>.inl ⟨s,aI,e1,Je h0 (by show ¬mZ=gL;decide) (by show ¬mZ=kO;decide) e2 e3,iJ⟩
  .exact(awa g la ea lc ec a b F hs na ha au hc f w hG h0 hN hH hT CF).mono λe w' ⟨l,aI,s,e1,e2,e3,iJ⟩=>.inl ⟨s,aI,e1,Je h0 (by show ¬kP=gL;decide) (by show ¬kP=kO;decide) e2 e3,iJ⟩
def NC(db:Nat)(T:List UInt8)(w w':υ)(aM:List UInt8):Prop:=∃w1,Below w.heap.size w w1/\(w'=w1/\aM=T\/w'=w1.setCell ⟨db,0,η⟩ (.string ⟨aM.toArray⟩))
def CL(T U a aM:List UInt8):Prop:=if 8192<U.length then a=ie 2/\aM=T else a=lH/\aM=U
theorem awz db T fa eG F w(hd:w.cell? ⟨db,0,η⟩=θ (.string ⟨T.toArray⟩))(hdl:db<w.heap.size)(hfz:w.frozen? ⟨db,0,η⟩=ο)(wI:T.length<=8192)(hF:kz w fa F)(wE:F.length<=eG)(afm:F.length<=65536)(aBk:(jn 32 F).length<=65536)(hT:gv w):Ξ ah 27 #[.pointer (θ ⟨db,0,η⟩),.slice fa F.length eG] w λe w'=>∃a aM,e=.returned (.string ⟨a.toArray⟩)/\CL T (T++jn 32 F++[10]) a aM/\NC db T w w' aM:=by
 have hJ:=λV (hb:Below w.heap.size w V)=>Ua 32 fa eG F V (hF.below hb) wE (by omega) (by omega);have Vv:=aa hJ;have aX:=aa hT.low;clear hF hJ hT;generalize jn 32 F=J at*;have ak:Hid ((⟨T.toArray⟩:ByteArray)++⟨J.toArray⟩++⟨#[10]⟩=⟨(T++J++[10]).toArray⟩):=by show _=_;rw[show (⟨#[10]⟩:ByteArray)=⟨([10]:List UInt8).toArray⟩from rfl,uS,uS]
 have hlen:(T++J++[10]).length=T.length+J.length+1:=by rw[List.length_append,List.length_append];rfl
 generalize T++J++[10]=U at*;have e1:¬9223372036854775807<T.length+J.length:=by omega
 have e2:¬9223372036854775807<T.length+J.length+1:=by omega
 go_enter akE,ntmps27;go_wp2_with fail;refine sU (S:=λv=>v.cell? ⟨db,0,η⟩=θ (.string ⟨T.toArray⟩)) (by kernel_rfl) ?_;generalize cc:({w with drawn:=w.drawn+1 }:υ)=w2;have aq:Below w.heap.size w w2:=by rw[<-cc];exact below_drewN (Below.refl _ _) 1
 have ox:w2.cell? ⟨db,0,η⟩=θ (.string ⟨T.toArray⟩):=(aq.cell (p:=⟨db,0,η⟩) hdl).trans hd;have aN:=aa aq;clear cc aq;refine tk 0 ?_;refine tk 1 ?_;refine tk 2 ?_;refine tk 3 ?_;refine tk 4 ?_;refine eL (i:=5) rfl (by kernel_rfl) (λK hK=>?_);go_simp;refine(Vv.out _ aN.out).mono ?_;rintro e w3 ⟨rfl,aB⟩;have bw:=aa (bK aN.out aB);have iU:w3.cell? ⟨db,0,η⟩=θ (.string ⟨T.toArray⟩):=(bw.out.cell (p:=⟨db,0,η⟩) hdl).trans hd;refine hK.out _ _ iU (λ_=>?_);clear hK K ox aB aN;try simp only[dz,List.setIfInBounds_toArray,List.set_cons_zero,List.set_cons_succ]
 refine tk 6 ?_;refine tk 7 ?_;rw[ak.out];refine tk 8 ?_;refine gU (by kernel_rfl) ?_ _;have aBl:Hid (U.length<=73729):=by show _<=_;omega
 have f3:w3.frozen? ⟨db,0,η⟩=false:=(bw.out.frozen (p:=⟨db,0,η⟩) hdl).trans hfz;have hF2:=EY 2 (by omega) w3 (aX.out.below bw.out).tab;clear hlen ak;by_cases CM:8192<U.length
 .have awA:(8192:Int)<(U.length:Int):=by omega
  have bu:Hid (∀a aM,a=ie 2/\aM=T->CL T U a aM):=λa aM h=>by unfold CL;rw[χ CM];exact h
  clear CM;go_wp2_with fail;refine hF2.mono ?_;rintro e w4 ⟨rfl,hb4⟩;have cr:=aa (bK bw.out hb4);clear hF2 hb4;go_wp2;go_ret;exact⟨_,T,rfl,bu.out _ _ ⟨rfl,rfl⟩,w4,cr.out,.inl ⟨rfl,rfl⟩⟩
 .have awA:(U.length:Int)<=8192:=by omega
  have bu:Hid (∀a aM,a=lH/\aM=U->CL T U a aM):=λa aM h=>by unfold CL;rw[ς CM];exact h
  clear CM hF2;go_wp2;go_ret;exact⟨lH,U,rfl,bu.out _ _ ⟨rfl,rfl⟩,w3,bw.out,.inr rfl⟩
theorem afn:∀(L:List (List UInt8)) (g:bg) (n:Nat) (f:Bool) (m:Nat),gT g n f L=.inr m->m<=n+L.length
 |[],g,n,f,m,h=>by rw[gT]at h;cases h;simp
 |[l],g,n,f,m,h=>by
  rw[gT]at h;split at h
  .cases h
  .cases h;simp
 |l::a::r,g,n,f,m,h=>by
  rw[gT]at h;split at h
  .cases h;simp
  .have:=afn (a::r) _ _ _ _ h;simp only[List.length_cons]at this ⊢;omega
theorem awB T:(0<=(parse T).2.1/\(parse T).2.1<=100000)/\0<=(parse T).2.2/\(parse T).2.2<=9:=by
 unfold parse;split
 .simp
 .rename_i h8;have hl:=zh 10 T;split
  .rename_i n h;have:=afn _ _ _ _ _ h;simp only;omega
  .rename_i g _;split
   .simp
   .have:=Zb g;simp only;omega
theorem awC{k}{ws}{o}(h:nc (k::ws)=θ o):o.name=k/\(∃f,sX k=θ (o.n.length,f))/\o.further=ws.drop o.n.length/\o.hops.length<=ws.length:=by
 rw[nc]at h;cases hs:sX k with
 |none=>rw[hs]at h;cases h
 |some s=>
  obtain⟨m,f⟩:=s;rw[hs]at h;simp only at h;split at h
  .rename_i hf;(have hm:m<=ws.length:=by rcases hf with h|h<;>omega);unfold BK at h;split at h
   .cases h
   .rename_i ns hn;have hl:=Ry hn;rw[List.length_take,Nat.min_eq_left hm]at hl;split at h
    .split at h
     .cases h
     .rename_i hs' hh;have h2:=ZO hh;rw[List.length_drop]at h2;(cases h);exact⟨rfl,⟨f,by rw[hl]⟩,by rw[hl],by show hs'.length<=_;omega⟩
    ·(cases h);exact⟨rfl,⟨f,by rw[hl]⟩,by rw[hl],by simp⟩
  .cases h
theorem Jf{e}(h:0<=e/\e<=100000):(ie e).length<=27:=by have:=Al e (by omega) (by omega);have h2:RG.length=6:=rfl;unfold ie;rw[List.length_append];omega
theorem awD db T ao cap k ws w(hL:kz w ao (k::ws))(hcap:ws.length+1<=cap)(hcm:cap<=9223372036854775807)(hn:ws.length<=65536)(hx:∀x∈ws,x.length<=65536)(hj:∀m,(jn 32 (ws.drop m)).length<=65536)(hM:iN w.heap.size w)(hT:gv w)(hd:w.cell? ⟨db,0,η⟩=θ (.string ⟨T.toArray⟩))(hdl:db<w.heap.size)(hfz:w.frozen? ⟨db,0,η⟩=ο)(wI:T.length<=8192):Ξ ah 15 #[.pointer (θ ⟨db,0,η⟩),.slice ao (ws.length+1) cap] w λe w'=>(∃a aM,e=.returned (.string ⟨a.toArray⟩)/\fQ fe T (k::ws) a aM/\a.length<=100100/\aM.length<=8192/\NC db T w w' aM)\/(¬eH eX w.tape/\∃ch,e=.panicked ch/\ji w'):=by
 have hR:=atG ao cap k ws w hL hcap hcm hn hx hM;have fG:=aa hM;have aX:=aa hT.low;have Vv:=aa hj;have kg:=aa (Jf (e:=2) (by omega));have awE:=aa (Jf (e:=3) (by omega));clear hL hx hM hT hj;go_enter akA,ntmps15;go_wp2_with fail;refine hR.mono ?_;rintro e w1 ⟨v,rfl,⟨xs,na,nn,au,fa,fn,eG,ha,hn',hc,rfl⟩,b8,aj⟩;have aS:=aa aj;have xQ:=(aj.cell (p:=⟨db,0,η⟩) hdl).trans hd;have afo:=(aj.frozen (p:=⟨db,0,η⟩) hdl).trans hfz;have ck:=aa b8;clear hR b8 aj;cases hr:nc (k::ws)with
 |none=>
  have fR:Hid (fQ fe T (k::ws) (ie 3) T):=by show fQ _ _ _ _ _;unfold fQ;rw[hr];exact⟨rfl,rfl⟩
  have hF:=λo=>EY 3 (by omega) (w1.alloc o) (aX.out.below (aS.out.alloc aS.out.size o)).tab;simp only[ic];clear hr ck;go_wp2_with fail;refine(hF _).mono ?_;rintro e w2 ⟨rfl,aq⟩;have aN:=aa (aS.out.trans ((bK (ax w1 _) aq).mono aS.out.size));clear hF aq;go_wp2;go_ret;exact .inl ⟨_,T,rfl,fR.out,by have:=awE.out;omega,wI,w2,aN.out,.inl ⟨rfl,rfl⟩⟩
 |some o=>
  obtain⟨na',aBm,aBn,aBo,ha',dV,hv,hN,hF,wE,hH⟩:=(ck.out o hr).is;simp only[Value.agg.injEq,Array.mk.injEq,List.cons.injEq,Value.string.injEq,jU,CS]at hv;obtain⟨rfl,⟨rfl,rfl,rfl⟩,⟨rfl,rfl,rfl⟩,rfl,rfl,rfl⟩:=hv;obtain⟨hname,⟨fl,hsh⟩,Vw,CF⟩:=awC hr;have afm:o.further.length<=65536:=by rw[Vw,List.length_drop];omega
  have awF:Hid ((jn 32 o.further).length<=65536):=by show _<=_;rw[Vw];exact Vv.out _
  rw[<-hname]at hsh;have Nx:=aa hsh;have bI:=aa hr;obtain⟨w2,cc⟩:∃x,x=w1.alloc (.cells #[.string ⟨o.name.toArray⟩,.slice na o.n.length au,.slice fa o.further.length eG,.slice ha o.hops.length hc] 53):=⟨_,rfl⟩;have aq:Below w1.heap.size w1 w2:=by rw[cc];exact ax w1 _
  have p0:w2.cell? ⟨w1.heap.size,0,η⟩=θ (.string ⟨o.name.toArray⟩):=by rw[cc];simp
  have p1:w2.cell? ⟨w1.heap.size,1,η⟩=θ (.slice na o.n.length au):=by rw[cc];simp
  have p2:w2.cell? ⟨w1.heap.size,2,η⟩=θ (.slice fa o.further.length eG):=by rw[cc];simp
  have p3:w2.cell? ⟨w1.heap.size,3,η⟩=θ (.slice ha o.hops.length hc):=by rw[cc];simp
  have bX:w1.heap.size<w2.heap.size:=by rw[cc];simp
  have BS:=cc.symm;have aN:=aa (aS.out.trans (aq.mono aS.out.size));have afp:db<w1.heap.size:=Nat.lt_of_lt_of_le hdl aS.out.size;have nM:=(aq.cell (p:=⟨db,0,η⟩) afp).trans xQ;have xw:=(aq.frozen (p:=⟨db,0,η⟩) afp).trans afo;have awG:db<w2.heap.size:=by omega
  have afq:=(aX.out.below aN.out);have awH:gv w2:=afq.tab;have awI:Hid (iN w2.heap.size w2):=(fG.out.below aN.out).mono aN.out.size;have aR:=aa (hN.below aq);have aJ:=aa (hF.below aq);have iB:=aa (hH.below aq);have afr:Hid (∀w' aM,NC db T w2 w' aM->NC db T w w' aM):=λw' aM ⟨w3,h1,h2⟩=>⟨w3,aN.out.trans (h1.mono aN.out.size),h2⟩;simp only[gu];clear hr ck cc xQ afo aq hN hF hH Vw hsh afq hname;by_cases hg:o.name=pH
  ·(have awJ:(o.name==[103,114,97,112,104])=true:=by simpa[pH]using hg);have hA:=awz db T fa eG o.further w2 nM awG xw wI aJ.out wE afm awF.out awH;have fR:Hid (∀a aM,CL T (T++jn 32 o.further++[10]) a aM->fQ fe T (k::ws) a aM/\a.length<=100100/\aM.length<=8192):=λa aM h=>by
    refine⟨?_,?_⟩
    .unfold fQ;rw[bI.out];simp only[hg,dF];exact h
    .unfold CL at h;split at h
     .have:=kg.out;rw[h.1,h.2];omega
     .rw[h.1,h.2];have:lH.length=2:=rfl;omega
   clear hg;go_wp2_with fail;refine hA.mono ?_;rintro e w3 ⟨a,aM,rfl,afs,CM⟩;have Vx:=aa (fR.out _ _ afs);have awK:=aa (afr.out _ _ CM);clear hA afs CM fR;go_wp2;go_ret;exact .inl ⟨a,aM,rfl,Vx.out.1,Vx.out.2.1,Vx.out.2.2,awK.out⟩
  ·(have awJ:(o.name==[103,114,97,112,104])=false:=by simpa[pH]using hg);by_cases hcl:o.name=qs
   ·((have kc:(o.name==[99,108,101,97,114])=true:=by simpa[qs]using hcl);have fR:Hid (fQ fe T (k::ws) lH []):=by show fQ _ _ _ _ _;unfold fQ;rw[bI.out];simp only[hcl,dF,ς (show ¬qs=pH by decide)];constructor<;>trivial);clear hg hcl;go_wp2;go_ret;exact .inl ⟨lH,[],rfl,fR.out,by decide,by simp,afr.out _ _ ⟨w2,Below.refl _ _,.inr rfl⟩⟩
   ·((have kc:(o.name==[99,108,101,97,114])=false:=by simpa[qs]using hcl);have hP:=ato ⟨T.toArray⟩ w2 awI.out;rw[show (⟨T.toArray⟩:ByteArray).data.toList=T by simp]at hP;have lR:=awB T;have Vy:Hid ((parse T).2.2≠0->fQ fe T (k::ws) (ie (parse T).2.2++32::dK (parse T).2.1) T):=λh=>by unfold fQ;rw[bI.out];simp only[hg,hcl,fh,h,ne_eq,NQ,dF];constructor<;>trivial);(have Vz:Hid ((parse T).2.2=0->∀a,fe (parse T).1 o a->fQ fe T (k::ws) a T):=λh a hA=>by unfold fQ;rw[bI.out];simp only[hg,hcl,fh,h,ne_eq,Jn];exact⟨hA,trivial⟩);have awL:=aa (ZP T);have awM:=aa hg;have awN:=aa hcl;generalize (parse T).2.2=aI at*;generalize (parse T).2.1=ln at*;generalize (parse T).1=g at*;clear hg hcl;go_wp2_with fail;refine hP.mono ?_;rintro e w3 ⟨v,rfl,Fo,aB⟩;obtain⟨la,lc,ea,ec,rfl,hG,hlc,hlm⟩:=Fo.sS;have bw:=aa (aN.out.trans (aB.mono aN.out.size));have q0:=(aB.cell (p:=⟨w1.heap.size,0,η⟩) bX).trans p0;have q1:=(aB.cell (p:=⟨w1.heap.size,1,η⟩) bX).trans p1;have q2:=(aB.cell (p:=⟨w1.heap.size,2,η⟩) bX).trans p2;have dR:=(aB.cell (p:=⟨w1.heap.size,3,η⟩) bX).trans p3;have G2:w1.heap.size<w3.heap.size:=Nat.lt_of_lt_of_le bX aB.size;have hb4:=bK aB (ax w3 (.cells #[.int .i64 g.hor,.slice la g.lives.length lc,.slice ea g.af.length ec] 59));have cr:=aa (aN.out.trans (hb4.mono aN.out.size));have VA:=aa (aX.out.below cr.out);by_cases he:aI=0
    .have hA:=awy g la ea lc ec o na ha au hc (.slice fa o.further.length eG) _ (hG.below (ax w3 (.cells #[.int .i64 g.hor,.slice la g.lives.length lc,.slice ea g.af.length ec] 59))) (awL.out he) hlc hlm (aR.out.below hb4) (iB.out.below hb4) VA.out.tab (by omega) Nx.out awM.out awN.out;have aft:=aa (Vz.out he);subst he;clear hP Fo hG aB hb4 p0 p1 p2 p3 nM xw Vz Vy BS;go_wp2_with fail;refine hA.mono ?_;rintro e aO (⟨s,aI,rfl,hAn,bT⟩|⟨hz,ch,rfl,hdd⟩)
     .have gb:=aa (cr.out.trans (bT.mono cr.out.size));have ND:=aa (aft.out _ hAn.1);have zH:=hAn.2.1;have aBp:=hAn.2.2;have VB:=EY aI (by omega) aO (VA.out.below (bT.mono cr.out.size)).tab;have CN:=aa (Jf (e:=aI) (by omega));clear hA hAn bT aft q0 q1 q2 dR;by_cases he:aI=0
      .subst he;have NF:=zH rfl;clear VB zH;rw[χ rfl]at ND;go_wp2;go_ret;exact .inl ⟨s,T,rfl,ND.out,by omega,wI,aO,gb.out,.inl ⟨rfl,rfl⟩⟩
      ·(have ex:(aI==0)=false:=by simpa using he);rw[ς he]at ND;clear zH;go_wp2_with fail;refine VB.mono ?_;rintro e bW ⟨rfl,dD⟩;have rR:=aa (gb.out.trans (dD.mono gb.out.size));clear VB dD;go_wp2;go_ret;exact .inl ⟨_,T,rfl,ND.out,by have:=CN.out;omega,wI,bW,rR.out,.inl ⟨rfl,rfl⟩⟩
     .exact⟨rfl,.inr ⟨λh=>hz (by rw[cr.out.tape];exact h),ch,rfl,hdd⟩⟩
    ·((have ex:(aI==0)=false:=by simpa using he);have awO:=aa (Vy.out he);have afu:=EY aI (by omega) _ VA.out.tab;have CN:=aa (Jf (e:=aI) (by omega));have ak:Hid ((⟨(ie aI).toArray⟩:ByteArray)++⟨#[32]⟩++⟨(dK ln).toArray⟩=⟨(ie aI++32::dK ln).toArray⟩):=by show _=_;rw[show (⟨#[32]⟩:ByteArray)=⟨([32]:List UInt8).toArray⟩from rfl,uS,uS];simp);have hil:=Al ln (by omega) (by omega);have hel:=CN.out;(have e1:¬9223372036854775807<(ie aI).length+1:=by omega);(have e2:¬9223372036854775807<(ie aI).length+1+(dK ln).length:=by omega);(have pF:Hid ((ie aI++32::dK ln).length<=100100):=by show _<=_;rw[List.length_append,List.length_cons];omega);have afv:=λV (hb:Below w.heap.size w V)=>EX ln (by omega) V (aX.out.below hb).tab;clear hP Fo hG aB hb4 p0 p1 p2 p3 nM xw Vz Vy BS q0 q1 q2 dR;go_wp2_with fail;refine afu.mono ?_;rintro e aO ⟨rfl,bT⟩;have gb:=aa (cr.out.trans (bT.mono cr.out.size));clear afu bT;go_wp2_with fail;refine(afv _ gb.out).mono ?_;rintro e bW ⟨rfl,dD⟩;have rR:=aa (gb.out.trans (dD.mono gb.out.size));clear afv dD;go_wp2;go_ret;exact .inl ⟨_,T,jM (λx=>sH (.string x)) ak.out,awO.out,pF.out,wI,bW,rR.out,.inl ⟨rfl,rfl⟩⟩
def tot:List (List UInt8)->Nat
 |[]=>0
 |x::r=>x.length+1+tot r
theorem afw c l:tot (sp c l)=l.length+1:=by
 induction l with
 |nil=>rfl
 |cons x l ih=>
  obtain⟨h,t,e⟩:=xB c l;rw[e,tot]at ih;by_cases hx:x=c
  .rw[hx,vF,e,tot,tot,List.length_nil,List.length_cons];omega
  .rw[sP hx e,tot,List.length_cons,List.length_cons];omega
theorem afx p:∀L,tot (L.filter p)<=tot L
 |[]=>Nat.le_refl _
 |x::r=>by
  have:=afx p r;rw[List.filter_cons];split
  .rw[tot,tot];omega
  .rw[tot];omega
theorem afy:∀(m:Nat) (L:List (List UInt8)),tot (L.drop m)<=tot L
 |0,_=>Nat.le_refl _
 |_+1,[]=>by simp[tot]
 |m+1,x::r=>by have:=afy m r;rw[List.drop_succ_cons,tot];omega
theorem afz c:∀L,(jn c L).length<=tot L
 |[]=>Nat.le_refl _
 |[x]=>by simp[jn,tot]
 |x::y::r=>by have:=afz c (y::r);rw[jn,List.length_append,List.length_cons,tot];omega
theorem VC{x}:∀{L:List (List UInt8)},x∈L->x.length+1<=tot L
 |[],h=>by cases h
 |y::r,h=>by
  rw[tot];rcases List.mem_cons.1 h with rfl|h
  .omega
  .have:=VC h;omega
theorem afA:∀L:List (List UInt8),L.length<=tot L
 |[]=>Nat.le_refl _
 |x::r=>by have:=afA r;rw[tot,List.length_cons];omega
theorem afB{l x}(h:x∈ek l):x.length<=l.length:=by
 have h1:x∈sp 10 l:=by
  unfold ek at h;split at h
  .exact(List.dropLast_sublist _).subset h
  .exact h
 have:=VC h1;rw[afw]at this;omega
theorem awP l:tot (ew l)<=l.length+1:=by have:=afx (λx=> !x.isEmpty) (sp 32 l);rw[afw]at this;exact this
theorem afC{l x}(h:x∈ew l):x≠[]:=by unfold ew at h;have:=(List.mem_filter.1 h).2;simpa using this
theorem dX.set{b}{l}(h:dX B b l w){R}(hR:R<B)u:dX B b l (w.setCell ⟨R,j,η⟩ u):=by
 have one:∀p,I9 35 5 B b p (mW l) w->I9 35 5 B b p (mW l) (w.setCell ⟨R,j,η⟩ u):=by intro p hp;obtain⟨hB,v,hbk,hown,hne⟩:=hp;exact⟨hB,v,by rw[Below.heap_setCell _ _ _ _ (show b≠R by omega)];exact hbk,hown.kept (row:=θ R) ⟨rfl,rfl,rfl,by simp[eV],λk _ hk=>Below.heap_setCell _ _ _ _ (λe=>hk (by simp[e]))⟩ (Or.inr λe=>by have:=(hown.lt R e).1;omega),hne⟩
 exact h.imp (one _) (one _)
def oy(t out:List UInt8):Prop:=if 65536<t.length\/200<(ek t).length then out=ie 2++[10]else∃T,ig fe [] (ek t) out T
theorem afD s w(hM:iN w.heap.size w)(hT:gv w):Ξ ah 5 #[.string s] w λe w'=>(∃out,e=.returned (.string ⟨out.toArray⟩)/\oy s.data.toList out/\out.length<=30000000/\Below w.heap.size w w')\/(¬eH eX w.tape/\∃ch,e=.panicked ch/\ji w'):=by
 have aU:Hid (s.data.toList.length=s.size):=by show _=_;rw[jk];rfl
 have CN:Hid ((⟨(ie 2).toArray⟩:ByteArray)++⟨#[10]⟩=⟨(ie 2++[10]).toArray⟩):=by show _=_;rw[show (⟨#[10]⟩:ByteArray)=⟨([10]:List UInt8).toArray⟩from rfl,uS]
 have CH:=Jf (e:=2) (by omega);have Nq:Hid ((ie 2++[10]).length<=30000000):=by show _<=_;rw[List.length_append,List.length_singleton];omega
 by_cases h6:65536<s.size
 .have Gr:(65536:Int)<(s.size:Int):=by omega
  have ck:Hid (oy s.data.toList (ie 2++[10])):=by show oy _ _;unfold oy;rw[χ (.inl (by rw[aU.out];exact h6))]
  have hF:=EY 2 (by omega) w hT;clear hM hT;go_enter Ym,ntmps5;go_wp2_with fail;refine hF.mono ?_;rintro e w1 ⟨rfl,aj⟩;go_wp2;go_ret;exact .inl ⟨_,jM (λx=>sH (.string x)) CN.out,ck.out,Nq.out,aj⟩
 have Gr :¬(65536:Int)<(s.size:Int):=by omega
 have hL:=atw s w (by omega) hM;have uO:Hid (∀out,oy s.data.toList out↔if 200<(ek s.data.toList).length then out=ie 2++[10]else∃T,ig fe [] (ek s.data.toList) out T):=λout=>by
  unfold oy;rw[aU.out];by_cases h:200<(ek s.data.toList).length
  .rw[χ (.inr h),χ h]
  .rw[ς (by omega),ς h]
 have VD:Hid (∀x∈ek s.data.toList,x.length<=65536):=λx hx=>by have:=afB hx;rw[aU.out]at this;omega
 have fG:=aa hM;have aX:=aa hT.low;generalize ek s.data.toList=L at*;clear hM hT h6;go_enter Ym,ntmps5;go_wp2_with fail;refine hL.mono ?_;rintro e w1 ⟨aT,cap,rfl,hc,BB,aj⟩;have ak:=aa hc;have aS:=aa aj;have wG:=aa (aX.out.below aj);clear hL hc aj;by_cases h2:200<L.length
 .have jS:(200:Int)<(L.length:Int):=by omega
  have ck:=aa ((uO.out (ie 2++[10])).2 (by rw[χ h2]));have hF:=EY 2 (by omega) w1 wG.out.tab;clear h2;go_wp2_with fail;refine hF.mono ?_;rintro e w2 ⟨rfl,aq⟩;have aN:=aa (aS.out.trans (aq.mono aS.out.size));clear hF aq;go_wp2;go_ret;exact .inl ⟨_,jM (λx=>sH (.string x)) CN.out,ck.out,Nq.out,aN.out⟩
 .have jS:(L.length:Int)<=200:=by omega
  have ck:=aa (λout=>(uO.out out).2);simp only[ς h2]at ck;have d2:decide ((200:Int)<(L.length:Int))=false:=by simpa using jS
  clear uO h2 CN;go_wp2_with fail;have NG:Hid (∀k (h:k<L.length) W,Below w1.heap.size w1 W->W.cell? ⟨aT,k,η⟩=θ (.string ⟨L[k].toArray⟩)):=λk h W hb=>by rw[hb.cell (p:=⟨aT,k,η⟩) BB];exact ak.out k _ (List.getElem?_eq_getElem h)
  go_loopw [23] (λi wr=>∃(k:Nat) (out T:List UInt8),k<=L.length/\i=.int .i64 k/\out.length<=k*100101/\T.length<=8192/\ig fe [] (L.take k) out T/\wr.heap[w1.heap.size]?=θ (.cells #[.string ⟨T.toArray⟩] 31 (0,0))/\dX (w1.heap.size+1) (w1.heap.size+1) out wr/\Below w1.heap.size w1 wr) (λi _=>L.length-(intOf i).toNat)
  case atStart=>
   (have e1:(w1.alloc (.cells #[.string ⟨#[]⟩] 31)).heap.size=w1.heap.size+1:=by simp);refine⟨0,[],[],Nat.zero_le _,rfl,Nat.zero_le _,Nat.zero_le _,.nil _,?_,?_,bK (ax w1 _) (ax _ _)⟩
   .rw[(ax _ _).block _ (by simp)];exact heap_alloc_new w1 _
   .have:=ae9 (w1.alloc (.cells #[.string ⟨#[]⟩] 31));rwa[e1]at this
  case round=>
   obtain⟨k,out,T,hk,rfl,hol,wI,Fp,jF,hbd,hb⟩:=hrel;have Ao:=aa (aS.out.trans (hb.mono aS.out.size));have iR:=aa hb;have Fj:w1.heap.size<wr.heap.size:=xD jF;have IJ:=aa hbd;have fM:=hbd.lt;by_cases hlt:k<L.length
   ·(have i1:(k:Int)<(L.length:Int):=by omega);have oh:=NG.out k hlt wr hb;have hxl:=VD.out L[k] (List.getElem_mem hlt);have uJ:=aa (jZ L k hlt);have hW:=atx ⟨L[k].toArray⟩ wr (by rw[bsize];exact hxl) (fG.out.below Ao.out);rw[show (⟨L[k].toArray⟩:ByteArray).data.toList=L[k]by simp]at hW;have hwt:=awP L[k];have NH:Hid (∀x∈ew L[k],x≠[]):=λx hx=>afC hx;(have VE:Hid (mY (ew L[k])=ο->ig fe [] (L.take (k+1)) out T):=λh=>by rw[uJ.out];exact ZQ Fp h);(have VF:Hid (∀a aM,mY (ew L[k])=true->fQ fe T (ew L[k]) a aM->ig fe [] (L.take (k+1)) (out++(a++[10])) aM):=λa aM h h'=>by rw[uJ.out];exact anI Fp h h');have B3:=aa jF;generalize ew L[k]=ww at*;clear Fp jF hbd hb;go_wp2_with fail;refine hW.mono ?_;rintro e w2 ⟨v,rfl,hown,aq⟩;obtain⟨ao,c,rfl,hcl,hcm⟩:=mD hown;obtain⟨E3,c',e, -,Jg⟩:=IA hown;simp only[jU]at e;obtain⟨rfl, -,rfl⟩:=e;have hA:=aty ao c ww w2 Jg NH.out;have aN:=aa aq;have awQ:=aa Jg;clear hW hown Jg aq oh;by_cases ha:mY ww=true
    .cases ww with
     |nil=>cases ha
     |cons kk ws=>
      rw[ha]at hA;have bX:wr.heap.size<=w2.heap.size:=aN.out.size;(have VG:w2.heap[w1.heap.size]?=θ (.cells #[.string ⟨T.toArray⟩] 31 (0,0)):=by rw[aN.out.block _ Fj];exact B3.out);have NI:=aa (Ao.out.trans (aN.out.mono Ao.out.size));have h1:=afA (kk::ws);rw[List.length_cons]at h1;have hD:=awD w1.heap.size T ao c kk ws w2 awQ.out (by simpa using hcl) hcm (by omega) (λx hx=>by have:=VC (show x∈kk::ws from List.mem_cons_of_mem _ hx);omega)
       (λm=>by have h2:=afz 32 (ws.drop m);have h3:=afy m ws;have h4:tot (kk::ws)=kk.length+1+tot ws:=rfl;omega) ((fG.out.below NI.out).mono NI.out.size) (aX.out.below NI.out).tab (by rw[eu VG];rfl) (by omega) (vH VG 0) wI
      rw[List.length_cons]at hA;have afE:=aa (λa aM=>VF.out a aM ha);clear VG h1 VE VF ha;go_wp2_with fail;refine hA.mono ?_;rintro e w3 ⟨rfl,rfl⟩;clear hA;go_wp2_with fail;refine hD.mono ?_;rintro e w4 (⟨a,aM,rfl,afF,hal,awR,aO,bT,fZ⟩|⟨hz,ch,rfl,hdd⟩)
      .have key:w4.heap[w1.heap.size]?=θ (.cells #[.string ⟨aM.toArray⟩] 31 (0,0))/\dX (w1.heap.size+1) (w1.heap.size+1) out w4/\Below w1.heap.size w1 w4/\w1.heap.size+1<=w4.heap.size:=by
        have NJ:=bK aN.out bT;(have x1:aO.heap[w1.heap.size]?=θ (.cells #[.string ⟨T.toArray⟩] 31 (0,0)):=by rw[NJ.block _ Fj];exact B3.out);have x2:=IJ.out.below NJ;have x3:=iR.out.trans (NJ.mono (by omega));have iy:=NJ.size;rcases fZ with⟨rfl,rfl⟩|rfl
        .exact⟨x1,x2,x3,by omega⟩
        .exact⟨by rw[GS x1];rfl,x2.set (by omega) _,x3.setCell (p:=⟨w1.heap.size,0,η⟩) (Nat.le_refl _) _,by simp[eV];omega⟩
       obtain⟨x1,x2,x3,iy⟩:=key;have VH:=Vq _ _ out ⟨a.toArray⟩ w4 x2 (by rw[bsize];omega) iy;rw[show (⟨a.toArray⟩:ByteArray).data.toList=a by simp]at VH;have En:=aa x1;have TJ:=aa x3;have VI:=aa (afE.out a aM afF);clear hD afF bT fZ x1 x2 x3 afE wI B3 IJ;go_wp2_with fail;refine VH.mono ?_;rintro e bW ⟨rfl,afG,dU⟩;have Ja:Ξ ah 16 #[.pointer (θ ⟨w1.heap.size+1,0,η⟩),.int .u8 10] bW λe w'=>e=.returned .nilIface/\dX (w1.heap.size+1) (w1.heap.size+1) (out++a++[10]) w'/\kX (w1.heap.size+1) (w1.heap.size+1) bW w':=Vp _ _ (out++a) 10 bW afG (by rw[List.length_append];omega) (Nat.le_trans iy dU.size);have awS:=aa dU;clear VH afG dU;go_wp2_with fail;refine Ja.mono ?_;rintro e w7 ⟨rfl,afH,afI⟩;have awT:=aa afH;have afJ:=aa (awS.out.trans afI);clear Ja afH afI;go_wp2;go_roundw
       case rel=>exact⟨k+1,out++(a++[10]),aM,by omega,by go_num,by simp only[List.length_append,List.length_singleton];omega,awR,VI.out,by rw[afJ.out.1.block _ (by omega)];exact En.out,by rw[<-List.append_assoc];exact awT.out,TJ.out.trans (afJ.out.1.mono (by omega))⟩
       case measure=>simp[intOf];omega
      .exact⟨rfl,.inr ⟨λh=>hz (by rw[NI.out.tape];exact h),ch,rfl,hdd⟩⟩
    .rw[Bool.not_eq_true]at ha;rw[ha]at hA;have awU:=aa (VE.out ha);clear VE VF ha;go_wp2_with fail;refine hA.mono ?_;rintro e w3 ⟨rfl,rfl⟩;clear hA;go_wp2;go_roundw
     case rel=>exact⟨k+1,out,T,by omega,by go_num,Nat.le_trans hol (Nat.mul_le_mul_right _ (Nat.le_succ k)),wI,awU.out,by rw[aN.out.block _ Fj];exact B3.out,IJ.out.below aN.out,iR.out.trans (aN.out.mono (by omega))⟩
     case measure=>simp[intOf];omega
   ·(have c6:k=L.length:=by omega);rw[c6,List.take_length]at Fp;have VI:=aa (ck.out out ⟨T,Fp⟩);(have awV:Hid (out.length<=30000000):=by show _<=_;omega);have hB:=afb _ _ out wr hbd (by omega);clear Fp jF hbd hb;go_wp2_with fail;refine hB.mono ?_;rintro e w2 ⟨rfl,aq⟩;have aN:=aa (Ao.out.trans (aq.mono (by have:=aS.out.size;omega)));clear hB aq;go_wp2;go_ret;exact .inl ⟨out,rfl,VI.out,awV.out,aN.out⟩
def AD:List UInt8:=[103,114,97,112,104,32,116,105,109,101,32,53,10,103,114,97,112,104,32,118,101,114,116,101,120,32,48,32,53,10,103,114,97,112,104,32,118,101,114,116,101,120,32,49,32,52,10,103,114,97,112,104,32,101,100,103,101,32,48,32,49,10,103,114,97,112,104,32,108,101,103,32,48,32,50,32,50,32,51,10,101,97,114,108,121,32,48,32,49,10,108,97,98,101,108,115,32,48,10]
def NK:List UInt8:=[111,107,10,111,107,10,111,107,10,111,107,10,111,107,10,49,32,51,10,48,32,45,10]
def yD:bg:=⟨5,[(0,5),(1,4)],[(0,1,[(0,2,2,3)])]⟩
theorem Jh{T U}{F ws}(h:nc ws=θ ⟨pH,[],F,[]⟩)(hJ:T++jn 32 F++[10]=U)(hl:U.length<=8192):fQ fe T ws lH U:=by unfold fQ;rw[h];simp only[dF];rw[hJ,ς (by omega)];constructor<;>trivial
theorem afK{T a}{ws}{o}{l}(h:nc ws=θ o)(h1:o.name≠pH)(h2:o.name≠qs)(h3:o.name≠gL)(h4:o.name≠kO)(hp:parse T=(g,0,0))(hn:eT g o l 0)(ha:pI l=a):fQ fe T ws a T:=by unfold fQ;rw[h];simp only[h1,h2,fh,hp,ne_eq,Jn];refine⟨?_,trivial⟩;unfold fe;rw[ς h3,ς h4];exact⟨l,0,hn,by unfold TZ;rw[χ rfl,ha]⟩
def hl0:List UInt8:=[103,114,97,112,104,32,116,105,109,101,32,53]
def hl1:List UInt8:=[103,114,97,112,104,32,118,101,114,116,101,120,32,48,32,53]
def lF:List UInt8:=[103,114,97,112,104,32,118,101,114,116,101,120,32,49,32,52]
def Hp:List UInt8:=[103,114,97,112,104,32,101,100,103,101,32,48,32,49]
def VJ:List UInt8:=[103,114,97,112,104,32,108,101,103,32,48,32,50,32,50,32,51]
def NF:List UInt8:=[101,97,114,108,121,32,48,32,49]
def G3:List UInt8:=[108,97,98,101,108,115,32,48]
def ht0:List UInt8:=[]
def ht1:List UInt8:=[116,105,109,101,32,53,10]
def ht2:List UInt8:=[116,105,109,101,32,53,10,118,101,114,116,101,120,32,48,32,53,10]
def jL:List UInt8:=[116,105,109,101,32,53,10,118,101,114,116,101,120,32,48,32,53,10,118,101,114,116,101,120,32,49,32,52,10]
def afL:List UInt8:=[116,105,109,101,32,53,10,118,101,114,116,101,120,32,48,32,53,10,118,101,114,116,101,120,32,49,32,52,10,101,100,103,101,32,48,32,49,10]
def AE:List UInt8:=[116,105,109,101,32,53,10,118,101,114,116,101,120,32,48,32,53,10,118,101,114,116,101,120,32,49,32,52,10,101,100,103,101,32,48,32,49,10,108,101,103,32,48,32,50,32,50,32,51,10]
theorem afM:ek AD=[hl0,hl1,lF,Hp,VJ,NF,G3]:=by decide+kernel
theorem awW:fQ fe ht0 (ew hl0) lH ht1:=Jh (F:=[[116,105,109,101],[53]]) (by rfl) (by decide+kernel) (by decide+kernel)
theorem awX:fQ fe ht1 (ew hl1) lH ht2:=Jh (F:=[[118,101,114,116,101,120],[48],[53]]) (by rfl) (by decide+kernel) (by decide+kernel)
theorem awY:fQ fe ht2 (ew lF) lH jL:=Jh (F:=[[118,101,114,116,101,120],[49],[52]]) (by rfl) (by decide+kernel) (by decide+kernel)
theorem awZ:fQ fe jL (ew Hp) lH afL:=Jh (F:=[[101,100,103,101],[48],[49]]) (by rfl) (by decide+kernel) (by decide+kernel)
theorem aw0:fQ fe afL (ew VJ) lH AE:=Jh (F:=[[108,101,103],[48],[50],[50],[51]]) (by rfl) (by decide+kernel) (by decide+kernel)
theorem afN:parse AE=(yD,0,0):=by rfl
theorem aw1:eT yD ⟨sW,[0,1],[],[]⟩ [1,3] 0:=by unfold eT;rw[ς (by decide),χ rfl];exact⟨by decide+kernel,by decide+kernel⟩
theorem aw2:eT yD ⟨lG,[0],[],[]⟩ [0,1099511627776] 0:=by
 unfold eT;rw[χ (.inl rfl),ς (by decide+kernel),χ rfl];have e1:cU 0 yD.lives=[true,ο]:=by decide+kernel
 have e2:dc 0 yD.lives yD.af=[]:=by decide+kernel
 show wo (cU 0 yD.lives) (dc 0 yD.lives yD.af) 0 [0,1099511627776];rw[e1,e2];exact .inr ⟨by decide+kernel,rfl,LC _ _ _,λa h=>by cases h⟩
theorem aw3:fQ fe AE (ew NF) [49,32,51] AE:=afK (o:=⟨sW,[0,1],[],[]⟩) (by rfl) (by decide) (by decide) (by decide) (by decide) afN aw1 (by decide+kernel)
theorem aw4:fQ fe AE (ew G3) [48,32,45] AE:=afK (o:=⟨lG,[0],[],[]⟩) (by rfl) (by decide) (by decide) (by decide) (by decide) afN aw2 (by decide+kernel)
theorem aw5:ig fe [] (ek AD) NK AE:=by rw[afM];have:=ig.ask (R:=fe) (l:=hl0) (T:=[]) (by decide+kernel) awW (.ask (l:=hl1) (by decide+kernel) awX (.ask (l:=lF) (by decide+kernel) awY (.ask (l:=Hp) (by decide+kernel) awZ (.ask (l:=VJ) (by decide+kernel) aw0 (.ask (l:=NF) (by decide+kernel) aw3 (.ask (l:=G3) (by decide+kernel) aw4 (.nil AE)))))));exact this
theorem aw6{out}(h:oy AD out):out=NK:=by unfold oy at h;rw[ς (by rw[afM];decide+kernel)]at h;obtain⟨T,h⟩:=h;exact(Lu (λg o a b=>T3 g o a b) h aw5).1
def CO:List UInt8:=[35,10,10,115,104,111,119]
def VK:List UInt8:=[101,114,114,111,114,32,51,32,49,10]
theorem aw7{out}(h:oy CO out):out=VK:=by
 have e:ek CO=[[35],[],gL]:=by decide+kernel
 unfold oy at h;rw[ς (by rw[e];decide+kernel),e]at h;obtain⟨T,h⟩:=h;have hd:fQ fe [] (ew gL) (ie 3++32::dK 1) []:=by unfold fQ;rw[show nc (ew gL)=θ ⟨gL,[],[],[]⟩from rfl];simp only[ς (show ¬gL=pH by decide),ς (show ¬gL=qs by decide)];rw[show parse []=(g0,1,3)from rfl];constructor<;>trivial
 have k:ig fe [] [[35],[],gL] ((ie 3++32::dK 1)++10::[]) []:=.skip (by decide+kernel) (.skip (by decide+kernel) (.ask (by decide+kernel) hd (.nil _)));rw[(Lu (λg o a b=>T3 g o a b) h k).1];decide+kernel
theorem afO s w(hs:s.size<=8796093022000):Ξ ah 6 #[.string s] w λe w'=>∃(aT cap:Nat) (ws:List ByteArray),ws.map (λs=>s.data.toList)=ek s.data.toList/\e=.returned (.slice (θ ⟨aT,0,η⟩) ws.length cap)/\(∀j (h:j<ws.length),w'.cell? ⟨aT,j,η⟩=θ (.string ws[j]))/\Below w.heap.size w w':=by
 have h0:=adD s 10 w hs;have aR:=aa (zg 10 s.data.toList);have aJ:Hid (∀P,P=sp 10 s.data.toList->ek s.data.toList=if P.getLast?=θ []then P.dropLast else P):=λP h=>by rw[h];rfl
 have cA:=aa (zh 10 s.data.toList);have hsz:s.data.toList.length=s.size:=by rw[jk];rfl
 rw[hsz]at cA;clear hsz;go_enter aku,ntmps6;go_wp2_with fail;refine h0.mono ?_;rintro r w1 ⟨aT,cap,ws,ou,rfl,hown,hb⟩;have lF:ws.length<=8796093022001:=by have h1:=jM List.length ou;rw[List.length_map]at h1;have:=cA.out;omega
 have bU:=aa (aJ.out _ ou);have hcells:∀j (h:j<ws.length),w1.cell? ⟨aT,j,η⟩=θ (.string ws[j]):=λj h=>by have:=hown.cells (g:=aT) rfl j (.string ws[j]) (by rw[List.getElem?_map,List.getElem?_eq_getElem h];rfl);rw[ae5,Nat.zero_add]at this;exact this
 have Ek:=aa hcells;obtain⟨M,a,hM⟩:∃M a,ws=M++[a]:=by
  rcases List.eq_nil_or_concat ws with q|⟨M,a,q⟩
  .have:=ou;rw[q]at this;exact absurd this.symm aR.out
  .exact⟨M,a,by rw[q,List.concat_eq_append]⟩
 clear h0 ou aJ aR cA;subst hM;have ca:w1.cell? ⟨aT,M.length,η⟩=θ (.string a):=by have:=hcells M.length (by simp);simpa using this
 have hlm:(M++[a]).length=M.length+1:=by simp
 have hcap:M.length+1<=cap:=by
  rcases hown.2 with⟨e,_⟩|⟨g,ue,cur,e,_,_,h4,_⟩
  .simp at e
  .simp at e h4;omega
 clear hcells hown;rw[hlm]at lF ⊢;by_cases hA:a=⟨#[]⟩
 .subst hA;have Cx:(ByteArray.mk #[]).toList.isEmpty=true:=by rw[oK];rfl
  go_wp2;go_ret;refine⟨aT,cap,M,?_,rfl,λj h=>?_,hb⟩
  .rw[bU.out];simp
  .have:=Ek.out j (by simp;omega);rw[List.getElem_append_left h]at this;exact this
 .have afP :¬a.data.toList=[]:=λh=>hA (WideShapes.bytes_inj (by rw[h]));have Cx:a.toList.isEmpty=false:=by rw[oK,List.isEmpty_eq_false_iff];exact afP
  go_wp2;go_ret;refine⟨aT,cap,M++[a],?_,by rw[hlm];rfl,Ek.out,hb⟩;rw[bU.out,ς (by simpa using afP)]
def r8(a:ByteArray):Bool:= !a.data.toList.isEmpty
theorem aw8{b b' z}{v}(h:w.ownsRow b e z v n xs)(hb:b'<=b):w.ownsRow b' e z v n xs:=
 ⟨h.1,h.2.imp id λ⟨g,cap,cur,h1,h2,h3⟩=>⟨g,cap,cur,h1,Nat.le_trans hb h2,h3⟩⟩
theorem aw9 s w(hs:s.size<=8796093022000):Ξ ah 8 #[.string s] w λe w'=>∃(v:ay) (ws:List ByteArray),ws.map (λs=>s.data.toList)=ew s.data.toList/\e=.returned v/\w'.ownsRow w.heap.size 9 1 v ws.length (ws.map gV)/\Below w.heap.size w w':=by
 obtain⟨i0,hi,cg,hz1,bX⟩:=er Tryz.IB;have h0:=adD s 32 w hs;have cA:=aa (zh 32 s.data.toList);have hsz:s.data.toList.length=s.size:=by rw[jk];rfl
 rw[hsz]at cA;clear hsz;go_enter akv,ntmps8;go_wp2_with fail;refine h0.mono ?_;rintro r w1 ⟨aT,cap,P,hP,rfl,hown,hb⟩;have lF:P.length<=8796093022001:=by have h1:=jM List.length hP;rw[List.length_map]at h1;have:=cA.out;omega
 have hcells:∀j (h:j<P.length),w1.cell? ⟨aT,j,η⟩=θ (.string P[j]):=λj h=>by have:=hown.cells (g:=aT) rfl j (.string P[j]) (by rw[List.getElem?_map,List.getElem?_eq_getElem h];rfl);rw[ae5,Nat.zero_add]at this;exact this
 have BB:aT<w1.heap.size:=(hown.lt aT rfl).2;have bU:Hid ((P.filter r8).map (λs=>s.data.toList)=ew s.data.toList):=by show _=_;unfold ew;rw[<-hP,List.filter_map];rfl
 have aD:=aa hb;clear h0 hP cA hown hb;go_wp2;go_loopw [3,5] (λv i wr=>∃(k:Nat),k<=P.length/\i=.int .i64 k/\wr.ownsRow w1.heap.size 9 1 v ((P.take k).filter r8).length (((P.take k).filter r8).map gV)/\Below w1.heap.size w1 wr) (λ_ i _=>P.length-(intOf i).toNat)
 case atStart=>exact⟨0,Nat.zero_le _,rfl,dJ _ _ _ _,Below.refl _ _⟩
 case round=>
  obtain⟨k,hk,rfl,hown,hb⟩:=hrel;have hB:=hb.size;by_cases hlt:k<P.length
  ·(have i1:(k:Int)<(P.length:Int):=by omega);(have oh:wr.cell? ⟨aT,k,η⟩=θ (.string P[k]):=by rw[hb.cell (p:=⟨aT,k,η⟩) BB];exact hcells k hlt);have aX:=aa (jZ P k hlt);have hfl:((P.take k).filter r8).length<=P.length:=Nat.le_trans (List.length_filter_le _ _) (by rw[List.length_take];omega);generalize hQ:(P.take k).filter r8=Q at*;by_cases hA:r8 P[k]=true
   ·(have gw:Hid ((P.take (k+1)).filter r8=Q++[P[k]]):=by show _=_;rw[aX.out,List.filter_append,hQ];simp[hA]);(have Cx:P[k].toList.isEmpty=false:=by rw[oK];unfold r8 at hA;simpa using hA);generalize P[k]=a at*;clear hA aX hQ;go_wp2_with(at_builtin;refine wpList_append_lies _ rfl _ _ 23 rfl w1.heap.size 9 i0 (.string ⟨#[]⟩) 1 16 ((cD 23).trans underlying23) hi cg hz1 bX rfl (by decide) _ _ _ rfl (fW (w:=wr) hown _) ⟨wr.heap.size,0,η⟩ 1 1 [.string a] rfl rfl ?c1 ?c2 (by decide) ?c3 ?c4 ?c5 (wr.heap.size+1) ?nS ?_)
    case c1=>exact World.news_of_block (cs:=#[.string a]) (t:=9) (fr:=(0,0)) (heap_alloc_new wr _)
    case c2=>intro u hu;simp at hu;subst hu;rfl
    case c3=>unfold maxLen;omega
    case c4=>omega
    case c5=>simp;omega
    case nS=>simp
    (intro gg dm w3 j5 hgrow hat jl;have eA:Hid (w3.ownsRow w1.heap.size 9 1 (.slice (θ ⟨gg,0,η⟩) (Q.length+1) dm) ((P.take (k+1)).filter r8).length (((P.take (k+1)).filter r8).map gV)):=by show World.ownsRow _ _ _ _ _ _ _;rw[gw.out,List.length_append,List.map_append];exact j5);have aN:=aa ((hb.alloc hB (.cells #[.string a] 9)).grown hgrow (by simp;omega) (λj hj=>(hown.lt j hj).1));clear hown j5 hgrow hat jl;go_wp2;go_roundw
    case rel=>exact⟨k+1,by omega,by go_num,eA.out,aN.out⟩
    case measure=>simp[intOf];omega
   ·(have gw:Hid ((P.take (k+1)).filter r8=Q):=by show _=_;rw[aX.out,List.filter_append,hQ];simp[hA]);(have Cx:P[k].toList.isEmpty=true:=by rw[oK];unfold r8 at hA;simpa using hA);generalize P[k]=a at*;clear hA aX hQ;go_wp2;go_roundw
    case rel=>exact⟨k+1,by omega,by go_num,by rw[gw.out];exact hown,hb⟩
    case measure=>simp[intOf];omega
  ·(have bp:k=P.length:=by omega);rw[bp,List.take_length]at hown;clear hcells;go_wp2;go_ret;exact⟨_,P.filter r8,bU.out,rfl,aw8 hown aD.out.size,aD.out.trans (hb.mono aD.out.size)⟩
end Go.Proofs.YtfphigmeppdocaaGreatDoor.Q
