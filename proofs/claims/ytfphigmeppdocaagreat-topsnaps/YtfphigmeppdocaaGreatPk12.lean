/-
  The law TopSnaps holds.
-/
import Derived.Test.YtfphigmeppdocaaGreatPk11
namespace Go.Proofs.YtfphigmeppdocaaGreat.Q
open Lo (Seq.prog)
open Go.RowKit
open Low (DeadAt zqs)
open Lo (Zt)
set_option maxRecDepth 100000 in
set_option maxHeartbeats 1000000 in
theorem bsRun_err (g:Gr) (la ea:Option Addr) (lc ec:Nat) (p fr:Int) (w:World) (hG:GAt w la ea g) (hE:askE g p fr≠0):
   Calls Seq.prog 6 #[.agg #[.int .i64 g.hor,.slice la g.lives.length lc,.slice ea g.edges.length ec],.int .i64 p,.int .i64 fr] w fun e w' =>e= .returned (.tuple #[.slice none 0 0,.int .i64 0,.int .i64 (askE g p fr)]) /\ Below w.heap.size w w':=by
 obtain ⟨w1,hw1⟩:∃x,x=w.alloc (.cells #[.int .i64 g.hor,.slice la g.lives.length lc,.slice ea g.edges.length ec] 25):=⟨_,rfl⟩
 have B0:GBox w w1 w.heap.size g la ea lc ec:=by rw [hw1];exact gbox_start w g la ea lc ec 25
 have h1:=bsCombined_err g la ea lc ec p fr 1 _ (hG.below B0.bel) hE
 have HB1:=hideg B0
 have g0:=B0.c0
 have g1:=B0.c1
 have g2:=B0.c2
 have hw1s:=hw1.symm
 clear hG B0 hw1
 go_enter Seq.func6,Tryz.ntmps6
 go_wp2_with fail
 refine h1.mono ?_
 rintro e w2 ⟨rfl,hb2⟩
 have HF:=hideg (HB1.out.below hb2).bel
 clear h1 hw1s g0 g1 g2 hb2 HB1
 go_wp2
 exact bodyPost_ret (v:= .tuple #[.slice none 0 0,.int .i64 0,.int .i64 (askE g p fr)]) (by simp [results,Tryz.results6,go_sem]) rfl ⟨rfl,HF.out⟩
set_option maxRecDepth 100000 in
set_option maxHeartbeats 1000000 in
theorem bsRun_ok (g:Gr) (la ea:Option Addr) (lc ec p:Nat) (fr:Int) (w:World) (hG:GAt w la ea g) (hE:askE g p fr=0) (h0:gChk g=0) (hPath:PathsOk g la ea lc ec p):
   Calls Seq.prog 6 #[.agg #[.int .i64 g.hor,.slice la g.lives.length lc,.slice ea g.edges.length ec],.int .i64 p,.int .i64 fr] w fun e w' =>(∃go val T r,e= .returned (.tuple #[.slice (some ⟨go,0,none⟩) g.lives.length g.lives.length,.int .i64 r,.int .i64 0]) /\ AM w' w.heap.size go g.lives.length val T /\ (∀v,v<g.lives.length -> T v=allP g p fr v g.hor.toNat) /\ r=allR g p fr g.hor.toNat /\ Below w.heap.size w w') \/ (¬Zt zqs w.tape /\ ∃ch,e= .panicked ch /\ DeadAt w'):=by
 obtain ⟨w1,hw1⟩:∃x,x=w.alloc (.cells #[.int .i64 g.hor,.slice la g.lives.length lc,.slice ea g.edges.length ec] 25):=⟨_,rfl⟩
 have B0:GBox w w1 w.heap.size g la ea lc ec:=by rw [hw1];exact gbox_start w g la ea lc ec 25
 have h1:=bsCombined_ok g la ea lc ec p 1 fr _ (hG.below B0.bel) hE h0 (by omega) hPath
 have HB1:=hideg B0
 have g0:=B0.c0
 have g1:=B0.c1
 have g2:=B0.c2
 have hw1s:=hw1.symm
 clear hG B0 hw1 hE h0 hPath
 go_enter Seq.func6,Tryz.ntmps6
 go_wp2_with fail
 refine h1.mono ?_
 rintro e w2 (⟨go,val,T,r,rfl,A2,hT,hr,hb2⟩ | ⟨hz,ch,rfl,hd⟩)
 · have HF:=hideg (HB1.out.below hb2).bel
   have HA:=hideg (A2.base HB1.out.bel.size)
   have HT:=hideg hT
   have HR:=hideg hr
   clear h1 hw1s g0 g1 g2 hb2 HB1 A2 hT hr
   go_wp2
   exact bodyPost_ret (v:= .tuple #[.slice (some ⟨go,0,none⟩) g.lives.length g.lives.length,.int .i64 r,.int .i64 0]) (by simp [results,Tryz.results6,go_sem]) rfl (.inl ⟨go,val,T,r,rfl,HA.out,HT.out,HR.out,HF.out⟩)
 · exact ⟨rfl,.inr ⟨fun h=>hz (by rw [HB1.out.bel.tape];exact h),ch,rfl,hd⟩⟩
theorem cell_newP {W:World} {cs:Array Value} {T:TypeId} {b j:Nat} {x:Value} (hb:b=W.heap.size) (hx:cs[j]? =some x):(W.alloc (.cells cs T)).cell? ⟨b,j,none⟩=some x:=by subst hb;simp [hx]
theorem frozen_newP {W:World} {cs:Array Value} {T:TypeId} {b j:Nat} (hb:b=W.heap.size):(W.alloc (.cells cs T)).frozen? ⟨b,j,none⟩=false:=by subst hb;simp
theorem set5P {w W:World} (h:Below w.heap.size w W) {b:Nat} (hb:w.heap.size <= b) (x0 x1 x2 x3 x4:Value) (o:Obj):Below w.heap.size w ((((((W.setCell ⟨b,0,none⟩ x0).setCell ⟨b,1,none⟩ x1).setCell ⟨b,2,none⟩ x2).setCell ⟨b,3,none⟩ x3).setCell ⟨b,4,none⟩ x4).alloc o):=by
 have h5:=((((h.setCell (p:=⟨b,0,none⟩) hb x0).setCell (p:=⟨b,1,none⟩) hb x1).setCell (p:=⟨b,2,none⟩) hb x2).setCell (p:=⟨b,3,none⟩) hb x3).setCell (p:=⟨b,4,none⟩) hb x4
 exact h5.alloc h5.size o
structure PBx (w W:World) (A B:Nat) (l1 l2 l4:Int):Prop where
 e0:W.cell? ⟨w.heap.size+1,0,none⟩=some (.int .i64 (A:Int))
 e1:W.cell? ⟨w.heap.size+1,1,none⟩=some (.int .i64 (B:Int))
 l0:W.cell? ⟨w.heap.size+1+1,0,none⟩=some (.int .i64 l1)
 l1:W.cell? ⟨w.heap.size+1+1,1,none⟩=some (.int .i64 l2)
 l3:W.cell? ⟨w.heap.size+1+1,3,none⟩=some (.int .i64 l4)
 r:∀j,j<5 -> W.cell? ⟨w.heap.size+1+1+1,j,none⟩=some (.int .i64 0)
 fz:∀j,W.frozen? ⟨w.heap.size+1+1+1,j,none⟩=false
 bel:Below w.heap.size w W
 lt:w.heap.size+1+1+1<W.heap.size
theorem PBx.below {w W W' :World} {A B:Nat} {l1 l2 l4:Int} (h:PBx w W A B l1 l2 l4) (hb:Below W.heap.size W W'):PBx w W' A B l1 l2 l4:=by
 have hl:=h.lt
 have hs:=hb.size
 have q:∀b j x,b<W.heap.size -> W.cell? ⟨b,j,none⟩=some x -> W'.cell? ⟨b,j,none⟩=some x:=fun b j x hlt hx=>(hb.cell (p:=⟨b,j,none⟩) hlt).trans hx
 exact ⟨q _ _ _ (by omega) h.e0,q _ _ _ (by omega) h.e1,q _ _ _ (by omega) h.l0,q _ _ _ (by omega) h.l1,q _ _ _ (by omega) h.l3,fun j hj=>q _ _ _ (by omega) (h.r j hj),fun j=>(hb.frozen (p:=⟨w.heap.size+1+1+1,j,none⟩) (by simp only;omega)).trans (h.fz j),ptg h.bel hb,by omega⟩
theorem got5P {W:World} {b:Nat} {y0 y4:Value} (x0 x1 x2 x3 x4:Value) (o:Obj) (h0:W.cell? ⟨b,0,none⟩=some y0) (h4:W.cell? ⟨b,4,none⟩=some y4):
   ((((((W.setCell ⟨b,0,none⟩ x0).setCell ⟨b,1,none⟩ x1).setCell ⟨b,2,none⟩ x2).setCell ⟨b,3,none⟩ x3).setCell ⟨b,4,none⟩ x4).alloc o).cell? ⟨b,0,none⟩=some x0 /\
   ((((((W.setCell ⟨b,0,none⟩ x0).setCell ⟨b,1,none⟩ x1).setCell ⟨b,2,none⟩ x2).setCell ⟨b,3,none⟩ x3).setCell ⟨b,4,none⟩ x4).alloc o).cell? ⟨b,1,none⟩=some x1 /\
   ((((((W.setCell ⟨b,0,none⟩ x0).setCell ⟨b,1,none⟩ x1).setCell ⟨b,2,none⟩ x2).setCell ⟨b,3,none⟩ x3).setCell ⟨b,4,none⟩ x4).alloc o).cell? ⟨b,2,none⟩=some x2 /\
   ((((((W.setCell ⟨b,0,none⟩ x0).setCell ⟨b,1,none⟩ x1).setCell ⟨b,2,none⟩ x2).setCell ⟨b,3,none⟩ x3).setCell ⟨b,4,none⟩ x4).alloc o).cell? ⟨b,3,none⟩=some x3 /\
   ((((((W.setCell ⟨b,0,none⟩ x0).setCell ⟨b,1,none⟩ x1).setCell ⟨b,2,none⟩ x2).setCell ⟨b,3,none⟩ x3).setCell ⟨b,4,none⟩ x4).alloc o).cell? ⟨b,4,none⟩=some x4:=by
 have hc:∃c t f,W.heap[b]? =some (.cells c t f):=by
   unfold World.cell? at h0
   split at h0
   · rename_i c t f hh;exact ⟨c,t,f,hh⟩
   · cases h0
 obtain ⟨c,t,f,hh⟩:=hc
 have s4:4<c.size:=by
   simp only [World.cell?,hh] at h4
   simp at h4
   exact (Array.getElem?_eq_some_iff.1 h4).1
 have hz:(((((W.setCell ⟨b,0,none⟩ x0).setCell ⟨b,1,none⟩ x1).setCell ⟨b,2,none⟩ x2).setCell ⟨b,3,none⟩ x3).setCell ⟨b,4,none⟩ x4).heap[b]? =some (.cells (((((c.setIfInBounds 0 x0).setIfInBounds 1 x1).setIfInBounds 2 x2).setIfInBounds 3 x3).setIfInBounds 4 x4) t f):=by
   simp [World.setCell,Array.getElem?_modify,hh]
 have hlt:=(Array.getElem?_eq_some_iff.1 hz).1
 generalize ((((W.setCell ⟨b,0,none⟩ x0).setCell ⟨b,1,none⟩ x1).setCell ⟨b,2,none⟩ x2).setCell ⟨b,3,none⟩ x3).setCell ⟨b,4,none⟩ x4=Z at*
 have s0:0<c.size:=by omega
 have s1:1<c.size:=by omega
 have s2:2<c.size:=by omega
 have s3:3<c.size:=by omega
 refine ⟨?_,?_,?_,?_,?_⟩
 · rw [(gal Z o).cell (by exact hlt)];simp only [World.cell?,hz];simp [s0]
 · rw [(gal Z o).cell (by exact hlt)];simp only [World.cell?,hz];simp [s1]
 · rw [(gal Z o).cell (by exact hlt)];simp only [World.cell?,hz];simp [s2]
 · rw [(gal Z o).cell (by exact hlt)];simp only [World.cell?,hz];simp [s3]
 · rw [(gal Z o).cell (by exact hlt)];simp only [World.cell?,hz];simp [s4]
set_option maxRecDepth 100000 in
set_option maxHeartbeats 4000000 in
theorem pathOf_any (g:Gr) (la ea lo:Option Addr) (lc ec ln lcap p:Nat) (e:Ed) (l:Lg) (w:World) (hG:GAt w la ea g) (hA:0 <= e.1 /\ e.1<g.lives.length) (hB:0 <= e.2.1 /\ e.2.1<g.lives.length) (hp3:p=1 \/ p=2 \/ p=3):
   Calls Seq.prog 73 #[.agg #[.int .i64 g.hor,.slice la g.lives.length lc,.slice ea g.edges.length ec],.agg #[.int .i64 e.1,.int .i64 e.2.1,.slice lo ln lcap],.agg #[.int .i64 l.1,.int .i64 l.2.1,.int .i64 l.2.2.1,.int .i64 l.2.2.2],.int .i64 p] w fun r w' =>r= .returned (ptV (pthOf g p e l)) /\ Below w.heap.size w w':=by
 obtain ⟨ea1,eb1,elegs⟩:=e
 obtain ⟨l1,l2,l3,l4⟩:=l
 simp only at hA hB ⊢
 obtain ⟨A,rfl⟩:∃A:Nat,ea1=(A:Int):=⟨ea1.toNat,by omega⟩
 obtain ⟨B,rfl⟩:∃B:Nat,eb1=(B:Int):=⟨eb1.toNat,by omega⟩
 have hAn:A<g.lives.length:=by omega
 have hBn:B<g.lives.length:=by omega
 obtain ⟨lb,lof,rfl,hlb,hlc⟩:∃b off,la=some ⟨b,off,none⟩ /\ b<w.heap.size /\ ∀k (hk:k<g.lives.length),(w.cell? ⟨b,off+k*2,none⟩=some (.int .i64 g.lives[k].1) /\ w.cell? ⟨b,off+k*2+1,none⟩=some (.int .i64 g.lives[k].2)):=by
   rcases hG.lv with h0 | ⟨b,off,rfl,hbr,hc⟩
   · rw [h0] at hAn;simp at hAn
   exact ⟨b,off,rfl,hbr,fun k hk=>IvAt.get hk hc⟩
 obtain ⟨a0,a1⟩:=hlc A hAn
 obtain ⟨b0,b1⟩:=hlc B hBn
 have eA:lifeOf g (A:Int)=(g.lives[A].1,g.lives[A].2):=by unfold lifeOf;rw [Int.toNat_natCast,List.getD_eq_getElem?_getD,List.getElem?_eq_getElem hAn];rfl
 have eB:lifeOf g (B:Int)=(g.lives[B].1,g.lives[B].2):=by unfold lifeOf;rw [Int.toNat_natCast,List.getD_eq_getElem?_getD,List.getElem?_eq_getElem hBn];rfl
 have HP:Hid (pthOf g p ((A:Int),(B:Int),elegs) (l1,l2,l3,l4)=((A:Int),(B:Int),max l1 (max g.lives[A].1 g.lives[B].1),min l2 (min g.lives[A].2 g.lives[B].2),priceOf p ((A:Int),(B:Int),l4))):=by show _=_;unfold pthOf;simp only;rw [eA,eB]
 obtain ⟨mx,hmx⟩:∃m,m=(if (if l1<g.lives[A].1 then g.lives[A].1 else l1)<g.lives[B].1 then g.lives[B].1 else (if l1<g.lives[A].1 then g.lives[A].1 else l1)):=⟨_,rfl⟩
 obtain ⟨mn,hmn⟩:∃m,m=(if g.lives[B].2<(if g.lives[A].2<l2 then g.lives[A].2 else l2) then g.lives[B].2 else (if g.lives[A].2<l2 then g.lives[A].2 else l2)):=⟨_,rfl⟩
 have hmx2:max l1 (max g.lives[A].1 g.lives[B].1)=mx:=by rw [hmx];split<;>split<;>omega
 have hmn2:min l2 (min g.lives[A].2 g.lives[B].2)=mn:=by rw [hmn];split<;>split<;>omega
 rw [hmx2,hmn2] at HP
 have hmxs:=hmx.symm
 have hmns:=hmn.symm
 clear hmx hmn hmx2 hmn2
 generalize g.lives[A].1=x1 at*
 generalize g.lives[A].2=x2 at*
 generalize g.lives[B].1=z1 at*
 generalize g.lives[B].2=z2 at*
 clear eA eB hlc hG
 obtain ⟨w1,hw1⟩:∃x,x=(((w.alloc (.cells #[.int .i64 g.hor,.slice (some ⟨lb,lof,none⟩) g.lives.length lc,.slice ea g.edges.length ec] 25)).alloc (.cells #[.int .i64 (A:Int),.int .i64 (B:Int),.slice lo ln lcap] 47)).alloc (.cells #[.int .i64 l1,.int .i64 l2,.int .i64 l3,.int .i64 l4] 69)).alloc (.cells #[.int .i64 0,.int .i64 0,.int .i64 0,.int .i64 0,.int .i64 0] 130):=⟨_,rfl⟩
 have hb1:Below w.heap.size w w1:=by rw [hw1];exact ptg (ptg (ptg (gal _ _) (gal _ _)) (gal _ _)) (gal _ _)
 have hw1s:=hw1.symm
 have hs1:w1.heap.size=w.heap.size+4:=by rw [hw1];simp
 have k1:w1.cell? ⟨w.heap.size,1,none⟩=some (.slice (some ⟨lb,lof,none⟩) g.lives.length lc):=by
   rw [hw1,(gal _ _).cell (by simp<;>omega),(gal _ _).cell (by simp<;>omega),(gal _ _).cell (by simp<;>omega)];exact cell_newP rfl rfl
 have k2:w1.cell? ⟨w.heap.size+1,0,none⟩=some (.int .i64 (A:Int)):=by
   rw [hw1,(gal _ _).cell (by simp<;>omega),(gal _ _).cell (by simp<;>omega)];exact cell_newP (by simp) rfl
 have k3:w1.cell? ⟨w.heap.size+1,1,none⟩=some (.int .i64 (B:Int)):=by
   rw [hw1,(gal _ _).cell (by simp<;>omega),(gal _ _).cell (by simp<;>omega)];exact cell_newP (by simp) rfl
 have a0':=(hb1.cell (p:=⟨lb,lof+A*2,none⟩) hlb).trans a0
 have a1':=(hb1.cell (p:=⟨lb,lof+A*2+1,none⟩) hlb).trans a1
 have b0':=(hb1.cell (p:=⟨lb,lof+B*2,none⟩) hlb).trans b0
 have b1':=(hb1.cell (p:=⟨lb,lof+B*2+1,none⟩) hlb).trans b1
 have hAi:(A:Int)<(g.lives.length:Int):=by omega
 have hBi:(B:Int)<(g.lives.length:Int):=by omega
 have PB0:PBx w w1 A B l1 l2 l4:=by
   refine ⟨?_,?_,?_,?_,?_,fun j hj=> ?_,fun j=> ?_,hb1,by omega⟩
   · exact k2
   · exact k3
   · rw [hw1,(gal _ _).cell (by simp<;>omega)];exact cell_newP (by simp) rfl
   · rw [hw1,(gal _ _).cell (by simp<;>omega)];exact cell_newP (by simp) rfl
   · rw [hw1,(gal _ _).cell (by simp<;>omega)];exact cell_newP (by simp) rfl
   · rw [hw1]
     refine cell_newP (by simp) ?_
     match j,hj with
     | 0,_=>rfl
     | 1,_=>rfl
     | 2,_=>rfl
     | 3,_=>rfl
     | 4,_=>rfl
   · rw [hw1];exact frozen_newP (by simp)
 clear a0 a1 b0 b1 hw1
 have u0:=fun o=>((gal w1 o).cell (p:=⟨w.heap.size,1,none⟩) (by simp only;omega)).trans k1
 have v0:=fun o o' =>((ptg (gal w1 o) (gal _ o')).cell (p:=⟨w.heap.size,1,none⟩) (by simp only;omega)).trans k1
 have u1:=fun o=>((gal w1 o).cell (p:=⟨w.heap.size+1,0,none⟩) (by simp only;omega)).trans k2
 have v1:=fun o o' =>((ptg (gal w1 o) (gal _ o')).cell (p:=⟨w.heap.size+1,0,none⟩) (by simp only;omega)).trans k2
 have u2:=fun o=>((gal w1 o).cell (p:=⟨w.heap.size+1,1,none⟩) (by simp only;omega)).trans k3
 have v2:=fun o o' =>((ptg (gal w1 o) (gal _ o')).cell (p:=⟨w.heap.size+1,1,none⟩) (by simp only;omega)).trans k3
 have u3:=fun o=>((gal w1 o).cell (p:=⟨lb,lof+A*2,none⟩) (by simp only;omega)).trans a0'
 have v3:=fun o o' =>((ptg (gal w1 o) (gal _ o')).cell (p:=⟨lb,lof+A*2,none⟩) (by simp only;omega)).trans a0'
 have u4:=fun o=>((gal w1 o).cell (p:=⟨lb,lof+A*2+1,none⟩) (by simp only;omega)).trans a1'
 have v4:=fun o o' =>((ptg (gal w1 o) (gal _ o')).cell (p:=⟨lb,lof+A*2+1,none⟩) (by simp only;omega)).trans a1'
 have u5:=fun o=>((gal w1 o).cell (p:=⟨lb,lof+B*2,none⟩) (by simp only;omega)).trans b0'
 have v5:=fun o o' =>((ptg (gal w1 o) (gal _ o')).cell (p:=⟨lb,lof+B*2,none⟩) (by simp only;omega)).trans b0'
 have u6:=fun o=>((gal w1 o).cell (p:=⟨lb,lof+B*2+1,none⟩) (by simp only;omega)).trans b1'
 have v6:=fun o o' =>((ptg (gal w1 o) (gal _ o')).cell (p:=⟨lb,lof+B*2+1,none⟩) (by simp only;omega)).trans b1'
 go_enter Seq.func73,Tryz.ntmps73
 go_wp2_with fail
 rename_i Q' K hK
 have TL:∀(pa pb:Nat) (W2:World),PBx w W2 A B l1 l2 l4 -> W2.cell? ⟨pa,0,none⟩=some (.int .i64 x1) -> W2.cell? ⟨pa,1,none⟩=some (.int .i64 x2) -> W2.cell? ⟨pb,0,none⟩=some (.int .i64 z1) -> W2.cell? ⟨pb,1,none⟩=some (.int .i64 z2) -> W2.heap.size=w.heap.size+6 -> K {tmps:=#[.agg #[.int .i64 g.hor,.slice (some ⟨lb,lof,none⟩) g.lives.length lc,.slice ea g.edges.length ec],.agg #[.int .i64 (A:Int),.int .i64 (B:Int),.slice lo ln lcap],.agg #[.int .i64 l1,.int .i64 l2,.int .i64 l3,.int .i64 l4],.int .i64 (p:Int),.pointer (some ⟨w.heap.size,0,none⟩),.pointer (some ⟨w.heap.size+1,0,none⟩),.pointer (some ⟨w.heap.size+1+1,0,none⟩),undef,.pointer (some ⟨w.heap.size+1+1+1,0,none⟩),.pointer (some ⟨pa,0,none⟩),.pointer (some ⟨pb,0,none⟩),undef,.pointer (some ⟨w.heap.size,1,none⟩),.slice (some ⟨lb,lof,none⟩) g.lives.length lc,.pointer (some ⟨w.heap.size+1,0,none⟩),.int .i64 (A:Int),.pointer (some ⟨lb,lof+A*2,none⟩),.agg #[.int .i64 x1,.int .i64 x2],.pointer (some ⟨w.heap.size,1,none⟩),.slice (some ⟨lb,lof,none⟩) g.lives.length lc,.pointer (some ⟨w.heap.size+1,1,none⟩),.int .i64 (B:Int),.pointer (some ⟨lb,lof+B*2,none⟩),.agg #[.int .i64 z1,.int .i64 z2],undef,undef,undef,undef,undef,undef,undef,undef,undef,undef,undef,undef,undef,undef,undef,undef,undef,undef,undef,undef,undef,undef,undef,undef,undef,undef,undef,undef,undef],defers:=[] } W2:=by
   intro pa pb W2 F q0 q1 q2 q3 hs2
   refine hK _ _ ?_
   have e0:=F.e0
   have e1:=F.e1
   have l0:=F.l0
   have l1':=F.l1
   have l3':=F.l3
   have r0:=F.r 0 (by omega)
   have r1:=F.r 1 (by omega)
   have r2:=F.r 2 (by omega)
   have r3:=F.r 3 (by omega)
   have r4:=F.r 4 (by omega)
   have fz:=F.fz
   have HBW:=hideg F.bel
   clear hK F PB0 u0 u1 u2 u3 u4 u5 u6 v0 v1 v2 v3 v4 v5 v6 k1 k2 k3 a0' a1' b0' b1' hw1s hs1 hb1
   rcases hp3 with rfl | rfl | rfl
   · have HV:Hid (pthOf g 1 ((A:Int),(B:Int),elegs) (l1,l2,l3,l4)=((A:Int),(B:Int),mx,mn,1)):=by show _=_;rw [HP.out];rfl
     go_wp2
     obtain ⟨t0,t1,t2,t3,t4⟩:=got5P (.int .i64 (A:Int)) (.int .i64 (B:Int)) (.int .i64 mx) (.int .i64 mn) (.int .i64 1) (.cells #[.int .i64 (A:Int),.int .i64 (B:Int),.int .i64 mx,.int .i64 mn,.int .i64 1] 130) r0 r4
     refine bodyPost_ret (v:=ptV ((A:Int),(B:Int),mx,mn,1)) (by simp [results,Tryz.results73,go_sem,ptV,t0,t1,t2,t3,t4]) rfl ⟨by rw [HV.out],?_⟩
     exact set5P HBW.out (by omega) _ _ _ _ _ _
   · have HV:Hid (pthOf g 2 ((A:Int),(B:Int),elegs) (l1,l2,l3,l4)=((A:Int),(B:Int),mx,mn,l4)):=by show _=_;rw [HP.out];rfl
     go_wp2
     obtain ⟨t0,t1,t2,t3,t4⟩:=got5P (.int .i64 (A:Int)) (.int .i64 (B:Int)) (.int .i64 mx) (.int .i64 mn) (.int .i64 l4) (.cells #[.int .i64 (A:Int),.int .i64 (B:Int),.int .i64 mx,.int .i64 mn,.int .i64 l4] 130) r0 r4
     refine bodyPost_ret (v:=ptV ((A:Int),(B:Int),mx,mn,l4)) (by simp [results,Tryz.results73,go_sem,ptV,t0,t1,t2,t3,t4]) rfl ⟨by rw [HV.out],?_⟩
     exact set5P HBW.out (by omega) _ _ _ _ _ _
   · have HV:Hid (pthOf g 3 ((A:Int),(B:Int),elegs) (l1,l2,l3,l4)=((A:Int),(B:Int),mx,mn,0)):=by show _=_;rw [HP.out];rfl
     go_wp2
     obtain ⟨t0,t1,t2,t3,t4⟩:=got5P (.int .i64 (A:Int)) (.int .i64 (B:Int)) (.int .i64 mx) (.int .i64 mn) (.int .i64 0) (.cells #[.int .i64 (A:Int),.int .i64 (B:Int),.int .i64 mx,.int .i64 mn,.int .i64 0] 130) r0 r4
     refine bodyPost_ret (v:=ptV ((A:Int),(B:Int),mx,mn,0)) (by simp [results,Tryz.results73,go_sem,ptV,t0,t1,t2,t3,t4]) rfl ⟨by rw [HV.out],?_⟩
     exact set5P HBW.out (by omega) _ _ _ _ _ _
 go_region
 · obtain ⟨W2,hW2⟩:∃x,x=((w1.alloc (.cells #[.int .i64 x1,.int .i64 x2] 95)).alloc (.cells #[.int .i64 z1,.int .i64 z2] 95)).drew:=⟨_,rfl⟩
   have hB2:Below w1.heap.size w1 W2:=by rw [hW2];exact (ptg (gal w1 _) (gal _ _)).drew
   have q0:W2.cell? ⟨w.heap.size+4,0,none⟩=some (.int .i64 x1):=by rw [hW2];exact (((gal _ _).cell (by simp<;>omega)).trans (cell_newP (by omega) rfl))
   have q1:W2.cell? ⟨w.heap.size+4,1,none⟩=some (.int .i64 x2):=by rw [hW2];exact (((gal _ _).cell (by simp<;>omega)).trans (cell_newP (by omega) rfl))
   have q2:W2.cell? ⟨w.heap.size+4+1,0,none⟩=some (.int .i64 z1):=by rw [hW2];exact (cell_newP (by simp;omega) rfl)
   have q3:W2.cell? ⟨w.heap.size+4+1,1,none⟩=some (.int .i64 z2):=by rw [hW2];exact (cell_newP (by simp;omega) rfl)
   have hs2:W2.heap.size=w.heap.size+6:=by rw [hW2];simp [World.drew,hs1]
   rw [<- hW2]
   exact TL _ _ W2 (PB0.below hB2) q0 q1 q2 q3 hs2
 · obtain ⟨W2,hW2⟩:∃x,x=((w1.alloc (.cells #[.int .i64 z1,.int .i64 z2] 95)).alloc (.cells #[.int .i64 x1,.int .i64 x2] 95)).drew:=⟨_,rfl⟩
   have hB2:Below w1.heap.size w1 W2:=by rw [hW2];exact (ptg (gal w1 _) (gal _ _)).drew
   have q0:W2.cell? ⟨w.heap.size+4+1,0,none⟩=some (.int .i64 x1):=by rw [hW2];exact (cell_newP (by simp;omega) rfl)
   have q1:W2.cell? ⟨w.heap.size+4+1,1,none⟩=some (.int .i64 x2):=by rw [hW2];exact (cell_newP (by simp;omega) rfl)
   have q2:W2.cell? ⟨w.heap.size+4,0,none⟩=some (.int .i64 z1):=by rw [hW2];exact (((gal _ _).cell (by simp<;>omega)).trans (cell_newP (by omega) rfl))
   have q3:W2.cell? ⟨w.heap.size+4,1,none⟩=some (.int .i64 z2):=by rw [hW2];exact (((gal _ _).cell (by simp<;>omega)).trans (cell_newP (by omega) rfl))
   have hs2:W2.heap.size=w.heap.size+6:=by rw [hW2];simp [World.drew,hs1]
   rw [<- hW2]
   exact TL _ _ W2 (PB0.below hB2) q0 q1 q2 q3 hs2
theorem Tryz.infoPath:(Seq.prog.info? 130).map (fun i=>(i.zero,i.size,i.bytes))=some (some (.agg #[.int .i64 0,.int .i64 0,.int .i64 0,.int .i64 0,.int .i64 0]),5,40):=by kernel_rfl
def pthE (g:Gr) (p:Nat) (e:Ed) (j:Nat):List Pt:=(e.2.2.take j).flatMap fun l=>pthsL g p e l
def pthG (g:Gr) (p:Nat) (k:Nat):List Pt:=(g.edges.take k).flatMap fun e=>e.2.2.flatMap fun l=>pthsL g p e l
theorem pthE_succ (g:Gr) (p:Nat) (e:Ed) {j:Nat} (hj:j<e.2.2.length):pthE g p e (j+1)=pthE g p e j++pthsL g p e e.2.2[j]:=by
 unfold pthE;rw [List.take_succ_eq_append_getElem hj,List.flatMap_append,List.flatMap_singleton]
theorem pthE_all (g:Gr) (p:Nat) (e:Ed):pthE g p e e.2.2.length=e.2.2.flatMap fun l=>pthsL g p e l:=by unfold pthE;rw [List.take_length]
theorem pthG_succ (g:Gr) (p:Nat) {k:Nat} (hk:k<g.edges.length):pthG g p (k+1)=pthG g p k++pthE g p g.edges[k] g.edges[k].2.2.length:=by
 rw [pthE_all];unfold pthG;rw [List.take_succ_eq_append_getElem hk,List.flatMap_append,List.flatMap_singleton]
theorem pthG_all (g:Gr) (p:Nat):pthG g p g.edges.length=pathsF g p:=by unfold pthG pathsF;rw [List.take_length]
theorem pthG_len {g:Gr} (h0:gChk g=0) (p k:Nat):(pthG g p k).length <= 360:=by
 have R:=gChk_right h0
 have h1:=flat_len (fun e:Ed=>e.2.2.flatMap fun l=>pthsL g p e l) 12 (g.edges.take k) (fun e he=>by
   have h2:=flat_len (fun l=>pthsL g p e l) 2 e.2.2 (fun l _=>pthsL_len g p e l)
   have h3:=(R.ends e (List.mem_of_mem_take he)).2.2
   omega)
 have h4:=R.eds
 have h5:(g.edges.take k).length <= g.edges.length:=by rw [List.length_take];omega
 unfold pthG
 omega
theorem pthE_len {g:Gr} (p:Nat) {e:Ed} (he:e.2.2.length <= 6) (j:Nat):(pthE g p e j).length <= 12:=by
 have h2:=flat_len (fun l=>pthsL g p e l) 2 (e.2.2.take j) (fun l _=>pthsL_len g p e l)
 have h5:(e.2.2.take j).length <= e.2.2.length:=by rw [List.length_take];omega
 unfold pthE
 omega
set_option maxRecDepth 100000 in
set_option maxHeartbeats 4000000 in
theorem bsPaths_any (g:Gr) (la ea:Option Addr) (lc ec p:Nat) (h0:gChk g=0) (hp3:p=1 \/ p=2 \/ p=3):PathsOk g la ea lc ec p:=by
 intro w hG
 obtain ⟨i0,hi,hz0,hz1,hz2⟩:=info_parts Tryz.infoPath
 obtain ⟨w1,hw1⟩:∃x,x=w.alloc (.cells #[.int .i64 g.hor,.slice la g.lives.length lc,.slice ea g.edges.length ec] 25):=⟨_,rfl⟩
 have B0:GBox w w1 w.heap.size g la ea lc ec:=by rw [hw1];exact gbox_start w g la ea lc ec 25
 have R:=gChk_right h0
 have hed:=R.eds
 have HRt:=hideg R
 have HG:=hideg hG
 have H0:=hideg h0
 have HB1:=hideg B0
 have g0:=B0.c0
 have g2:=B0.c2
 have hw1s:=hw1.symm
 clear hG B0 hw1 R h0
 go_enter Seq.func50,Tryz.ntmps50
 go_wp2_with fail
 clear hw1s
 go_loopw [5,14] (fun u d wr=>∃k:Nat,k <= g.edges.length /\ d= .int .i64 (k:Int) /\ wr.ownsRow w1.heap.size 130 5 u (pthG g p k).length (encPs (pthG g p k)) /\ Below w1.heap.size w1 wr) (fun _ d _=>g.edges.length-(intOf d).toNat)
 case atStart=>exact ⟨0,by omega,by simp,World.ownsRow_nil _ _ _ _,Below.refl _ _⟩
 case round=>
   clear g0 g2
   obtain ⟨k,hk,rfl,hown,hb⟩:=hrel
   have BR:=HB1.out.below hb
   have hol:=pthG_len H0.out p k
   by_cases hkl:k<g.edges.length
   · obtain ⟨b,off,lo,lcap,rfl,hbr,c0,c1,c2,hL⟩:∃b off lo lcap,ea=some ⟨b,off,none⟩ /\ b<w.heap.size /\ w.cell? ⟨b,off+k*3,none⟩=some (.int .i64 g.edges[k].1) /\ w.cell? ⟨b,off+k*3+1,none⟩=some (.int .i64 g.edges[k].2.1) /\ w.cell? ⟨b,off+k*3+2,none⟩=some (.slice lo g.edges[k].2.2.length lcap) /\ LgAt w lo g.edges[k].2.2:=by
       rcases HG.out.ed with h0 | ⟨b,off,rfl,hbr,hc⟩
       · rw [h0] at hkl;simp at hkl
       obtain ⟨c0,c1,lo,lcap,c2,hL,_,_⟩:=hc k hkl
       exact ⟨b,off,lo,lcap,rfl,hbr,c0,c1,c2,hL⟩
     have e0:=(BR.bel.cell (p:=⟨b,off+k*3,none⟩) hbr).trans c0
     have e1:=(BR.bel.cell (p:=⟨b,off+k*3+1,none⟩) hbr).trans c1
     have e2:=(BR.bel.cell (p:=⟨b,off+k*3+2,none⟩) hbr).trans c2
     have HL:=hideg hL
     obtain ⟨hA,hBe,hlen⟩:=HRt.out.ends _ (List.getElem_mem hkl)
     have HS:=hideg (pthG_succ g p hkl)
     generalize g.edges[k]=ed at*
     obtain ⟨wb,hwb⟩:∃x,x=wr.alloc (.cells #[.int .i64 ed.1,.int .i64 ed.2.1,.slice lo ed.2.2.length lcap] 47):=⟨_,rfl⟩
     have hbw:Below wr.heap.size wr wb:=by rw [hwb];exact gal _ _
     obtain ⟨Eb,hEb⟩:∃x,x=wr.heap.size:=⟨_,rfl⟩
     have hE0:wb.heap[Eb]? =some (.cells #[.int .i64 ed.1,.int .i64 ed.2.1,.slice lo ed.2.2.length lcap] 47):=by rw [hwb,hEb];show (wr.heap.push _)[_]? =_;simp
     have f2:wb.cell? ⟨Eb,2,none⟩=some (.slice lo ed.2.2.length lcap):=by simp [World.cell?,hE0]
     have hown0:=ownsRow_below hown hbw
     have hne0:u5.ownBlock≠some Eb:=fun e=>by have:=(hown.lt _ e).2;omega
     have hb0:Below w1.heap.size w1 wb:=hb.trans (hbw.mono hb.size)
     have hwbs:=hwb.symm
     have hEbs:=hEb.symm
     obtain ⟨out,hout⟩:∃o,o=pthG g p k:=⟨_,rfl⟩
     rw [<- hout] at hown0 hol HS
     have g2:=BR.c2
     clear hown hwb hEb c0 c1 c2 hL BR hb hbw
     go_wp2_with fail
     clear hwbs e0 e1 e2 g2
     go_loopw [5,21] (fun u i ws=>∃j:Nat,j <= ed.2.2.length /\ i= .int .i64 (j:Int) /\ ws.ownsRow w1.heap.size 130 5 u (out++pthE g p ed j).length (encPs (out++pthE g p ed j)) /\ Below w1.heap.size w1 ws /\ ws.heap[Eb]? =some (.cells #[.int .i64 ed.1,.int .i64 ed.2.1,.slice lo ed.2.2.length lcap] 47) /\ u.ownBlock≠some Eb) (fun _ i _=>ed.2.2.length-(intOf i).toNat)
     case atStart=>exact ⟨0,Nat.zero_le _,rfl,by simpa [pthE] using hown0,hb0,hE0,hne0⟩
     case round=>
       clear hown0 hb0 hE0 hne0 f2
       obtain ⟨j,hj,rfl,hown,hb,hEd,hne⟩:=hrel
       have BR:=HB1.out.below hb
       have hoe:=pthE_len (g:=g) p hlen j
       by_cases hjl:j<ed.2.2.length
       · obtain ⟨b2,off2,rfl,hb2,l0,l1,l2,l3⟩:∃b2 off2,lo=some ⟨b2,off2,none⟩ /\ b2<w.heap.size /\ w.cell? ⟨b2,off2+j*4,none⟩=some (.int .i64 ed.2.2[j].1) /\ w.cell? ⟨b2,off2+j*4+1,none⟩=some (.int .i64 ed.2.2[j].2.1) /\ w.cell? ⟨b2,off2+j*4+2,none⟩=some (.int .i64 ed.2.2[j].2.2.1) /\ w.cell? ⟨b2,off2+j*4+3,none⟩=some (.int .i64 ed.2.2[j].2.2.2):=by
           rcases HL.out with h0 | ⟨b2,off2,rfl,hlt,hc⟩
           · rw [h0] at hjl;simp at hjl
           · have h1:=hc j hjl
             have e:ed.2.2.getD j (0,0,0,0)=ed.2.2[j]:=by rw [List.getD_eq_getElem?_getD,List.getElem?_eq_getElem hjl];rfl
             rw [e] at h1
             exact ⟨b2,off2,rfl,hlt,h1⟩
         have m0:=(BR.bel.cell (p:=⟨b2,off2+j*4,none⟩) hb2).trans l0
         have m1:=(BR.bel.cell (p:=⟨b2,off2+j*4+1,none⟩) hb2).trans l1
         have m2:=(BR.bel.cell (p:=⟨b2,off2+j*4+2,none⟩) hb2).trans l2
         have m3:=(BR.bel.cell (p:=⟨b2,off2+j*4+3,none⟩) hb2).trans l3
         have HES:=hideg (pthE_succ g p ed hjl)
         generalize ed.2.2[j]=l at*
         obtain ⟨wl,hwl⟩:∃x,x=wr.alloc (.cells #[.int .i64 l.1,.int .i64 l.2.1,.int .i64 l.2.2.1,.int .i64 l.2.2.2] 69):=⟨_,rfl⟩
         have hbl:Below wr.heap.size wr wl:=by rw [hwl];exact gal _ _
         have BL:=BR.below hbl
         have hEl:Eb<wr.heap.size:=(Array.getElem?_eq_some_iff.1 hEd).1
         have hEd1:=(hbl.block Eb hEl).trans hEd
         have ga0:=BL.c0
         have ga1:=BL.c1
         have ga2:=BL.c2
         have ge0:wl.cell? ⟨Eb,0,none⟩=some (.int .i64 ed.1):=by simp [World.cell?,hEd1]
         have ge1:wl.cell? ⟨Eb,1,none⟩=some (.int .i64 ed.2.1):=by simp [World.cell?,hEd1]
         have ge2:wl.cell? ⟨Eb,2,none⟩=some (.slice (some ⟨b2,off2,none⟩) ed.2.2.length lcap):=by simp [World.cell?,hEd1]
         have gl0:wl.cell? ⟨wr.heap.size,0,none⟩=some (.int .i64 l.1):=by rw [hwl];exact cell_newP rfl rfl
         have gl1:wl.cell? ⟨wr.heap.size,1,none⟩=some (.int .i64 l.2.1):=by rw [hwl];exact cell_newP rfl rfl
         have gl2:wl.cell? ⟨wr.heap.size,2,none⟩=some (.int .i64 l.2.2.1):=by rw [hwl];exact cell_newP rfl rfl
         have gl3:wl.cell? ⟨wr.heap.size,3,none⟩=some (.int .i64 l.2.2.2):=by rw [hwl];exact cell_newP rfl rfl
         have hcl:=pathOf_any g la (some ⟨b,off,none⟩) (some ⟨b2,off2,none⟩) lc ec ed.2.2.length lcap p ed l wl (HG.out.below BL.bel) hA hBe hp3
         have hwls:=hwl.symm
         have HEd:=hideg hEd
         have HEl:=hideg hEl
         have HNe:=hideg hne
         have HBl:=hideg hbl
         have HBb:=hideg hb
         have HBR:=hideg BR
         clear hEd hEl hne hEd1 hbl hb BL BR hwl
         go_wp2_with fail
         refine hcl.mono ?_
         rintro e w3 ⟨rfl,hb3⟩
         have hEd:=HEd.out
         have hEl:=HEl.out
         have hne:=HNe.out
         have hbl:=HBl.out
         have hb:=HBb.out
         have HPT:Hid (pthsL g p ed l=if (pthOf g p ed l).2.2.2.1 <= (pthOf g p ed l).2.2.1 then [] else if p=3 then [pthOf g p ed l,((pthOf g p ed l).2.1,(pthOf g p ed l).1,(pthOf g p ed l).2.2)] else [pthOf g p ed l]):=rfl
         generalize pthOf g p ed l=π at*
         generalize pthsL g p ed l=nx at*
         obtain ⟨w4,hw4⟩:∃x,x=w3.alloc (.cells #[.int .i64 π.1,.int .i64 π.2.1,.int .i64 π.2.2.1,.int .i64 π.2.2.2.1,.int .i64 π.2.2.2.2] 130):=⟨_,rfl⟩
         have hb4:Below wr.heap.size wr w4:=by rw [hw4];exact ptg (ptg hbl hb3) (gal w3 _)
         have hP4:w4.heap[w3.heap.size]? =some (.cells #[.int .i64 π.1,.int .i64 π.2.1,.int .i64 π.2.2.1,.int .i64 π.2.2.2.1,.int .i64 π.2.2.2.2] 130):=by rw [hw4];show (w3.heap.push _)[_]? =_;simp
         have x0:w4.cell? ⟨w3.heap.size,0,none⟩=some (.int .i64 π.1):=by simp [World.cell?,hP4]
         have x1:w4.cell? ⟨w3.heap.size,1,none⟩=some (.int .i64 π.2.1):=by simp [World.cell?,hP4]
         have x2:w4.cell? ⟨w3.heap.size,2,none⟩=some (.int .i64 π.2.2.1):=by simp [World.cell?,hP4]
         have x3:w4.cell? ⟨w3.heap.size,3,none⟩=some (.int .i64 π.2.2.2.1):=by simp [World.cell?,hP4]
         have x4:w4.cell? ⟨w3.heap.size,4,none⟩=some (.int .i64 π.2.2.2.2):=by simp [World.cell?,hP4]
         have hs3:wr.heap.size <= w3.heap.size:=(ptg hbl hb3).size
         have hs4:w4.heap.size=w3.heap.size+1:=by rw [hw4];simp
         have o1:=ownsRow_below hown hb4
         have o2:Below w1.heap.size w1 w4:=hb.trans (hb4.mono hb.size)
         have hE4:=(hb4.block Eb hEl).trans hEd
         have hul:=fun z (e:u5.ownBlock=some z)=>(hown.lt z e).2
         have hw4s:=hw4.symm
         clear hcl hwls ga0 ga1 ga2 ge0 ge1 ge2 gl0 gl1 gl2 gl3 m0 m1 m2 m3 l0 l1 l2 l3 hw4 hown hb hEd hbl hb3 hb4
         by_cases hle:π.2.2.2.1 <= π.2.2.1
         · have hnx:nx=[]:=by rw [HPT.out,if_pos hle]
           have hd:decide (π.2.2.2.1 <= π.2.2.1)=true:=by simpa using hle
           have HO:=hideg o1
           have HO2:=hideg o2
           have HE4:=hideg hE4
           have HHS:=hideg HES.out
           clear o1 o2 hE4
           unfold ptV
           go_wp2_with fail
           exact ⟨⟨j+1,by omega,by go_num,by rw [HES.out,hnx,List.append_nil];exact HO.out,HO2.out,HE4.out,HNe.out⟩,by simp [intOf];omega⟩
         · have hd:decide (π.2.2.2.1 <= π.2.2.1)=false:=by simpa using hle
           have hs5:=o2.size
           have hll:(out++pthE g p ed j).length <= 400:=by rw [List.length_append];omega
           have HBg:Hid (∀(o:Obj) (w5:World),(w4.alloc o).grownBy w5 u5.ownBlock -> Below w1.heap.size w1 w5):=fun o w5 hgr=>(o2.alloc o2.size o).grown hgr (by have:=o2.size;simp at this ⊢;omega) (fun k hk=>(o1.lt k hk).1)
           have HGe:Hid (∀(o:Obj) (w5:World),(w4.alloc o).grownBy w5 u5.ownBlock -> ∀q,q<w4.heap.size -> u5.ownBlock≠some q -> w5.heap[q]? =w4.heap[q]?):=fun o w5 hgr q hq hn=>(hgr.block q (by simp;omega) (Ne.symm hn)).trans ((gal w4 o).block q hq)
           have HEn:Hid (Eb<w4.heap.size):=by show _<_;omega
           have HPb:Hid (u5.ownBlock≠some w3.heap.size):=fun e=>by have:=hul _ e;omega
           have HO:=hideg o1
           have HE4:=hideg hE4
           have HP4:=hideg hP4
           clear o1 o2 hE4 hP4 hul hEl hne
           by_cases p3:p=3
           · have p3i:((p:Int)==3)=true:=by simp;omega
             have hnx:nx=[π,(π.2.1,π.1,π.2.2)]:=by rw [HPT.out,if_neg hle,if_pos p3]
             clear p3
             have hs43:w3.heap.size<w4.heap.size:=by omega
             have hs1r:=HBb.out.size
             unfold ptV
             go_wp2_with (at_builtin;refine stopHereB ?_)
             refine hideg ?_
             refine wpList_append_own_at _ rfl _ _ 101 rfl w1.heap.size 130 i0 _ 5 40 ((Seq.pu 101).trans Tryz.underlying101) hi hz0 hz1 hz2 rfl (by decide) _ _ _ rfl (World.ownsRow.alloc (w:=w4) HO.out _) ⟨w3.heap.size+1,0,none⟩ 1 1 [.int .i64 π.1,.int .i64 π.2.1,.int .i64 π.2.2.1,.int .i64 π.2.2.2.1,.int .i64 π.2.2.2.2] rfl rfl (cells_five_new _ _ _ _ _ _ _ _ hs4.symm) (by intro u hu;simp at hu;rcases hu with rfl | rfl | rfl | rfl | rfl<;>rfl) (by unfold maxLen;omega) (by omega) (by simp;omega) ?_
             intro v' w5 hown5 hgrow _ hat
             have hb5:=HBg.out _ _ hgrow
             have hE5:=(HGe.out _ _ hgrow Eb HEn.out HNe.out).trans HE4.out
             have hP5:=(HGe.out _ _ hgrow w3.heap.size hs43 HPb.out).trans HP4.out
             have hn5:v'.ownBlock≠some Eb:=fun e=>by
               rcases hat with h | h
               · exact HNe.out (h.symm.trans e)
               · rw [h] at e;simp at e;have:=HEn.out;omega
             have hq5:v'.ownBlock≠some w3.heap.size:=fun e=>by
               rcases hat with h | h
               · exact HPb.out (h.symm.trans e)
               · rw [h] at e;simp at e;omega
             have hEP:w3.heap.size≠Eb:=fun e=>by rw [e] at hP5;rw [hP5] at hE5;simp at hE5
             have hs35:w3.heap.size<w5.heap.size:=(Array.getElem?_eq_some_iff.1 hP5).1
             have y0:w5.cell? ⟨w3.heap.size,0,none⟩=some (.int .i64 π.1):=by simp [World.cell?,hP5]
             have y1:w5.cell? ⟨w3.heap.size,1,none⟩=some (.int .i64 π.2.1):=by simp [World.cell?,hP5]
             have yf:∀q,w5.frozen? ⟨w3.heap.size,q,none⟩=false:=fun q=>by simp [World.frozen?,hP5]
             obtain ⟨w6,hw6⟩:∃x,x=(w5.setCell ⟨w3.heap.size,0,none⟩ (.int .i64 π.2.1)).setCell ⟨w3.heap.size,1,none⟩ (.int .i64 π.1):=⟨_,rfl⟩
             have hP6:w6.heap[w3.heap.size]? =some (.cells #[.int .i64 π.2.1,.int .i64 π.1,.int .i64 π.2.2.1,.int .i64 π.2.2.2.1,.int .i64 π.2.2.2.2] 130):=by rw [hw6];exact Low.setCell_this (Low.setCell_this hP5)
             have hs6:w6.heap.size=w5.heap.size:=by rw [hw6];simp [World.setCell]
             have R6:=ownsRow_setBox (j:=1) (u:= .int .i64 π.1) (ownsRow_setBox (j:=0) (u:= .int .i64 π.2.1) hown5 hq5) hq5
             rw [<- hw6] at R6
             have hb6:Below w1.heap.size w1 w6:=by rw [hw6];exact (hb5.setCell (p:=⟨w3.heap.size,0,none⟩) (by simp only;omega) _).setCell (p:=⟨w3.heap.size,1,none⟩) (by simp only;omega) _
             have hE6:w6.heap[Eb]? =some (.cells #[.int .i64 ed.1,.int .i64 ed.2.1,.slice (some ⟨b2,off2,none⟩) ed.2.2.length lcap] 47):=by rw [hw6,Low.setCell_other (by exact hEP),Low.setCell_other (by exact hEP)];exact hE5
             have z0:w6.cell? ⟨w3.heap.size,0,none⟩=some (.int .i64 π.2.1):=by simp [World.cell?,hP6]
             have z1:w6.cell? ⟨w3.heap.size,1,none⟩=some (.int .i64 π.1):=by simp [World.cell?,hP6]
             have z2:w6.cell? ⟨w3.heap.size,2,none⟩=some (.int .i64 π.2.2.1):=by simp [World.cell?,hP6]
             have z3:w6.cell? ⟨w3.heap.size,3,none⟩=some (.int .i64 π.2.2.2.1):=by simp [World.cell?,hP6]
             have z4:w6.cell? ⟨w3.heap.size,4,none⟩=some (.int .i64 π.2.2.2.2):=by simp [World.cell?,hP6]
             have hs7:=hb6.size
             have hw6s:=hw6.symm
             have HR6:=hideg R6
             have HB6:=hideg hb6
             have HE6:=hideg hE6
             have HN5:=hideg hn5
             have HE6l:Hid (Eb<w6.heap.size):=(Array.getElem?_eq_some_iff.1 hE6).1
             clear hgrow hat hown5 hb5 hE5 hP5 hn5 hq5 hEP x0 x1 x2 x3 x4 hw4s hw6 hP6 R6 hb6 hE6
             go_wp2_with (at_builtin;refine stopHereB ?_)
             refine hideg ?_
             refine wpList_append_own_at _ rfl _ _ 101 rfl w1.heap.size 130 i0 _ 5 40 ((Seq.pu 101).trans Tryz.underlying101) hi hz0 hz1 hz2 rfl (by decide) _ _ _ rfl (World.ownsRow.alloc (w:=w6) HR6.out _) ⟨w5.heap.size,0,none⟩ 1 1 [.int .i64 π.2.1,.int .i64 π.1,.int .i64 π.2.2.1,.int .i64 π.2.2.2.1,.int .i64 π.2.2.2.2] rfl rfl (cells_five_new _ _ _ _ _ _ _ _ hs6.symm) (by intro u hu;simp at hu;rcases hu with rfl | rfl | rfl | rfl | rfl<;>rfl) (by unfold maxLen;omega) (by omega) (by simp;omega) ?_
             intro v7 w7 hown7 hgrow7 _ hat7
             have hb7:Below w1.heap.size w1 w7:=(HB6.out.alloc HB6.out.size _).grown hgrow7 (by have:=HB6.out.size;simp at this ⊢;omega) (fun k hk=>(HR6.out.lt k hk).1)
             have hE7:=((hgrow7.block Eb (by simp;have:=HE6l.out;omega) (Ne.symm HN5.out)).trans ((gal w6 _).block Eb HE6l.out)).trans HE6.out
             have hn7:v7.ownBlock≠some Eb:=fun e=>by
               rcases hat7 with h | h
               · exact HN5.out (h.symm.trans e)
               · rw [h] at e;simp at e;have:=HE6l.out;omega
             have R7:w7.ownsRow w1.heap.size 130 5 v7 (out++pthE g p ed (j+1)).length (encPs (out++pthE g p ed (j+1))):=by
               rw [HES.out,hnx,<- List.append_assoc,show ([π,(π.2.1,π.1,π.2.2)]:List Pt)=[π]++[(π.2.1,π.1,π.2.2)] from rfl,<- List.append_assoc,encPs_append,encPs_append,List.length_append,List.length_append];exact hown7
             have HF:=hideg (And.intro R7 (And.intro hb7 (And.intro hE7 hn7)))
             clear hgrow7 hat7 hown7 R7 hb7 hE7 hn7 z0 z1 z2 z3 z4 hw6s hs4 hs6 hs7
             go_wp2_with fail
             exact ⟨⟨j+1,by omega,by go_num,HF.out.1,HF.out.2.1,HF.out.2.2.1,HF.out.2.2.2⟩,by simp [intOf];omega⟩
           · have p3i:((p:Int)==3)=false:=by simp;omega
             have hnx:nx=[π]:=by rw [HPT.out,if_neg hle,if_neg p3]
             unfold ptV
             go_wp2_with (at_builtin;refine stopHereB ?_)
             refine hideg ?_
             refine wpList_append_own_at _ rfl _ _ 101 rfl w1.heap.size 130 i0 _ 5 40 ((Seq.pu 101).trans Tryz.underlying101) hi hz0 hz1 hz2 rfl (by decide) _ _ _ rfl (World.ownsRow.alloc (w:=w4) HO.out _) ⟨w3.heap.size+1,0,none⟩ 1 1 [.int .i64 π.1,.int .i64 π.2.1,.int .i64 π.2.2.1,.int .i64 π.2.2.2.1,.int .i64 π.2.2.2.2] rfl rfl (cells_five_new _ _ _ _ _ _ _ _ hs4.symm) (by intro u hu;simp at hu;rcases hu with rfl | rfl | rfl | rfl | rfl<;>rfl) (by unfold maxLen;omega) (by omega) (by simp;omega) ?_
             intro v' w5 hown5 hgrow _ hat
             have hb5:=HBg.out _ _ hgrow
             have R5:w5.ownsRow w1.heap.size 130 5 v' (out++pthE g p ed (j+1)).length (encPs (out++pthE g p ed (j+1))):=by rw [HES.out,hnx,<- List.append_assoc,encPs_append,List.length_append];exact hown5
             have hE5:=(HGe.out _ _ hgrow Eb HEn.out HNe.out).trans HE4.out
             have hn5:v'.ownBlock≠some Eb:=fun e=>by
               rcases hat with h | h
               · exact HNe.out (h.symm.trans e)
               · rw [h] at e;simp at e;have:=HEn.out;omega
             have HF:=hideg (And.intro R5 (And.intro hb5 (And.intro hE5 hn5)))
             clear hgrow hat hown5 R5 hb5 hE5 hn5 x0 x1 x2 x3 x4 hw4s
             go_wp2_with fail
             exact ⟨⟨j+1,by omega,by go_num,HF.out.1,HF.out.2.1,HF.out.2.2.1,HF.out.2.2.2⟩,by simp [intOf];omega⟩
       · have hjn:j=ed.2.2.length:=by omega
         subst hjn
         rw [<- HS.out] at hown
         clear BR
         go_wp2
         go_roundw
         case rel=>exact ⟨k+1,by omega,by go_num,hown,hb⟩
         case measure=>simp [intOf];omega
   · have hke:k=g.edges.length:=by omega
     subst hke
     rw [pthG_all] at hown
     have R:=owns_base2 hown HB1.out.bel.size
     have hbF:=BR.bel
     clear hown BR
     go_wp2
     go_ret
     exact ⟨_,rfl,R,hbF⟩
theorem enc3_six (arcs:List Ac) (k:Nat) (hk:k<arcs.length):enc3 (bothW (arcs.take (k+1)))=enc3 (bothW (arcs.take k))++[.int .i64 arcs[k].1,.int .i64 arcs[k].2.1,.int .i64 arcs[k].2.2,.int .i64 arcs[k].2.1,.int .i64 arcs[k].1,.int .i64 arcs[k].2.2]:=by
 rw [both_take arcs k hk,enc3_append];rfl
set_option maxRecDepth 100000 in
set_option maxHeartbeats 4000000 in
theorem bothWays_any (bo:Option Addr) (cb:Nat) (arcs:List Ac) (w:World) (hR:PcAt w bo arcs) (h30:arcs.length <= 30):
   Calls Seq.prog 30 #[.slice bo arcs.length cb] w fun e w' =>∃v,e= .returned v /\ w'.ownsRow w.heap.size 73 3 v (bothW arcs).length (enc3 (bothW arcs)) /\ Below w.heap.size w w':=by
 obtain ⟨ia,hia,ha0,ha1,ha2⟩:=info_parts Tryz.infoArc
 go_enter Seq.func30,Tryz.ntmps30
 go_wp2
 go_loopw [3,5,8] (fun v _ i wr=>∃k:Nat,k <= arcs.length /\ i= .int .i64 k /\ wr.ownsRow w.heap.size 73 3 v (k*2) (enc3 (bothW (arcs.take k))) /\ Below w.heap.size w wr) (fun _ _ i _=>arcs.length-(intOf i).toNat)
 case atStart=>exact ⟨0,Nat.zero_le _,rfl,World.ownsRow_nil _ _ _ _,Below.refl _ _⟩
 case round=>
   obtain ⟨k,hk,rfl,hown,hb⟩:=hrel
   by_cases hlt:k<arcs.length
   · rcases hR.below hb with h0 | ⟨b,off,rfl,hbr,hc⟩
     · subst h0;simp at hlt
     obtain ⟨c0,c1,c2⟩:=PcAt.at3 hlt hc
     have hsz:=hb.size
     have HE:=hidep (enc3_six arcs k hlt)
     clear hc hR
     generalize arcs[k].1=x at*
     generalize arcs[k].2.1=y at*
     generalize arcs[k].2.2=z at*
     go_wp2_with (at_builtin;refine wpList_append_own _ rfl _ _ 32 rfl w.heap.size 73 ia _ 3 24 ((Seq.pu 32).trans Tryz.underlying32) hia ha0 ha1 ha2 rfl (by decide) _ (k*2) (enc3 (bothW (arcs.take k))) rfl ((hown.alloc _).alloc _) ⟨wr.heap.size+1,0,none⟩ 2 2 [.int .i64 x,.int .i64 y,.int .i64 z,.int .i64 y,.int .i64 x,.int .i64 z] rfl rfl ?c1 ?c2 (by unfold maxLen;omega) (by omega) (by simp;omega) ?_)
     case c1=>exact World.news_of_block (cs:=#[.int .i64 x,.int .i64 y,.int .i64 z,.int .i64 y,.int .i64 x,.int .i64 z]) (t:=73) (fr:=(0,0)) (by simpa using heap_alloc_new (wr.alloc _) _)
     case c2=>intro u hu;simp at hu;rcases hu with rfl | rfl | rfl | rfl | rfl | rfl<;>rfl
     intro v1 w1 hown' hgrow hnil
     have R:w1.ownsRow w.heap.size 73 3 v1 ((k+1)*2) (enc3 (bothW (arcs.take (k+1)))):=by
       rw [HE.out,Nat.add_mul,Nat.one_mul];exact hown'
     have hb' :Below w.heap.size w w1:=((hb.alloc hsz _).alloc (by simp;omega) _).grown hgrow (by simp;omega) (fun j hj=>(hown.lt j hj).1)
     clear hown hown' hgrow hnil
     go_wp2
     go_roundw
     case rel=>exact ⟨k+1,by omega,by go_num,R,hb'⟩
     case measure=>simp [intOf];omega
   · have hkl:k=arcs.length:=by omega
     have HO:Hid (wr.ownsRow w.heap.size 73 3 u3 (bothW arcs).length (enc3 (bothW arcs))):=by
       have:=hown
       rw [hkl,List.take_length] at this
       rw [both_length];exact this
     clear hown
     go_wp2
     go_ret
     exact ⟨_,rfl,HO.out,hb⟩
theorem hops1_any (a:Ac) (w:World):Calls Seq.prog 33 (#[.agg #[.int .i64 a.1,.int .i64 a.2.1,.int .i64 a.2.2]]++#[]) w fun e w' =>e= .returned (.int .i64 1) /\ Below w.heap.size w w':=by
 have HB:=hidep (pal w)
 rw [Array.append_empty]
 go_enter Seq.func33,Tryz.ntmps33
 go_wp2
 go_ret
 exact ⟨rfl,HB.out _⟩
theorem costs1_any (a:Ac) (w:World):Calls Seq.prog 34 (#[.agg #[.int .i64 a.1,.int .i64 a.2.1,.int .i64 a.2.2]]++#[]) w fun e w' =>e= .returned (.int .i64 a.2.2) /\ Below w.heap.size w w':=by
 have HB:=hidep (pal w)
 rw [Array.append_empty]
 go_enter Seq.func34,Tryz.ntmps34
 go_wp2
 go_ret
 exact ⟨rfl,HB.out _⟩
theorem labels1_any (v:Nat) (w:World):Calls Seq.prog 28 (#[.int .i64 v]++#[]) w fun e w' =>e= .returned (.int .i64 v) /\ Below w.heap.size w w':=by
 rw [Array.append_empty]
 go_enter Seq.func28,Tryz.ntmps28
 go_wp2
 go_ret
 exact ⟨rfl,Below.refl _ _⟩
theorem labels2_any (a:Ac) (w:World):Calls Seq.prog 31 (#[.agg #[.int .i64 a.1,.int .i64 a.2.1,.int .i64 a.2.2]]++#[]) w fun e w' =>e= .returned (.int .i64 0) /\ Below w.heap.size w w':=by
 have HB:=hidep (pal w)
 rw [Array.append_empty]
 go_enter Seq.func31,Tryz.ntmps31
 go_wp2
 go_ret
 exact ⟨rfl,HB.out _⟩
theorem leastFrom1_any (v:Nat) (fr:Int) (b:Nat) (w:World) (hc:w.cell? ⟨b,0,none⟩=some (.int .i64 fr)):Calls Seq.prog 62 (#[.int .i64 v]++#[.pointer (some ⟨b,0,none⟩)]) w fun e w' =>e= .returned (.int .i64 (fromF fr v)) /\ Below w.heap.size w w':=by
 have e0:(#[.int .i64 (v:Int)]++#[.pointer (some ⟨b,0,none⟩)]:Array Value)=#[.int .i64 (v:Int),.pointer (some ⟨b,0,none⟩)]:=rfl
 rw [e0]
 by_cases h:(v:Int)=fr
 · have HC:Hid (fromF fr v=0):=by show _=_;unfold fromF;rw [if_pos h]
   have hd:((v:Int)==fr)=true:=by simpa using h
   clear h
   go_enter Seq.func62,Tryz.ntmps62
   go_wp2
   go_ret
   exact ⟨retp_int HC.out.symm,Below.refl _ _⟩
 · have HC:Hid (fromF fr v=1099511627776):=by show _=_;unfold fromF;rw [if_neg h]
   have hd:((v:Int)==fr)=false:=by simpa using h
   clear h
   go_enter Seq.func62,Tryz.ntmps62
   go_wp2
   go_ret
   exact ⟨retp_int HC.out.symm,Below.refl _ _⟩
def ToldZ (w w' :World) (e:Ending) (n:Int) (r:List Int):Prop:=
 ∃v,e= .returned (.tuple #[v,.int .i64 n]) /\ w'.ownsRow w.heap.size 3 1 v r.length (r.map (Value.int .i64)) /\ Below w.heap.size w w'
def LeastPl (al:List Bool) (arcs:List Ac) (fr:Int) (p:Ac -> Int) (n:Int) (r:List Int):Prop:=
 (¬shot al arcs=0 /\ n=shot al arcs /\ r=[]) \/ (shot al arcs=0 /\ vtx al.length fr=false /\ n=4 /\ r=[]) \/ (shot al arcs=0 /\ vtx al.length fr=true /\ n=0 /\ Best (firstL al (fromF fr)) arcs p r)
theorem shot_bad {al:List Bool} {arcs:List Ac} (h:¬shot al arcs=0):∃n,shot al arcs=n /\ (n=1 \/ n=2 \/ n=4):=by
 unfold shot at h ⊢
 split
 · exact ⟨2,rfl,.inr (.inl rfl)⟩
 · split
   · split
     · rename_i h1 h2 h3;rw [if_neg h1,if_pos h2,if_pos h3] at h;exact absurd rfl h
     · exact ⟨1,rfl,.inl rfl⟩
   · exact ⟨4,rfl,.inr (.inr rfl)⟩
set_option maxRecDepth 100000 in
set_option maxHeartbeats 4000000 in
theorem leastFrom_any (g:Nat) (p:Ac -> Int) (eg:∀args w,(callFunc g args).run Seq.prog w= .ok (.enter g args) w)
   (hf:∀(a:Ac) wq,Calls Seq.prog g (#[.agg #[.int .i64 a.1,.int .i64 a.2.1,.int .i64 a.2.2]]++#[]) wq fun e w' =>e= .returned (.int .i64 (p a)) /\ Below wq.heap.size wq w')
   (ao bo:Option Addr) (ca cb:Nat) (al:List Bool) (arcs:List Ac) (fr:Int) (w:World) (hA:BsAt w ao al) (hR:PcAt w bo arcs) (hp:shot al arcs=0 -> ∀a∈arcs,0 <= p a /\ p a <= 1000):
   Calls Seq.prog 32 #[.agg #[.slice ao al.length ca,.slice bo arcs.length cb],.int .i64 fr,.func (.func g) #[] #[]] w fun e w' =>∃n r,LeastPl al arcs fr p n r /\ ToldZ w w' e n r:=by
 have HB:Hid (∀o o',Below w.heap.size w ((w.alloc o).alloc o')):=fun o o' =>ptw (pal w o) (pal _ o')
 have hC:=fun o o' =>plCheck_any ao bo ca cb al arcs ((w.alloc o).alloc o') (hA.below (ptw (pal w o) (pal _ o'))) (hR.below (ptw (pal w o) (pal _ o')))
 by_cases h0:¬shot al arcs=0
 · obtain ⟨n,en,hn⟩:=shot_bad h0
   have HC:Hid (LeastPl al arcs fr p n []):= .inl ⟨h0,en.symm,rfl⟩
   simp only [en] at hC
   clear h0 en hA hR
   have hne:(n !=0)=true:=by rcases hn with rfl | rfl | rfl<;>rfl
   go_enter Seq.func32,Tryz.ntmps32
   go_wp2_with fail
   refine (hC _ _).mono ?_
   rintro e w1 ⟨rfl,hb1⟩
   have HB1:=hidep (ptw (HB.out _ _) hb1)
   clear hC hb1
   go_wp2
   go_ret2
   exact ⟨_,_,HC.out,_,rfl,World.ownsRow_nil _ _ _ _,HB1.out⟩
 rw [Decidable.not_not] at h0
 have S:=shot_right h0
 have HS0:=hidep h0
 have HP:=hidep (hp h0)
 simp only [h0] at hC
 clear h0 hp
 cases hv:vtx al.length fr with
 | false=>
   have HC:Hid (LeastPl al arcs fr p 4 []):= .inr (.inl ⟨HS0.out,hv,rfl,rfl⟩)
   have h1:=fun W=>isVertex_any ao bo al.length ca arcs.length cb fr W
   simp only [hv] at h1
   clear hv hA hR S
   go_enter Seq.func32,Tryz.ntmps32
   go_wp2_with fail
   refine (hC _ _).mono ?_
   rintro e w1 ⟨rfl,hb1⟩
   have hz:=hb1.size
   simp only [World.size_alloc] at hz
   have q0:w1.cell? ⟨w.heap.size,0,none⟩=some (.slice ao al.length ca):=by rw [hb1.cell (p:=⟨w.heap.size,0,none⟩) (by simp;omega),(pal _ _).cell (p:=⟨w.heap.size,0,none⟩) (by simp)];simp
   have q1:w1.cell? ⟨w.heap.size,1,none⟩=some (.slice bo arcs.length cb):=by rw [hb1.cell (p:=⟨w.heap.size,1,none⟩) (by simp;omega),(pal _ _).cell (p:=⟨w.heap.size,1,none⟩) (by simp)];simp
   have q2:w1.cell? ⟨w.heap.size+1,0,none⟩=some (.int .i64 fr):=by rw [hb1.cell (p:=⟨w.heap.size+1,0,none⟩) (by simp)];simp
   have HB1:=hidep (ptw (HB.out _ _) hb1)
   clear hC hb1
   go_wp2_with (go_at_call 61;refine (h1 _).mono ?_;rintro e w2 ⟨rfl,hb2⟩)
   go_ret2
   exact ⟨_,_,HC.out,_,rfl,World.ownsRow_nil _ _ _ _,ptw HB1.out hb2⟩
 | true=>
   have HV:=hidep hv
   have h1:=fun W=>isVertex_any ao bo al.length ca arcs.length cb fr W
   simp only [hv] at h1
   clear hv
   have eg1:∀args w,(callFunc 62 args).run Seq.prog w= .ok (.enter 62 args) w:=fun args w=>rfl
   go_enter Seq.func32,Tryz.ntmps32
   go_wp2_with fail
   refine (hC _ _).mono ?_
   rintro e w1 ⟨rfl,hb1⟩
   have hz:=hb1.size
   simp only [World.size_alloc] at hz
   have q0:w1.cell? ⟨w.heap.size,0,none⟩=some (.slice ao al.length ca):=by rw [hb1.cell (p:=⟨w.heap.size,0,none⟩) (by simp;omega),(pal _ _).cell (p:=⟨w.heap.size,0,none⟩) (by simp)];simp
   have q1:w1.cell? ⟨w.heap.size,1,none⟩=some (.slice bo arcs.length cb):=by rw [hb1.cell (p:=⟨w.heap.size,1,none⟩) (by simp;omega),(pal _ _).cell (p:=⟨w.heap.size,1,none⟩) (by simp)];simp
   have q2:w1.cell? ⟨w.heap.size+1,0,none⟩=some (.int .i64 fr):=by rw [hb1.cell (p:=⟨w.heap.size+1,0,none⟩) (by simp)];simp
   have HB1:=hidep (ptw (HB.out _ _) hb1)
   clear hC hb1
   go_wp2_with fail
   refine (h1 _).mono ?_
   rintro e w2 ⟨rfl,hb2⟩
   have hz2:=hb2.size
   have r0:=(hb2.cell (p:=⟨w.heap.size,0,none⟩) (by show w.heap.size<_;omega)).trans q0
   have r1:=(hb2.cell (p:=⟨w.heap.size,1,none⟩) (by show w.heap.size<_;omega)).trans q1
   have r2:=(hb2.cell (p:=⟨w.heap.size+1,0,none⟩) (by show w.heap.size+1<_;omega)).trans q2
   have HB2:=hidep (ptw HB1.out hb2)
   have hl2:w.heap.size+1<w2.heap.size:=by omega
   have hOf:=ofAlive_any 62 #[.pointer (some ⟨w.heap.size+1,0,none⟩)] (fromF fr) eg1 ao bo ca arcs.length cb al w2 (hA.below HB2.out) S.nv (fun v wq _ hq=>leastFrom1_any v fr _ wq ((hq.cell (p:=⟨w.heap.size+1,0,none⟩) hl2).trans r2))
   clear h1 hb2 q0 q1 q2
   go_wp2_with fail
   refine hOf.mono ?_
   rintro e w3 ⟨gb,rfl,Z3,hb3⟩
   have hz3:=hb3.size
   have s1:=(hb3.cell (p:=⟨w.heap.size,1,none⟩) (by show w.heap.size<_;omega)).trans r1
   have HB3:=hidep (ptw HB2.out hb3)
   have hgl:=World.ownsRow.lt Z3 gb rfl
   have F:Fine (firstL al (fromF fr)) arcs p:=S.fine (fun v _=>fromF_bounds fr v) HP.out
   have hSp:=spread_any g #[] p eg w2.heap.size gb al.length bo cb (firstL al (fromF fr)) (firstL al (fromF fr)) arcs w3 Z3 (hR.below HB3.out) (fun h0 b off e h=>by
     subst h e
     have:=hR.lt h0
     omega) F (mid_start _ _ _) (firstL_length _ _) (Nat.le_trans S.na (by decide)) (fun a _ wq=>hf a wq)
   clear hOf r0 r1 r2
   go_wp2_with fail
   refine hSp.mono ?_
   rintro e w4 ⟨rfl,z,hBest,Z4,hg4⟩
   have HC:Hid (LeastPl al arcs fr p 0 z):= .inr (.inr ⟨HS0.out,HV.out,rfl,hBest⟩)
   have hzl:=Z4.len
   have HB4:=hidep (HB3.out.grown hg4 HB3.out.size (fun k hk=>by cases hk;omega))
   have HZ4:Hid (w4.ownsRow w.heap.size 3 1 (.slice (some ⟨gb,0,none⟩) al.length al.length) z.length (z.map (Value.int .i64))):=by
     show World.ownsRow _ _ _ _ _ _ _
     rw [hzl]
     exact owns_base2 Z4 (by omega)
   clear hSp hg4 Z4 Z3
   go_wp2
   go_ret2
   exact ⟨_,_,HC.out,_,rfl,HZ4.out,HB4.out⟩
def LabelsIs (al:List Bool) (arcs:List Ac) (n:Int) (r:List Int):Prop:=
 (¬shot al arcs=0 /\ n=shot al arcs /\ r=[]) \/ (shot al arcs=0 /\ n=0 /\ Best (firstL al (fun v=>v)) (bothW arcs) (fun _=>0) r)
set_option maxRecDepth 100000 in
theorem Hops_any (ao bo:Option Addr) (ca cb:Nat) (al:List Bool) (arcs:List Ac) (fr:Int) (w:World) (hA:BsAt w ao al) (hR:PcAt w bo arcs):
   Calls Seq.prog 9 #[.agg #[.slice ao al.length ca,.slice bo arcs.length cb],.int .i64 fr] w fun e w' =>∃n r,LeastPl al arcs fr (fun _=>1) n r /\ ToldZ w w' e n r:=by
 have HB:=hidep (pal w)
 have h1:=fun o=>leastFrom_any 33 (fun _=>1) (fun args w=>rfl) (fun a wq=>hops1_any a wq) ao bo ca cb al arcs fr (w.alloc o) (hA.below (pal w o)) (hR.below (pal w o)) (fun _ _ _=>by omega)
 clear hA hR
 go_enter Seq.func9,Tryz.ntmps9
 go_wp2_with fail
 refine (h1 _).mono ?_
 rintro e w1 ⟨n,r,hL,v,rfl,ho,hb⟩
 have HL:=hidep hL
 have HO:=hidep (owns_base2 (base':=w.heap.size) ho (by simp))
 have HB1:=hidep (ptw (HB.out _) hb)
 clear hL ho hb h1
 go_wp2
 go_ret2
 exact ⟨_,_,HL.out,_,rfl,HO.out,HB1.out⟩
set_option maxRecDepth 100000 in
theorem Costs_any (ao bo:Option Addr) (ca cb:Nat) (al:List Bool) (arcs:List Ac) (fr:Int) (w:World) (hA:BsAt w ao al) (hR:PcAt w bo arcs):
   Calls Seq.prog 10 #[.agg #[.slice ao al.length ca,.slice bo arcs.length cb],.int .i64 fr] w fun e w' =>∃n r,LeastPl al arcs fr (fun a=>a.2.2) n r /\ ToldZ w w' e n r:=by
 have HB:=hidep (pal w)
 have h1:=fun o=>leastFrom_any 34 (fun a=>a.2.2) (fun args w=>rfl) (fun a wq=>costs1_any a wq) ao bo ca cb al arcs fr (w.alloc o) (hA.below (pal w o)) (hR.below (pal w o)) (fun h=>(shot_right h).cost)
 clear hA hR
 go_enter Seq.func10,Tryz.ntmps10
 go_wp2_with fail
 refine (h1 _).mono ?_
 rintro e w1 ⟨n,r,hL,v,rfl,ho,hb⟩
 have HL:=hidep hL
 have HO:=hidep (owns_base2 (base':=w.heap.size) ho (by simp))
 have HB1:=hidep (ptw (HB.out _) hb)
 clear hL ho hb h1
 go_wp2
 go_ret2
 exact ⟨_,_,HL.out,_,rfl,HO.out,HB1.out⟩
set_option maxRecDepth 100000 in
set_option maxHeartbeats 4000000 in
theorem Labels_any (ao bo:Option Addr) (ca cb:Nat) (al:List Bool) (arcs:List Ac) (w:World) (hA:BsAt w ao al) (hR:PcAt w bo arcs):
   Calls Seq.prog 8 #[.agg #[.slice ao al.length ca,.slice bo arcs.length cb]] w fun e w' =>∃n r,LabelsIs al arcs n r /\ ToldZ w w' e n r:=by
 have HB:=hidep (pal w)
 have hC:=fun o=>plCheck_any ao bo ca cb al arcs (w.alloc o) (hA.below (pal w o)) (hR.below (pal w o))
 by_cases h0:¬shot al arcs=0
 · obtain ⟨n,en,hn⟩:=shot_bad h0
   have HC:Hid (LabelsIs al arcs n []):= .inl ⟨h0,en.symm,rfl⟩
   simp only [en] at hC
   clear h0 en hA hR
   have hne:(n !=0)=true:=by rcases hn with rfl | rfl | rfl<;>rfl
   go_enter Seq.func8,Tryz.ntmps8
   go_wp2_with fail
   refine (hC _).mono ?_
   rintro e w1 ⟨rfl,hb1⟩
   have HB1:=hidep (ptw (HB.out _) hb1)
   clear hC hb1
   go_wp2
   go_ret2
   exact ⟨_,_,HC.out,_,rfl,World.ownsRow_nil _ _ _ _,HB1.out⟩
 rw [Decidable.not_not] at h0
 have S:=shot_right h0
 have HS0:=hidep h0
 simp only [h0] at hC
 clear h0
 have eg1:∀args w,(callFunc 28 args).run Seq.prog w= .ok (.enter 28 args) w:=fun args w=>rfl
 have eg2:∀args w,(callFunc 31 args).run Seq.prog w= .ok (.enter 31 args) w:=fun args w=>rfl
 go_enter Seq.func8,Tryz.ntmps8
 go_wp2_with fail
 refine (hC _).mono ?_
 rintro e w1 ⟨rfl,hb1⟩
 have hz:=hb1.size
 simp only [World.size_alloc] at hz
 have q0:w1.cell? ⟨w.heap.size,0,none⟩=some (.slice ao al.length ca):=by rw [hb1.cell (p:=⟨w.heap.size,0,none⟩) (by simp)];simp
 have q1:w1.cell? ⟨w.heap.size,1,none⟩=some (.slice bo arcs.length cb):=by rw [hb1.cell (p:=⟨w.heap.size,1,none⟩) (by simp)];simp
 have HB1:=hidep (ptw (HB.out _) hb1)
 have hOf:=ofAlive_any 28 #[] (fun v=>v) eg1 ao bo ca arcs.length cb al w1 (hA.below HB1.out) S.nv (fun v wq _ _=>labels1_any v wq)
 clear hC hb1
 go_wp2_with fail
 refine hOf.mono ?_
 rintro e w3 ⟨gb,rfl,Z3,hb3⟩
 have hz3:=hb3.size
 have s1:=(hb3.cell (p:=⟨w.heap.size,1,none⟩) (by show w.heap.size<_;omega)).trans q1
 have HB3:=hidep (ptw HB1.out hb3)
 have hgl:=World.ownsRow.lt Z3 gb rfl
 have hBo:=bothWays_any bo cb arcs w3 (hR.below HB3.out) S.na
 clear hOf q0 q1
 go_wp2_with fail
 refine hBo.mono ?_
 rintro e w4 ⟨v4,rfl,own4,hb4⟩
 have HB4:=hidep (ptw HB3.out hb4)
 have hz4:=hb4.size
 obtain ⟨b4,c4,rfl,hP4⟩:=pcAt_of_owns own4
 have F:Fine (firstL al (fun v=>v)) (bothW arcs) (fun _=>0):=S.bothW (fun v hv=>by have:=S.nv;omega) (fun _ _=>by omega) (fun _=>rfl)
 have hSp:=spread_any 31 #[] (fun _=>0) eg2 w1.heap.size gb al.length b4 c4 (firstL al (fun v=>v)) (firstL al (fun v=>v)) (bothW arcs) w4 (Z3.below hb4) hP4 (fun h0 b off e h=>by
   subst h e
   have:=(own4.lt b rfl).1
   omega) F (mid_start _ _ _) (firstL_length _ _) (by rw [both_length];have:=S.na;omega) (fun a _ wq=>labels2_any a wq)
 clear hBo s1
 go_wp2_with fail
 refine hSp.mono ?_
 rintro e w5 ⟨rfl,z,hBest,Z5,hg5⟩
 have HC:Hid (LabelsIs al arcs 0 z):= .inr ⟨HS0.out,rfl,hBest⟩
 have hzl:=Z5.len
 have HB5:=hidep (HB4.out.grown hg5 HB4.out.size (fun k hk=>by cases hk;omega))
 have HZ5:Hid (w5.ownsRow w.heap.size 3 1 (.slice (some ⟨gb,0,none⟩) al.length al.length) z.length (z.map (Value.int .i64))):=by
   show World.ownsRow _ _ _ _ _ _ _
   rw [hzl]
   exact owns_base2 Z5 (by omega)
 clear hSp hg5 Z5 Z3 own4 hP4
 go_wp2
 go_ret2
 exact ⟨_,_,HC.out,_,rfl,HZ5.out,HB5.out⟩
theorem shot_zero {al:List Bool} {arcs:List Ac} (S:Shot al arcs):shot al arcs=0:=by
 refine shot_ok (by have:=S.nv;have:=S.na;omega) (List.all_eq_true.2 fun a ha=>(endsB_iff al a).2 (S.ends a ha)) (List.all_eq_true.2 fun a ha=>(costB_iff a).2 (S.cost a ha))
def wantIs (al:List Bool) (arcs:List Ac) (p:Nat) (fr:Int) (r:List Int):Prop:=
 (p=1 /\ Best (firstL al (fromF fr)) arcs (fun _=>1) r) \/ (p=2 /\ Best (firstL al (fromF fr)) arcs (fun a=>a.2.2) r) \/ (p=3 /\ Best (firstL al (fun v=>v)) (bothW arcs) (fun _=>0) r)
theorem want_is {g:Gr} (h0:gChk g=0) {p:Nat} {fr:Int} {t:Nat} {r:List Int} (h:wantIs (aliveL t g.lives) (arcsL t g.lives g.edges) p fr r):r=(plF g p fr t).1:=by
 have S:=shot_snap (gChk_right h0) (t:Int)
 obtain ⟨k,e,h1,h2,_⟩:=plF_is h0 p fr t
 have R:PlIs g p fr t (XX g p fr k t) k:=plIs_iff.2 ⟨rfl,h1,h2⟩
 rw [e]
 unfold PlIs at R
 rcases h with ⟨rfl,h⟩ | ⟨rfl,h⟩ | ⟨rfl,h⟩
 · have B:=rounds_best (fine_prog S fr (.inl rfl)).1 (fine_prog S fr (.inl rfl)).2 R
   have e1:begF ((1:Nat):Int) fr=fromF fr:=by funext v;unfold begF;rw [if_neg (by decide)]
   have e2:pricZ 1=fun _=>1:=by funext a;rfl
   rw [e1,e2] at B
   exact best_unique h B
 · have B:=rounds_best (fine_prog S fr (.inr (.inl rfl))).1 (fine_prog S fr (.inr (.inl rfl))).2 R
   have e1:begF ((2:Nat):Int) fr=fromF fr:=by funext v;unfold begF;rw [if_neg (by decide)]
   have e2:pricZ 2=fun a=>a.2.2:=by funext a;rfl
   rw [e1,e2] at B
   exact best_unique h B
 · have B:=rounds_best (fine_prog S fr (.inr (.inr rfl))).1 (fine_prog S fr (.inr (.inr rfl))).2 R
   have e1:begF ((3:Nat):Int) fr=fun v=>v:=by funext v;unfold begF;rw [if_pos (by decide)]
   have e2:pricZ 3=fun _=>0:=by funext a;rfl
   rw [e1,e2] at B
   exact best_unique h B
theorem plF_few {g:Gr} (h0:gChk g=0) (p:Nat) (fr:Int) (t:Nat):(plF g p fr t).2 <= g.lives.length:=by
 obtain ⟨k,e,h1,h2,_⟩:=plF_is h0 p fr t
 rw [e]
 rcases Nat.lt_or_ge g.lives.length k with c | c
 · exfalso
   have:=(runsX h0 p fr (t:Int)).still (r:=g.lives.length) (by omega)
   exact h2 g.lives.length c this
 · exact c
theorem plF_near {g:Gr} (h0:gChk g=0) {p:Nat} (hp:p=1 \/ p=2 \/ p=3) (fr:Int) (t:Nat) {v:Nat} (hv:v<g.lives.length) (hl:(plF g p fr t).1.getD v 0<1099511627776):0 <= (plF g p fr t).1.getD v 0 /\ (plF g p fr t).1.getD v 0 <= 100000:=by
 have S:=shot_snap (gChk_right h0) (t:Int)
 have hk:=plF_few h0 p fr t
 have h12:=(gChk_right h0).lvs
 obtain ⟨k,e,h1,h2,_⟩:=plF_is h0 p fr t
 have R:PlIs g p fr t (XX g p fr k t) k:=plIs_iff.2 ⟨rfl,h1,h2⟩
 rw [e] at hl hk ⊢
 simp only at hl hk ⊢
 unfold PlIs at R
 have F:=fine_prog S fr hp
 have B:=rounds_best F.1 F.2 R
 have lo:=B.mid.lo F.1 v (by rw [firstL_length,aliveL_length];exact hv)
 have sm:=(runsX h0 p fr (t:Int)).small (B:=12) (fun v hv hlt=>(first_hi h12 v hv).2 hlt) k v hv hl
 exact ⟨lo,by omega⟩
theorem allP_chk {g:Gr} (h0:gChk g=0) {p:Nat} (hp:p=1 \/ p=2 \/ p=3) (fr:Int) {v:Nat} (hv:v<g.lives.length):mchk (allP g p fr v g.hor.toNat)=0 /\ ∀t:Nat,(t:Int)<g.hor -> tel (allP g p fr v g.hor.toNat) (t:Int)=optI ((plF g p fr t).1.getD v 0):=by
 obtain ⟨h1,h2,h3⟩:=allP_is h0 p fr hv g.hor.toNat
 have hor:=(gChk_right h0).hor
 have hl:=allP_len g p fr v g.hor.toNat
 refine ⟨mchk_of_mcan h1 (fun q hq=> ?_) (by omega),fun t ht=> ?_⟩
 · have hpo:=mcan_pos h1 q hq
   have hq2:=h2 q hq
   have ht:=tel_start h1 q hq
   rw [h3] at ht
   have hs:0 <= q.1 /\ q.1<((g.hor.toNat:Nat):Int):=by omega
   rw [if_pos hs] at ht
   unfold optI at ht
   split at ht
   · rename_i hlt
     simp only [Option.some.injEq] at ht
     refine ⟨?_,?_,?_⟩
     · unfold nearB;omega
     · unfold nearB;omega
     · have:=plF_near h0 hp fr q.1.toNat hv hlt
       unfold nearB;omega
   · cases ht
 · rw [h3,if_pos (by omega),Int.toNat_natCast]
theorem bpAsk {g:Gr} {p v:Int} (h:askE g p v=0):gChk g=0 /\ ∃q:Nat,p=q /\ (q=1 \/ q=2 \/ q=3) /\ (q≠3 -> vtx g.lives.length v=true):=by
 unfold askE at h
 by_cases e:gChk g=0
 · rw [if_pos e] at h
   by_cases i:inR p 1 3=true
   · rw [if_pos i] at h
     rw [inR_iff] at i
     refine ⟨e,p.toNat,by omega,by omega,fun hn=> ?_⟩
     rw [if_neg (by omega)] at h
     by_cases k:inR v 0 ((g.lives.length:Int)- 1)=true
     · rw [inR_iff] at k
       exact (vtx_iff _ _).2 (by omega)
     · rw [if_neg k] at h;cases h
   · rw [if_neg i] at h;omega
 · rw [if_neg e] at h;exact absurd h e
theorem LeastPl.got {al:List Bool} {arcs:List Ac} {fr:Int} {p:Ac -> Int} {n:Int} {r:List Int} (h:LeastPl al arcs fr p n r) (S:Shot al arcs) (hv:vtx al.length fr=true):n=0 /\ Best (firstL al (fromF fr)) arcs p r:=by
 rcases h with ⟨h,_⟩ | ⟨_,h,_⟩ | ⟨_,_,h1,h2⟩
 · exact absurd (shot_zero S) h
 · rw [hv] at h;cases h
 · exact ⟨h1,h2⟩
theorem LabelsIs.got {al:List Bool} {arcs:List Ac} {n:Int} {r:List Int} (h:LabelsIs al arcs n r) (S:Shot al arcs):n=0 /\ Best (firstL al (fun v=>v)) (bothW arcs) (fun _=>0) r:=by
 rcases h with ⟨h,_⟩ | ⟨_,h1,h2⟩
 · exact absurd (shot_zero S) h
 · exact ⟨h1,h2⟩
def WantAt (W:World) (base:Nat) (u:Value) (x:List Int):Prop:=W.ownsRow base 3 1 u x.length (x.map (Value.int .i64))
set_option maxRecDepth 100000 in
set_option maxHeartbeats 1000000 in
theorem topSnaps_err (g:Gr) (la ea:Option Addr) (lc ec:Nat) (p fr:Int) (w:World) (hG:GAt w la ea g) (hE:askE g p fr≠0):
   Calls Seq.prog 3 #[.agg #[.int .i64 g.hor,.slice la g.lives.length lc,.slice ea g.edges.length ec],.int .i64 p,.int .i64 fr] w fun e w' =>(e= .returned (.bool true) /\ Below w.heap.size w w') \/ (¬Zt zqs w.tape /\ ∃ch,e= .panicked ch /\ DeadAt w'):=by
 have B0:=gbox_start w g la ea lc ec 25
 have HR:=hideg (fun W (hb:Below w.heap.size w W)=>bsRun_err g la ea lc ec p fr W (hG.below hb) hE)
 have hrun:=said_any (w.alloc (.cells #[.int .i64 g.hor,.slice la g.lives.length lc,.slice ea g.edges.length ec] 25))
 have d1:(askE g p fr !=0)=true:=by simpa using hE
 have HB0:=hideg B0
 generalize askE g p fr=x at*
 clear hG hE B0
 go_enter Seq.func3,Tryz.ntmps3
 go_wp2_with fail
 refine hrun.mono ?_
 clear hrun
 rintro e w1 ⟨rfl,hb1⟩
 have B1:=HB0.out.below hb1
 have g0:=B1.c0
 have g1:=B1.c1
 have g2:=B1.c2
 have hR:=HR.out _ B1.bel
 have HF:=hideg B1
 clear hb1 B1 HR
 go_wp2_with fail
 refine hR.mono ?_
 rintro e w2 ⟨rfl,hb2⟩
 have HF2:=hideg (HF.out.below hb2)
 clear hR hb2 HF
 go_wp2
 go_ret
 exact .inl ⟨rfl,HF2.out.bel⟩
set_option maxRecDepth 100000 in
set_option maxHeartbeats 2000000 in
theorem topSnaps_ok (g:Gr) (la ea:Option Addr) (lc ec q:Nat) (fr:Int) (w:World) (hG:GAt w la ea g) (hlc:g.lives.length <= lc) (hlm:lc <= 9223372036854775807) (hE:askE g q fr=0) (h0:gChk g=0) (hq:q=1 \/ q=2 \/ q=3) (hv:q≠3 -> vtx g.lives.length fr=true):
   Calls Seq.prog 3 #[.agg #[.int .i64 g.hor,.slice la g.lives.length lc,.slice ea g.edges.length ec],.int .i64 (q:Int),.int .i64 fr] w fun e w' =>(e= .returned (.bool true) /\ Below w.heap.size w w') \/ (¬Zt zqs w.tape /\ ∃ch,e= .panicked ch /\ DeadAt w'):=by
 have hR:=gChk_right h0
 have hor:=hR.hor
 have hl12:=hR.lvs
 have B0:=gbox_start w g la ea lc ec 25
 have HRn:=hideg (fun W (hb:Below w.heap.size w W)=>bsRun_ok g la ea lc ec q fr W (hG.below hb) hE h0 (bsPaths_any g la ea lc ec q h0 hq))
 have hrun:=said_any (w.alloc (.cells #[.int .i64 g.hor,.slice la g.lives.length lc,.slice ea g.edges.length ec] 25))
 have HAt:Hid (∀τ:Nat,(τ:Int)<g.hor -> ∀W,Below w.heap.size w W -> Calls Seq.prog 7 #[.agg #[.int .i64 g.hor,.slice la g.lives.length lc,.slice ea g.edges.length ec],.int .i64 (τ:Int)] W fun r w' =>SnapOut W w' r 0 (aliveL (τ:Int) g.lives) (arcsL (τ:Int) g.lives g.edges)):=by
   intro τ hτ W hb
   have hat:atErr g (τ:Int)=0:=by unfold atErr;rw [if_pos h0,if_pos ((inR_iff _ _ _).2 (by omega))]
   have:=At_any g la ea lc ec (τ:Int) W (hG.below hb) hlc hlm
   rw [hat,if_pos rfl,if_pos rfl] at this
   exact this
 have S:=fun τ:Nat=>shot_snap hR (τ:Int)
 have hal:∀τ:Nat,(aliveL (τ:Int) g.lives).length=g.lives.length:=fun τ=>aliveL_length _ _
 have HLb:Hid (∀τ:Nat,∀ao bo ca cb W,BsAt W ao (aliveL (τ:Int) g.lives) -> PcAt W bo (arcsL (τ:Int) g.lives g.edges) -> Calls Seq.prog 8 #[.agg #[.slice ao (aliveL (τ:Int) g.lives).length ca,.slice bo (arcsL (τ:Int) g.lives g.edges).length cb]] W fun e w' =>∃u x,e= .returned (.tuple #[u,.int .i64 0]) /\ WantAt w' W.heap.size u x /\ (q=3 -> x=(plF g q fr τ).1) /\ Below W.heap.size W w'):=by
   intro τ ao bo ca cb W hA hB
   refine (Labels_any ao bo ca cb _ _ W hA hB).mono ?_
   rintro e w' ⟨n,r,hL,u,rfl,ho,hb⟩
   obtain ⟨rfl,hBest⟩:=hL.got (S τ)
   exact ⟨u,r,rfl,ho,fun h=>want_is h0 (.inr (.inr ⟨h,hBest⟩)),hb⟩
 have HHp:Hid (q=1 -> ∀τ:Nat,∀ao bo ca cb W,BsAt W ao (aliveL (τ:Int) g.lives) -> PcAt W bo (arcsL (τ:Int) g.lives g.edges) -> Calls Seq.prog 9 #[.agg #[.slice ao (aliveL (τ:Int) g.lives).length ca,.slice bo (arcsL (τ:Int) g.lives g.edges).length cb],.int .i64 fr] W fun e w' =>∃u,e= .returned (.tuple #[u,.int .i64 0]) /\ WantAt w' W.heap.size u (plF g q fr τ).1 /\ Below W.heap.size W w'):=by
   intro h1 τ ao bo ca cb W hA hB
   refine (Hops_any ao bo ca cb _ _ fr W hA hB).mono ?_
   rintro e w' ⟨n,r,hL,u,rfl,ho,hb⟩
   obtain ⟨rfl,hBest⟩:=hL.got (S τ) (by rw [hal];exact hv (by omega))
   have:r=(plF g q fr τ).1:=want_is h0 (.inl ⟨h1,hBest⟩)
   rw [<- this]
   exact ⟨u,rfl,ho,hb⟩
 have HCo:Hid (q=2 -> ∀τ:Nat,∀ao bo ca cb W,BsAt W ao (aliveL (τ:Int) g.lives) -> PcAt W bo (arcsL (τ:Int) g.lives g.edges) -> Calls Seq.prog 10 #[.agg #[.slice ao (aliveL (τ:Int) g.lives).length ca,.slice bo (arcsL (τ:Int) g.lives g.edges).length cb],.int .i64 fr] W fun e w' =>∃u,e= .returned (.tuple #[u,.int .i64 0]) /\ WantAt w' W.heap.size u (plF g q fr τ).1 /\ Below W.heap.size W w'):=by
   intro h1 τ ao bo ca cb W hA hB
   refine (Costs_any ao bo ca cb _ _ fr W hA hB).mono ?_
   rintro e w' ⟨n,r,hL,u,rfl,ho,hb⟩
   obtain ⟨rfl,hBest⟩:=hL.got (S τ) (by rw [hal];exact hv (by omega))
   have:r=(plF g q fr τ).1:=want_is h0 (.inr (.inl ⟨h1,hBest⟩))
   rw [<- this]
   exact ⟨u,rfl,ho,hb⟩
 have HX:Hid (∀τ:Nat,(plF g q fr τ).1.length=g.lives.length):=by
   intro τ
   obtain ⟨k,e,_⟩:=plF_is h0 q fr τ
   rw [e];exact XX_len g q fr k τ
 have HTl:=hideg (fun (τ:Nat) (hτ:(τ:Int)<g.hor) v (hv:v<g.lives.length)=>(allP_chk h0 hq fr hv).2 τ hτ)
 have HSl:=hideg (fun v (_:v<g.lives.length)=>allP_len g q fr v g.hor.toNat)
 have HHt:Hid (g.hor.toNat <= 100 /\ 0 <= g.hor):=by refine ⟨?_,?_⟩<;>omega
 have HB0:=hideg B0
 clear hG hE h0 hR hor B0 S hal
 go_enter Seq.func3,Tryz.ntmps3
 go_wp2_with fail
 refine hrun.mono ?_
 clear hrun
 rintro e w1 ⟨rfl,hb1⟩
 have B1:=HB0.out.below hb1
 have g0:=B1.c0
 have g1:=B1.c1
 have g2:=B1.c2
 have hRn:=HRn.out _ B1.bel
 clear hb1 HB0
 go_wp2_with fail
 refine hRn.mono ?_
 clear hRn HRn
 rintro e w2 (⟨go,val,T,r,rfl,A2,hT,hr,hb2⟩ | ⟨hz,ch,rfl,hd⟩)
 case inr=>exact ⟨rfl,.inr ⟨fun h=>hz (by rw [B1.bel.tape];exact h),ch,rfl,hd⟩⟩
 have B2:=B1.below hb2
 have HT:=hideg hT
 clear hT hr hb2 B1 g0 g1 g2
 have HB2:=hideg B2
 have HA2:=hideg A2
 have g0:=B2.c0
 have g1:=B2.c1
 have g2:=B2.c2
 clear B2 A2
 go_wp2_with fail
 clear g0 g1 g2
 go_loopw [35] (fun i wr=>∃k:Nat,(k:Int) <= g.hor /\ i= .int .i64 (k:Int) /\ Below w2.heap.size w2 wr) (fun i _=>g.hor.toNat-(intOf i).toNat)
 case atStart=>exact ⟨0,by have:=HHt.out.2;omega,rfl,Below.refl _ _⟩
 case round=>
   obtain ⟨k,hk,rfl,hb⟩:=hrel
   by_cases hkl:(k:Int)<g.hor
   · have BR:=HB2.out.below hb
     have hAt:=HAt.out k hkl wr BR.bel
     have hkw:IntKind.i64.wrap ((k:Int)+1)=(k:Int)+1:=wrap_nr _ (by omega) (by have:=HHt.out.1;omega)
     have g0:=BR.c0
     have g1:=BR.c1
     have g2:=BR.c2
     go_wp2_with fail
     refine hAt.mono ?_
     rintro e w4 ⟨ao,ca,bo,cb,rfl,hAl,hAr,hb4⟩
     have A4:=(HA2.out.below hb).below hb4
     have B4:=BR.below hb4
     have hX:=HX.out k
     have HTk:=hideg (fun v hv=>HTl.out k hkl v hv)
     have hLb:=HLb.out k ao bo ca cb (w4.alloc (.cells #[.slice ao (aliveL (k:Int) g.lives).length ca,.slice bo (arcsL (k:Int) g.lives g.edges).length cb] 34)) (hAl.below (gal w4 _)) (hAr.below (gal w4 _))
     have HHk:=hideg (fun h=>HHp.out h k ao bo ca cb)
     have HCk:=hideg (fun h=>HCo.out h k ao bo ca cb)
     have hb24:=ptg hb hb4
     clear hAt hb4 BR g0 g1 g2 hb
     have HS5:Hid (∀o,∀W,Below (w4.alloc (.cells #[.slice ao (aliveL (k:Int) g.lives).length ca,.slice bo (arcsL (k:Int) g.lives g.edges).length cb] o)).heap.size (w4.alloc (.cells #[.slice ao (aliveL (k:Int) g.lives).length ca,.slice bo (arcsL (k:Int) g.lives g.edges).length cb] o)) W -> W.cell? ⟨w4.heap.size,0,none⟩=some (.slice ao (aliveL (k:Int) g.lives).length ca) /\ W.cell? ⟨w4.heap.size,1,none⟩=some (.slice bo (arcsL (k:Int) g.lives g.edges).length cb)):=fun o W hb=>⟨(hb.cell (p:=⟨w4.heap.size,0,none⟩) (by simp)).trans (new_cell rfl rfl),(hb.cell (p:=⟨w4.heap.size,1,none⟩) (by simp)).trans (new_cell rfl rfl)⟩
     generalize aliveL (k:Int) g.lives=al at*
     generalize arcsL (k:Int) g.lives g.edges=arcs at*
     generalize (plF g q fr k).1=X at*
     go_wp2_with fail
     refine hLb.mono ?_
     rintro e w6 ⟨u6',x6,rfl,ho6,hx6,hb6⟩
     have hAl6:=(hAl.below (gal w4 _)).below hb6
     have hAr6:=(hAr.below (gal w4 _)).below hb6
     have b46:=ptg (gal w4 _) hb6
     have B6:=B4.below b46
     have A6:=A4.below b46
     obtain ⟨s0,s1⟩:=HS5.out _ w6 hb6
     have HC6:=hideg (ptg hb24 b46)
     clear hLb hb6 HS5 hAl hAr B4 A4 b46 hb24
     unfold WantAt at ho6
     rcases hq with rfl | rfl | rfl
     case' inl=>
       have hHp:=HHk.out rfl w6 hAl6 hAr6
       clear HHk HCk hx6 ho6 hAl6 hAr6
       go_wp2_with fail
       refine hHp.mono ?_
       rintro e w7 ⟨u7,rfl,ho7,hb7⟩
       have B7:=B6.below hb7
       have A7:=A6.below hb7
       have HC7:=hideg (ptg HC6.out hb7)
       unfold WantAt at ho7
       clear HC6 hHp hb7 B6 A6 s0 s1
     case' inr.inl=>
       have hHp:=HCk.out rfl w6 hAl6 hAr6
       clear HHk HCk hx6 ho6 hAl6 hAr6
       go_wp2_with fail
       refine hHp.mono ?_
       rintro e w7 ⟨u7,rfl,ho7,hb7⟩
       have B7:=B6.below hb7
       have A7:=A6.below hb7
       have HC7:=hideg (ptg HC6.out hb7)
       unfold WantAt at ho7
       clear HC6 hHp hb7 B6 A6 s0 s1
     case' inr.inr=>
       have hx:=hx6 rfl
       rw [hx] at ho6
       clear HHk HCk hx6 hx hAl6 hAr6 s0 s1
       obtain ⟨w7,hw7⟩:∃x,x=w6:=⟨_,rfl⟩
       subst hw7
       have ho7:=ho6
       have B7:=B6
       have A7:=A6
       have HC7:=HC6
       clear ho6 B6 A6 HC6
     all_goals
       obtain ⟨zo,zc,rfl,hz⟩:=zsAt_of_owns ho7
       have HZ:=hideg hz
       have HBW:=hideg B7
       have HAW:=hideg A7
       have HX':=hideg hX
       clear ho7 hz B7 A7 hX
       go_wp2_with fail
       go_loopw [72] (fun i wx=>∃m:Nat,m <= g.lives.length /\ i= .int .i64 (m:Int) /\ Below w7.heap.size w7 wx) (fun i _=>g.lives.length-(intOf i).toNat)
       case atStart=>exact ⟨0,Nat.zero_le _,rfl,Below.refl _ _⟩
       case round=>
         obtain ⟨m,hm,rfl,hbm⟩:=hrel
         by_cases hml:m<g.lives.length
         · have hki:(m:Int)<(g.lives.length:Int):=by omega
           have hmw:IntKind.i64.wrap ((m:Int)+1)=(m:Int)+1:=wrap_nr _ (by omega) (by omega)
           have AR:=HAW.out.below hbm
           have o1:=AR.out hml
           obtain ⟨mo,mc,e1,p1⟩:=pcAt_of_owns (AR.inn m hml)
           rw [e1] at o1
           have hls:=HSl.out m hml
           have hTm:=HT.out m hml
           have hm100:=HHt.out.1
           have hlen:(T m).length <= 100:=by rw [hTm];omega
           have HPA:=hideg (PAt_any mo mc (T m) (k:Int) wr p1 (by omega))
           have htl:=HTk.out m hml
           rw [<- hTm] at htl
           have HTL:=hideg htl
           have HZr:=hideg (HZ.out.below hbm)
           have HBr:=hideg hbm
           clear AR e1 p1 hls hTm hm100 hbm htl
           generalize (T m).length=tl at*
           go_wp2_with fail
           refine HPA.out.mono ?_
           rintro e wa ⟨rfl,hba⟩
           have hza:=HZr.out.below hba
           have HBk:=hideg (ptg HBr.out hba)
           clear HPA HZr HBr hba o1
           rcases hza with h0 | ⟨zb,zf,rfl,_,hcz⟩
           · have:=HX'.out;rw [h0] at this;simp at this;omega
           have hmX:m<X.length:=by rw [HX'.out];exact hml
           have xk:=hcz m hmX
           generalize X.getD m 0=y at*
           clear hcz
           by_cases hy:y<1099511627776
           · have ho:optI y=some y:=by unfold optI;rw [if_pos hy]
             rw [HTL.out,ho]
             have dy:decide (y<1099511627776)=true:=by simpa using hy
             have dz:(y !=y)=false:=by simp
             clear HTL ho hy
             go_wp2
             go_roundw
             case rel=>exact ⟨m+1,by omega,by go_num,HBk.out⟩
             case measure=>simp [intOf];omega
           · have ho:optI y=none:=by unfold optI;rw [if_neg hy]
             rw [HTL.out,ho]
             have dy:decide (y<1099511627776)=false:=by simpa using hy
             clear HTL ho hy
             go_wp2
             go_roundw
             case rel=>exact ⟨m+1,by omega,by go_num,HBk.out⟩
             case measure=>simp [intOf];omega
         · have hkn:¬((m:Int)<(g.lives.length:Int)):=by omega
           have HCw:=hideg (ptg HC7.out hbm)
           clear hbm
           go_wp2
           go_roundw
           case rel=>exact ⟨_,_,_,_,_,_,_,_,_,.int .i64 ((k+1:Nat):Int),⟨k+1,by omega,rfl,HCw.out⟩,rfl,rfl,rfl,rfl,rfl,rfl,rfl,rfl,rfl,by go_num⟩
           case measure=>have:=HHt.out;simp [intOf];omega
   · have hkn:¬((k:Int)<g.hor):=hkl
     have BR:=HB2.out.below hb
     have HF:=hideg BR.bel
     clear hb BR
     go_wp2
     go_ret
     exact .inl ⟨rfl,HF.out⟩
theorem topSnaps_walk (g:Gr) (la ea:Option Addr) (lc ec:Nat) (p fr:Int) (w:World) (hG:GAt w la ea g) (hlc:g.lives.length <= lc) (hlm:lc <= 9223372036854775807):
   Calls Seq.prog 3 #[.agg #[.int .i64 g.hor,.slice la g.lives.length lc,.slice ea g.edges.length ec],.int .i64 p,.int .i64 fr] w fun e w' =>(e= .returned (.bool true) /\ Below w.heap.size w w') \/ (¬Zt zqs w.tape /\ ∃ch,e= .panicked ch /\ DeadAt w'):=by
 by_cases hE:askE g p fr=0
 · obtain ⟨h0,q,rfl,hq,hv⟩:=bpAsk hE
   exact topSnaps_ok g la ea lc ec q fr w hG hlc hlm hE h0 hq hv
 · exact topSnaps_err g la ea lc ec p fr w hG hE
end Go.Proofs.YtfphigmeppdocaaGreat.Q
namespace Go.Proofs.YtfphigmeppdocaaGreat
open Crw
theorem topSnaps_holds:Rows.TopSnapsSaid:=
 topSnaps_of fun g0 la0 ea0 lc0 ec0 t1 t2 s hg0 hl0 hm0=>Q.topSnaps_walk ⟨g0.hor,g0.lives,g0.edges⟩ la0 ea0 lc0 ec0 t1 t2 s ⟨hg0.lv,hg0.ed,hg0.nl,hg0.ne⟩ hl0 hm0
end Go.Proofs.YtfphigmeppdocaaGreat
