/-
  Several texts in one.
-/
import Derived.Laws.StructEq
import Derived.Laws.AppendOwnNone
import Derived.Maps.AppendAt
import Derived.Test.YtfphigmeppdocaaGreatPk7
namespace Go.Proofs.YtfphigmeppdocaaGreat.Q
open Lo (Seq.prog)
open Go.RowKit
def VisOk (g:Gr) (pr:Ri -> Int) (v t:Int) (M:Mp):Prop:=(aliveB t g.lives v=true /\ SpE g (F1 v t) pr M) \/ (aliveB t g.lives v=false /\ M=fun _ _=>none)
theorem VisOk.snd {g:Gr} {pr:Ri -> Int} {v t:Int} {M:Mp} (h:VisOk g pr v t M) {x y:Int} {z:Vs} (hz:M x y=some z):Pay g pr v t x y z.1:=by
 rcases h with ⟨ha,h⟩ | ⟨_,rfl⟩
 · exact ⟨ha,h.snd _ _ _ hz⟩
 · cases hz
theorem VisOk.all {g:Gr} {pr:Ri -> Int} {v t:Int} {M:Mp} (h:VisOk g pr v t M) {x y p:Int} (hp:Pay g pr v t x y p):∃z,M x y=some z /\ z.1 <= p:=by
 rcases h with ⟨_,h⟩ | ⟨ha,_⟩
 · exact h.all _ _ _ hp.2
 · rw [hp.1] at ha;cases ha
theorem Pay.waits {g:Gr} (R:Right g) {pr:Ri -> Int} {v0 t0 v t t' p:Int} (h0:0 <= v0) (h:Pay g pr v0 t0 v t p) (ht:t <= t') (ha:aliveB t' g.lives v=true):Pay g pr v0 t0 v t' p:=⟨h.1,h.2.waits R (F1_ok h0 h.1) ht ha⟩
theorem Pay.place {g:Gr} (R:Right g) {pr:Ri -> Int} {v0 t0 v t p:Int} (h0:0 <= v0) (h:Pay g pr v0 t0 v t p):0 <= v /\ v<g.lives.length /\ aliveB t g.lives v=true /\ 0 <= t /\ t<g.hor /\ t0 <= t:=h.2.place R (F1_ok h0 h.1)
def prF (M:Mp) (v t:Int):Int:=match M v t with | none=>1099511627776 | some z=>z.1
def lastT (g:Gr) (v:Nat):Int:=(g.lives.getD v (0,0)).2- 1
theorem lastT_at {g:Gr} {v:Nat} (hv:v<g.lives.length):lastT g v=g.lives[v].2- 1:=by unfold lastT;rw [List.getD_eq_getElem?_getD,List.getElem?_eq_getElem hv];rfl
theorem last_alive {g:Gr} (R:Right g) {v:Nat} (hv:v<g.lives.length):aliveB (lastT g v) g.lives (v:Int)=true /\ (∀t,aliveB t g.lives (v:Int)=true -> t <= lastT g v) /\ 0 <= lastT g v /\ lastT g v<100:=by
 have h:=R.life _ (List.getElem_mem hv)
 have hh:=R.hor
 rw [lastT_at hv]
 refine ⟨?_,fun t ht=> ?_,by omega,by omega⟩
 · rw [aliveB_at _ _ _ hv];exact (hasB_iff _ _ _).2 (by omega)
 · rw [aliveB_at _ _ _ hv] at ht;have:=(hasB_iff _ _ _).1 ht;omega
def fillL (f:Nat -> Int) (n k:Nat):List Int:=(List.range n).map fun x=>if x<k then f x else 0
theorem fill_len (f:Nat -> Int) (n k:Nat):(fillL f n k).length=n:=by simp [fillL]
theorem fill_get (f:Nat -> Int) (n k x:Nat) (hx:x<n):(fillL f n k).getD x 0=if x<k then f x else 0:=by simp [fillL,List.getD_eq_getElem?_getD,hx]
theorem fill_zero (f:Nat -> Int) (n:Nat):fillL f n 0=List.replicate n 0:=by
 refine list_ext_gd (by simp [fillL]) fun x hx=> ?_
 rw [fill_len] at hx
 rw [fill_get _ _ _ _ hx]
 simp [List.getD_eq_getElem?_getD,hx]
theorem fill_set (f:Nat -> Int) (n k:Nat) (hk:k<n):(fillL f n k).set k (f k)=fillL f n (k+1):=by
 refine list_ext_gd (by simp [fillL]) fun x hx=> ?_
 rw [List.length_set,fill_len] at hx
 rw [getD_setI _ _ _ _ (by rw [fill_len];exact hk),fill_get _ _ _ _ hx,fill_get _ _ _ _ hx]
 by_cases e:x=k
 · subst e;simp
 · rw [if_neg e]
   by_cases h:x<k
   · rw [if_pos h,if_pos (by omega)]
   · rw [if_neg h,if_neg (by omega)]
theorem least_of {g:Gr} (R:Right g) {pr:Ri -> Int} {v t:Int} (h0:0 <= v) {M:Mp} (h:VisOk g pr v t M):LeastIs g pr v t (fillL (fun x=>prF M (x:Int) (lastT g x)) g.lives.length g.lives.length):=by
 refine ⟨fill_len _ _ _,fun x hx=> ?_,fun x hx t' p hp=> ?_⟩
 · rw [fill_get _ _ _ _ hx,if_pos hx]
   unfold prF
   cases hz:M (x:Int) (lastT g x) with
   | none=>exact .inl rfl
   | some z=>exact .inr ⟨_,h.snd hz⟩
 · rw [fill_get _ _ _ _ hx,if_pos hx]
   obtain ⟨k1,k2,_⟩:=last_alive R hx
   obtain ⟨z,hz,hzp⟩:=h.all (hp.waits R h0 (k2 _ (hp.place R h0).2.2.1) k1)
   unfold prF;rw [hz];exact hzp
set_option maxRecDepth 100000 in
theorem atLast_any (g:Gr) (la ea:Option Addr) (lc ec v:Nat) (w:World) (hG:GAt w la ea g) (hR:Right g) (hv:v<g.lives.length):
   Calls Seq.prog 67 #[.agg #[.int .i64 g.hor,.slice la g.lives.length lc,.slice ea g.edges.length ec],.int .i64 v] w fun r w' =>r= .returned (.agg #[.int .i64 (v:Int),.int .i64 (lastT g v)]) /\ Below w.heap.size w w':=by
 obtain ⟨_,_,h3,h4⟩:=last_alive hR hv
 rw [lastT_at hv] at h3 h4 ⊢
 obtain ⟨lb,lof,rfl,hlb,l0,l1⟩:∃b off,la=some ⟨b,off,none⟩ /\ b<w.heap.size /\ (w.cell? ⟨b,off+v*2,none⟩=some (.int .i64 g.lives[v].1) /\ w.cell? ⟨b,off+v*2+1,none⟩=some (.int .i64 g.lives[v].2)):=by
   rcases hG.lv with h0 | ⟨b,off,rfl,hbr,hc⟩
   · rw [h0] at hv;simp at hv
   exact ⟨b,off,rfl,hbr,IvAt.get hv hc⟩
 have hvi:(v:Int)<(g.lives.length:Int):=by omega
 have hww:IntKind.i64.wrap (g.lives[v].2- 1)=g.lives[v].2- 1:=wrap_nj _ (by omega) (by omega)
 have m1:=fun W (h:Below w.heap.size w W)=>(h.cell (p:=⟨lb,lof+v*2+1,none⟩) hlb).trans l1
 have m2:=m1 _ (ptg (gal w (.cells #[.int .i64 g.hor,.slice (some ⟨lb,lof,none⟩) g.lives.length lc,.slice ea g.edges.length ec] 25)) (gal _ (.cells #[.int .i64 0,.int .i64 0] 122)))
 clear hG l0 l1 hR m1
 generalize g.lives[v]=lf at*
 go_enter Seq.func67,Tryz.ntmps67
 go_wp2
 refine bodyPost_ret (v:= .agg #[.int .i64 (v:Int),.int .i64 (lf.2- 1)]) (by simp [results,Tryz.results67,go_sem]) rfl ⟨rfl,?_⟩
 exact ptg (gal w _) (gal _ _)
set_option maxRecDepth 100000 in
set_option maxHeartbeats 1000000 in
theorem visitsFrom_any (g:Gr) (la ea:Option Addr) (lc ec:Nat) (pr:Ri -> Int) (v t:Int) (fv:FuncId) (eg:∀args w,(callFunc fv args).run Seq.prog w= .ok (.enter fv args) w) (w:World) (hG:GAt w la ea g) (hpl:placeE g v t=0) (hpr:PrOk g pr)
   (hfv:∀r W,Calls Seq.prog fv #[rideV r] W fun res w' =>res= .returned (.int .i64 (pr r)) /\ Below W.heap.size W w'):
   Calls Seq.prog 66 #[.agg #[.int .i64 g.hor,.slice la g.lives.length lc,.slice ea g.edges.length ec],.int .i64 v,.int .i64 t,.func (.func fv) #[] #[]] w fun r w' =>∃b n M,r= .returned (.map (some b)) /\ MapAt w' b n M /\ VisOk g pr v t M /\ Below w.heap.size w w':=by
 obtain ⟨hg0,⟨hv0,hv1⟩,ht0,ht1⟩:=placeE_zero hpl
 have hR:=gChk_right hg0
 have hhor:=hR.hor
 have hlv:=hR.lvs
 obtain ⟨V,rfl⟩:∃V:Nat,v=(V:Int):=⟨v.toNat,by omega⟩
 have hVg:V<g.lives.length:=by omega
 obtain ⟨w1,hw1⟩:∃x,x=w.alloc (.cells #[.int .i64 g.hor,.slice la g.lives.length lc,.slice ea g.edges.length ec] 25):=⟨_,rfl⟩
 have B0:GBx w w1 w.heap.size g la ea lc ec:=by rw [hw1];exact gbx_start w g la ea lc ec 25
 obtain ⟨w2,hw2⟩:∃x,x=w1.alloc (.map #[] 0):=⟨_,rfl⟩
 have hM2:MapAt w2 w1.heap.size 0 (fun _ _=>none):=by rw [hw2];exact mapAt_made w1
 have b2:Below w1.heap.size w1 w2:=by rw [hw2];exact gal w1 _
 have B2:=B0.below b2
 have hG2:=hG.below B2.bel
 have s1:w.heap.size<w1.heap.size:=by rw [hw1];simp
 obtain ⟨lb,lof,rfl,hlb,l0,l1⟩:∃b off,la=some ⟨b,off,none⟩ /\ b<w2.heap.size /\ (w2.cell? ⟨b,off+V*2,none⟩=some (.int .i64 g.lives[V].1) /\ w2.cell? ⟨b,off+V*2+1,none⟩=some (.int .i64 g.lives[V].2)):=by
   rcases hG2.lv with h0 | ⟨b,off,rfl,hbr,hc⟩
   · rw [h0] at hVg;simp at hVg
   exact ⟨b,off,rfl,hbr,IvAt.get hVg hc⟩
 have hVi:(V:Int)<(g.lives.length:Int):=by omega
 have hal:=fun W=>jalive_any g.lives[V].1 g.lives[V].2 t W
 rw [<- aliveB_at t g.lives V hVg] at hal
 have g0:=B2.c0
 have g1:=B2.c1
 have g2:=B2.c2
 have hmm:=@run_makeMap Seq.prog
 have hw1s:=hw1.symm
 have hw2s:=hw2.symm
 have HB:=hideg (fun W (h:Below w2.heap.size w2 W)=>(B2.below h).bel)
 have HM:=hideg (fun W (h:Below w2.heap.size w2 W)=>hM2.below h)
 have HB2:=hideg B2
 have HG2:=hideg hG2
 clear hG hw1 hw2 B0 B2 hG2 hM2 hg0
 cases ha:aliveB t g.lives (V:Int) with
 | false=>
   rw [ha] at hal
   have HV:Hid (VisOk g pr (V:Int) t (fun _ _=>none)):= .inr ⟨ha,rfl⟩
   clear ha hR hpl
   generalize g.lives[V]=lf at*
   go_enter Seq.func66,Tryz.ntmps66
   go_wp2_with fail
   refine (hal _).mono ?_
   rintro r w3 ⟨rfl,hb3⟩
   have HM3:=hideg (HM.out w3 hb3)
   have HB3:=hideg (HB.out w3 hb3)
   clear hal hb3 g0 g1 g2 l0 l1
   go_wp2
   go_ret
   exact ⟨_,_,_,rfl,HM3.out,HV.out,HB3.out⟩
 | true=>
   rw [ha] at hal
   have hF:=F1_ok (g:=g) (v0:=(V:Int)) (t0:=t) hv0 ha
   have hPb:∀x y p,Pd g (F1 (V:Int) t) pr x y p -> -1000000 <= p /\ p <= 1000000:=fun x y p h=>by
     have h1:=h.range hR hpr hv0 ha
     have h2:=h.place hR hF
     omega
   have HS:=hideg (fun b n M0 W (hGW:GAt W (some ⟨lb,lof,none⟩) ea g) (hMW:MapAt W b n M0) (hn:n <= 200) (hM0:∀x y,(M0 x y).map (·.1)=F1 (V:Int) t x y)=>spreadC_any g (some ⟨lb,lof,none⟩) ea lc ec (F1 (V:Int) t) pr t fv eg b n M0 W hGW hR hF hMW hn ⟨ht0,ht1⟩ hM0 hpr hPb hfv)
   have HV:Hid (∀M,SpE g (F1 (V:Int) t) pr M -> VisOk g pr (V:Int) t M):=fun M h=> .inl ⟨ha,h⟩
   clear ha hR hpl hF hPb hpr hfv eg
   generalize g.lives[V]=lf at*
   go_enter Seq.func66,Tryz.ntmps66
   go_wp2_with fail
   refine (hal _).mono ?_
   rintro r w3 ⟨rfl,hb3⟩
   have M3:=HM.out w3 hb3
   have G3:=HG2.out.below hb3
   have B3:=HB2.out.below hb3
   obtain ⟨w4,hup,hM4,hg4⟩:=M3.store (by unfold maxLen;omega) (v:=(V:Int)) (t:=t) (wi_small (by omega) (by omega)) (wi_small (by omega) (by omega)) (0,0,0,0,0,0,0)
   simp only [keyV,encV_mk] at hup
   have G4:=M3.gat hg4 G3
   obtain ⟨k0,k1,k2⟩:=GBx.gby M3 hg4 B3
   have hSp:=HS.out w1.heap.size (0+1) _ w4 G4 hM4 (by omega) (fun x y=>by
     unfold mset F1
     split<;>rfl)
   have HB4:Hid (∀W,w4.grownBy W (some w1.heap.size) -> Below w.heap.size w W):=fun W h=>(B3.bel.grown hg4 B3.bel.size (fun k hk=>by cases hk;omega)).grown h (Nat.le_trans B3.bel.size hg4.size) (fun k hk=>by cases hk;omega)
   clear hal hb3 g0 g1 g2 l0 l1 M3 G3 B3 hM4 hg4 G4 HS
   go_wp2_with fail
   refine hSp.mono ?_
   rintro r w5 ⟨⟨vv,rfl⟩,⟨n5,M5,hM5,hE5⟩,hg5⟩
   have HM5:=hideg hM5
   have HE5:=hideg (HV.out _ hE5)
   have HB5:=hideg (HB4.out w5 hg5)
   clear hSp hM5 hE5 hg5 k0 k1 k2 hup HB4
   go_wp2
   go_ret
   exact ⟨_,_,_,rfl,HM5.out,HE5.out,HB5.out⟩
def LeastE (g:Gr) (pr:Ri -> Int) (v t:Int) (L:List Int):Prop:=(placeE g v t≠0 /\ L=[]) \/ (placeE g v t=0 /\ LeastIs g pr v t L)
def prCost:Ri -> Int:=fun r=>r.2.2.2.2.2
theorem prCost_ok {g:Gr} (R:Right g):PrOk g prCost:=fun _ hr=>(mem_rides R hr).c0
set_option maxRecDepth 100000 in
set_option maxHeartbeats 1000000 in
theorem leastPrices_any (g:Gr) (la ea:Option Addr) (lc ec:Nat) (pr:Ri -> Int) (v t:Int) (fv:FuncId) (eg:∀args w,(callFunc fv args).run Seq.prog w= .ok (.enter fv args) w) (w:World) (hG:GAt w la ea g) (hpr:Right g -> PrOk g pr)
   (hfv:∀r W,Calls Seq.prog fv #[rideV r] W fun res w' =>res= .returned (.int .i64 (pr r)) /\ Below W.heap.size W w'):
   Calls Seq.prog 38 #[.agg #[.int .i64 g.hor,.slice la g.lives.length lc,.slice ea g.edges.length ec],.int .i64 v,.int .i64 t,.func (.func fv) #[] #[]] w fun r w' =>∃u L,r= .returned (.tuple #[u,.int .i64 (placeE g v t)]) /\ LeastE g pr v t L /\ w'.ownsRow w.heap.size 3 1 u L.length (L.map (Value.int .i64)) /\ Below w.heap.size w w':=by
 obtain ⟨i0,hi,hz0,hz1,hz2⟩:=info_parts Tryz.infoInt
 have B0:=gbx_start w g la ea lc ec 25
 have h1:=jcheck_any g la ea lc ec v t _ (hG.below B0.bel)
 by_cases e1:placeE g v t=0
 case neg=>
   have HP:Hid (LeastE g pr v t []):= .inl ⟨e1,rfl⟩
   have d1:(placeE g v t !=0)=true:=by simpa using e1
   generalize placeE g v t=n at*
   clear e1 hG hpr hfv eg
   go_enter Seq.func38,Tryz.ntmps38
   go_wp2_with fail
   refine h1.mono ?_
   rintro r w1 ⟨rfl,hb1⟩
   have hbF:=(B0.below hb1).bel
   clear h1 hb1 B0
   go_wp2
   (try simp only [Exit.inBlock,Exit.then]);refine bodyPost_ret (results_two_e rfl _ _ _) rfl ?_
   exact ⟨_,_,rfl,HP.out,World.ownsRow_nil _ _ _ _,hbF⟩
 obtain ⟨hg0,⟨hv0,hv1⟩,ht0,ht1⟩:=placeE_zero e1
 have hR:=gChk_right hg0
 have hlv:=hR.lvs
 have HV:=hideg (fun W (hW:Below w.heap.size w W)=>visitsFrom_any g la ea lc ec pr v t fv eg W (hG.below hW) e1 (hpr hR) hfv)
 have HL:=hideg (fun W (hW:Below w.heap.size w W) (x:Nat) (hx:x<g.lives.length)=>atLast_any g la ea lc ec x W (hG.below hW) hR hx)
 have HE:Hid (∀M,VisOk g pr v t M -> LeastE g pr v t (fillL (fun x=>prF M (x:Int) (lastT g x)) g.lives.length g.lives.length)):=fun M h=> .inr ⟨e1,least_of hR hv0 h⟩
 have HLt:Hid (∀x,x<g.lives.length -> 0 <= lastT g x /\ lastT g x<100):=fun x hx=>(last_alive hR hx).2.2
 rw [e1] at h1 ⊢
 clear hG e1 hg0 hR hpr hfv eg hv0 hv1 ht0 ht1
 go_enter Seq.func38,Tryz.ntmps38
 go_wp2_with fail
 refine h1.mono ?_
 rintro r w1 ⟨rfl,hb1⟩
 have B1:=B0.below hb1
 have h2:=HV.out w1 B1.bel
 have g0:=B1.c0
 have g1:=B1.c1
 have g2:=B1.c2
 clear h1 hb1 B0 HV
 go_wp2_with fail
 refine h2.mono ?_
 rintro r w2 ⟨b,n,M,rfl,hM2,hV2,hb2⟩
 have B2:=B1.below hb2
 have HE2:=hideg (HE.out M hV2)
 clear h2 hb2 B1 g0 g1 g2 HE hV2
 have g1:=B2.c1
 go_wp2_with (at_make;refine wpList_make_full _ rfl _ _ 37 rfl w.heap.size 3 i0 (.int .i64 0) 1 ((Seq.pu 37).trans Tryz.underlying37) hi hz0 hz1 .i64 .i64 _ _ g.lives.length rfl rfl rfl rfl (by rw [hz2];omega) (by unfold maxLen;omega) B2.bel.size ?_;intro w3 hown3 hgrow3)
 have e3:(madeCells (Value.int .i64 0).cells (g.lives.length*1)).toList=(fillL (fun x=>prF M (x:Int) (lastT g x)) g.lives.length 0).map (Value.int .i64):=by
   rw [Nat.mul_one,fill_zero]
   show (madeCells #[Value.int .i64 0] g.lives.length).toList=_
   rw [toList_madeCells_one,List.map_replicate]
 rw [e3] at hown3
 have hb3:Below w2.heap.size w2 w3:=(Below.refl _ _).grown hgrow3 (Nat.le_refl _) (fun k hk=>by cases hk)
 have B3:=B2.below hb3
 have M3:=hM2.below hb3
 have hs3:=(World.ownsRow.lt hown3 _ rfl).2
 have hlt2:=B2.lt
 have hMl:=hM2.lt
 have HB3:=hideg B3
 have HM3:=hideg M3
 have HbR:Hid (w.heap.size <= w2.heap.size):=B2.bel.size
 have hbne:b≠w2.heap.size:=by omega
 have hwne:w.heap.size≠w2.heap.size:=by omega
 obtain ⟨m,hm⟩:∃m,m=w2.heap.size:=⟨_,rfl⟩
 rw [<- hm] at hown3 hs3 hbne hwne ⊢
 clear hgrow3 e3 hb3 B2 hM2 g1 hm hlt2 hMl B3 M3
 generalize hf:(fun x:Nat=>prF M (x:Int) (lastT g x))=f at hown3 HE2
 have HF:Hid (∀x:Nat,f x=prF M (x:Int) (lastT g x)):=fun x=>by rw [<- hf]
 clear hf
 go_wp2_with fail
 go_loopw [34] (fun i wr=>∃k:Nat,k <= g.lives.length /\ i= .int .i64 k /\ Zo wr w.heap.size m g.lives.length g.lives.length (fillL f g.lives.length k) /\ w3.grownBy wr (some m)) (fun i _=>g.lives.length-(intOf i).toNat)
 case atStart=>exact ⟨0,Nat.zero_le _,rfl,hown3,gby_refl _ _⟩
 case round=>
   clear hown3
   obtain ⟨k,hk,rfl,hZ,hg⟩:=hrel
   by_cases hkl:k<g.lives.length
   · have hki:(k:Int)<(g.lives.length:Int):=by omega
     have hkw:IntKind.i64.wrap ((k:Int)+1)=(k:Int)+1:=wrap_nj _ (by omega) (by omega)
     have fz:=World.ownsRow.frozenAt hZ k
     have cv:=Zo.cell hZ hkl
     obtain ⟨w4,hw4⟩:∃x,x=wr.setCell ⟨m,k,none⟩ (.int .i64 1099511627776):=⟨_,rfl⟩
     have hZ4:Zo w4 w.heap.size m g.lives.length g.lives.length ((fillL f g.lives.length k).set k 1099511627776):=by rw [hw4];exact Zo.set hZ k _
     have hg4:w3.grownBy w4 (some m):=by rw [hw4];exact gby_trans hg (gby_setOne _ _ _ _)
     have k0:w4.cell? ⟨w.heap.size,0,none⟩=some (.int .i64 g.hor):=hg4.cell HB3.out.c0 (by simp only;intro h;cases h;exact hwne rfl)
     have k1:w4.cell? ⟨w.heap.size,1,none⟩=some (.slice la g.lives.length lc):=hg4.cell HB3.out.c1 (by simp only;intro h;cases h;exact hwne rfl)
     have k2:w4.cell? ⟨w.heap.size,2,none⟩=some (.slice ea g.edges.length ec):=hg4.cell HB3.out.c2 (by simp only;intro h;cases h;exact hwne rfl)
     have hb4:Below w.heap.size w w4:=HB3.out.bel.grown hg4 HB3.out.bel.size (fun j hj=>by cases hj;have:=(World.ownsRow.lt hZ _ rfl).1;omega)
     have hL4:=HL.out w4 hb4 k hkl
     have M4:MapAt w4 b n M:=HM3.out.kept hg4 (fun h=>hbne (by cases h;rfl))
     have hlt:=HLt.out k hkl
     have HFk:=hideg (HF.out k)
     have HSt:=hideg (fill_set f g.lives.length k hkl)
     have hw4s:=hw4.symm
     clear hw4 hZ hg hb4
     generalize lastT g k=T at*
     go_wp2_with fail
     refine hL4.mono ?_
     rintro r w5 ⟨rfl,hb5⟩
     have M5:=M4.below hb5
     have hZ5:=ownsRow_below hZ4 hb5
     have hg5:=gby_trans hg4 (gby_of_below hb5 (some m))
     have q1:=M5.look (v:=(k:Int)) (t:=T) (wi_small (by omega) (by omega)) (wi_small (by omega) (by omega))
     clear hL4 hb5 M4 M5 hZ4 hg4 k0 k1 k2 hw4s fz cv
     unfold prF at HFk
     cases hz:M (k:Int) T with
     | none=>
       rw [hz] at q1 HFk
       simp only [keyV,Option.getD_none,encV_mk,Option.isSome_none] at q1
       simp only at HFk
       have HZ6:Hid (∀o,Zo (w5.alloc o) w.heap.size m g.lives.length g.lives.length (fillL f g.lives.length (k+1)) /\ w3.grownBy (w5.alloc o) (some m)):=fun o=>by
         rw [<- HSt.out,HFk.out];exact ⟨ownsRow_below hZ5 (gal w5 o),gby_trans hg5 (gby_of_below (gal w5 o) _)⟩
       clear hZ5 hg5 hz HFk HSt
       go_wp2
       go_roundw
       case rel=>exact ⟨k+1,by omega,by go_num,(HZ6.out _).1,(HZ6.out _).2⟩
       case measure=>simp [intOf];omega
     | some z=>
       obtain ⟨q,E2,d2,a2,e2,ar2,c2⟩:=z
       rw [hz] at q1 HFk
       simp only [keyV,Option.getD_some,encV_mk,Option.isSome_some] at q1
       simp only at HFk
       obtain ⟨w6,hw6⟩:∃x,x=w5.alloc (.cells #[.int .i64 q,.int .i64 E2,.int .i64 d2,.int .i64 a2,.int .i64 e2,.int .i64 ar2,.int .i64 c2] 119):=⟨_,rfl⟩
       have b6:Below w5.heap.size w5 w6:=by rw [hw6];exact gal w5 _
       have v0:w6.cell? ⟨w5.heap.size,0,none⟩=some (.int .i64 q):=by rw [hw6];exact new_cell rfl rfl
       have hZ6:=ownsRow_below hZ5 b6
       have fz:=World.ownsRow.frozenAt hZ6 k
       have cv:=Zo.cell hZ6 hkl
       have HZ7:Hid (Zo (w6.setCell ⟨m,k,none⟩ (.int .i64 q)) w.heap.size m g.lives.length g.lives.length (fillL f g.lives.length (k+1)) /\ w3.grownBy (w6.setCell ⟨m,k,none⟩ (.int .i64 q)) (some m)):=by
         refine ⟨?_,gby_trans (gby_trans hg5 (gby_of_below b6 _)) (gby_setOne _ _ _ _)⟩
         have h7:=Zo.set hZ6 k q
         have e7:=HSt.out
         rw [HFk.out] at e7
         rw [List.set_set,e7] at h7
         exact h7
       have hw6s:=hw6.symm
       clear hZ5 hg5 hz HFk HSt hw6 hZ6 b6
       go_wp2
       go_roundw
       case rel=>exact ⟨k+1,by omega,by go_num,HZ7.out.1,HZ7.out.2⟩
       case measure=>simp [intOf];omega
   · have hke:k=g.lives.length:=by omega
     subst hke
     have HZ:=hideg hZ
     have hm0:=(World.ownsRow.lt hZ _ rfl).1
     have HbF:Hid (Below w.heap.size w wr):=HB3.out.bel.grown hg HB3.out.bel.size (fun j hj=>by cases hj;omega)
     have HLn:=hideg (fill_len f g.lives.length g.lives.length)
     clear hZ hg
     go_wp2
     (try simp only [Exit.inBlock,Exit.then]);refine bodyPost_ret (results_two_e rfl _ _ _) rfl ?_
     refine ⟨_,rfl,fillL f g.lives.length g.lives.length,HE2.out,?_,HbF.out⟩
     rw [HLn.out];exact HZ.out
set_option maxRecDepth 100000 in
theorem cCosts_any (g:Gr) (la ea:Option Addr) (lc ec:Nat) (v t:Int) (w:World) (hG:GAt w la ea g):
   Calls Seq.prog 14 #[.agg #[.int .i64 g.hor,.slice la g.lives.length lc,.slice ea g.edges.length ec],.int .i64 v,.int .i64 t] w fun r w' =>∃u L,r= .returned (.tuple #[u,.int .i64 (placeE g v t)]) /\ LeastE g prCost v t L /\ w'.ownsRow w.heap.size 3 1 u L.length (L.map (Value.int .i64)) /\ Below w.heap.size w w':=by
 have B0:=gbx_start w g la ea lc ec 25
 have h1:=leastPrices_any g la ea lc ec prCost v t 39 (fun args w=>Tryz.call39 args w) _ (hG.below B0.bel) (fun R=>prCost_ok R) costOf_any
 have HB:=hideg B0
 clear hG B0
 go_enter Seq.func14,Tryz.ntmps14
 go_wp2_with fail
 refine h1.mono ?_
 rintro r w1 ⟨u,L,rfl,hL,ho,hb⟩
 have HL:=hideg hL
 have HO:=hideg (owns_base2 ho HB.out.bel.size)
 have HB1:=hideg (HB.out.below hb).bel
 clear h1 hL ho hb
 go_wp2
 (try simp only [Exit.inBlock,Exit.then]);refine bodyPost_ret (results_two_e rfl _ _ _) rfl ?_
 exact ⟨_,_,rfl,HL.out,HO.out,HB1.out⟩
theorem pay_bound {g:Gr} {pr:Ri -> Int} {v t:Int} {b:Int -> Int} (hb:b v <= 0) (hr:∀r∈ridesF g,b r.2.2.2.1 <= b r.2.2.1+pr r) {x y p:Int} (h:Pay g pr v t x y p):b x <= p:=by
 obtain ⟨_,h⟩:=h
 induction h with
 | @base x y p h=>
   unfold F1 at h
   split at h
   · rename_i e;obtain ⟨rfl,_⟩:=e;cases h;exact hb
   · cases h
 | wait _ _ ih=>exact ih
 | ride hm _ ih=>have:=hr _ hm;omega
def arrA (g:Gr) (v t:Int):List Int:=if placeE g v t=0 then (erF g v t).1 else []
set_option maxRecDepth 100000 in
set_option maxHeartbeats 1000000 in
theorem eArr_any (g:Gr) (la ea:Option Addr) (lc ec:Nat) (v t:Int) (w:World) (hG:GAt w la ea g):
   Calls Seq.prog 13 #[.agg #[.int .i64 g.hor,.slice la g.lives.length lc,.slice ea g.edges.length ec],.int .i64 v,.int .i64 t] w fun r w' =>∃u,r= .returned (.tuple #[u,.int .i64 (placeE g v t)]) /\ w'.ownsRow w.heap.size 3 1 u (arrA g v t).length ((arrA g v t).map (Value.int .i64)) /\ Below w.heap.size w w':=by
 have B0:=gbx_start w g la ea lc ec 25
 have h1:=jcheck_any g la ea lc ec v t _ (hG.below B0.bel)
 by_cases e1:placeE g v t=0
 case neg=>
   have HP:Hid (arrA g v t=[]):=by show _=_;unfold arrA;rw [if_neg e1]
   have d1:(placeE g v t !=0)=true:=by simpa using e1
   generalize placeE g v t=n at*
   clear e1 hG
   go_enter Seq.func13,Tryz.ntmps13
   go_wp2_with fail
   refine h1.mono ?_
   rintro r w1 ⟨rfl,hb1⟩
   have hbF:=(B0.below hb1).bel
   clear h1 hb1 B0
   go_wp2
   (try simp only [Exit.inBlock,Exit.then]);refine bodyPost_ret (results_two_e rfl _ _ _) rfl ?_
   exact ⟨_,rfl,by rw [HP.out];exact World.ownsRow_nil _ _ _ _,hbF⟩
 have HP:Hid (arrA g v t=(erF g v t).1):=by show _=_;unfold arrA;rw [if_pos e1]
 have HL:=hideg (erF_len g v t).1
 have h2:=fun W (hb:Below w.heap.size w W)=>earliest_any g la ea lc ec v t W (hG.below hb) e1
 rw [e1] at h1 ⊢
 generalize (erF g v t).1=T at*
 generalize (erF g v t).2=L at*
 have HP2:=HP.out
 have HQ:=hideg HP2
 clear hG e1 HP HP2
 go_enter Seq.func13,Tryz.ntmps13
 go_wp2_with fail
 refine h1.mono ?_
 rintro r w1 ⟨rfl,hb1⟩
 have B1:=B0.below hb1
 have g0:=B1.c0
 have g1:=B1.c1
 have g2:=B1.c2
 have hbx:=B1.bel
 clear h1 hb1 B0
 go_wp2_with fail
 refine (h2 _ hbx).mono ?_
 rintro r w2 ⟨m1,m2,rfl,hZ,_,hb2⟩
 have HZ:=hideg (owns_base2 hZ hbx.size)
 have hbF:=ptg hbx hb2
 clear h2 hZ hb2 g0 g1 g2 hbx B1
 go_wp2
 (try simp only [Exit.inBlock,Exit.then]);refine bodyPost_ret (results_two_e rfl _ _ _) rfl ?_
 exact ⟨_,rfl,by rw [HQ.out,HL.out];exact HZ.out,hbF⟩
def RevTo (l m:List Hp) (k:Nat):Prop:=m.length=l.length /\ ∀x,x<l.length -> m.getD x (0,0)=if x<k \/ l.length <= x+k then l.getD (l.length- 1-x) (0,0) else l.getD x (0,0)
theorem revTo_zero (l:List Hp):RevTo l l 0:=⟨rfl,fun x hx=>by rw [if_neg (by omega)]⟩
theorem getD_setH (T:List Hp) (i j:Nat) (x d:Hp) (h:i<T.length):(T.set i x).getD j d=if j=i then x else T.getD j d:=by
 simp only [List.getD_eq_getElem?_getD,List.getElem?_set]
 by_cases e:i=j
 · subst e;simp [h]
 · have:¬j=i:=fun h=>e h.symm
   simp [e,this]
theorem revTo_step {l m:List Hp} {k J:Nat} (h:RevTo l m k) (hJ:J=l.length- 1-k) (hk:k<J):RevTo l ((m.set k (m.getD J (0,0))).set J (m.getD k (0,0))) (k+1):=by
 have hl:=h.1
 refine ⟨by simp [hl],fun x hx=> ?_⟩
 rw [getD_setH _ _ _ _ _ (by simp [hl];omega),getD_setH _ _ _ _ _ (by omega)]
 by_cases e1:x=J
 · rw [if_pos e1,h.2 k (by omega),if_neg (by omega),if_pos (by omega)]
   congr 1;omega
 · rw [if_neg e1]
   by_cases e2:x=k
   · rw [if_pos e2,h.2 J (by omega),if_neg (by omega),if_pos (by omega)]
     congr 1;omega
   · rw [if_neg e2,h.2 x hx]
     by_cases e3:x<k \/ l.length <= x+k
     · rw [if_pos e3,if_pos (by omega)]
     · rw [if_neg e3,if_neg (by omega)]
theorem revTo_end {l m:List Hp} {k:Nat} (h:RevTo l m k) (hk:l.length <= k+k+1):m=l.reverse:=by
 apply List.ext_getElem (by simp [h.1])
 intro x h1 h2
 have hx:x<l.length:=by rw [<- h.1];exact h1
 have:=h.2 x hx
 rw [List.getD_eq_getElem?_getD,List.getElem?_eq_getElem h1,Option.getD_some] at this
 rw [this,List.getElem_reverse]
 have e:∀y (hy:y<l.length),l.getD y (0,0)=l[y]:=fun y hy=>by rw [List.getD_eq_getElem?_getD,List.getElem?_eq_getElem hy];rfl
 split
 · exact e _ (by omega)
 · rw [e x hx]
   congr 1
   omega
theorem encs_cons (x:Hp) (l:List Hp):encs (x::l)= .int .i64 x.1:: .int .i64 x.2::encs l:=by simp [encs,flat]
theorem encs_set:∀(m:List Hp) (k:Nat) (q:Hp),k<m.length -> ((encs m).set (k*2) (.int .i64 q.1)).set (k*2+1) (.int .i64 q.2)=encs (m.set k q)
 | [],k,q,h=>by simp at h
 | x::m,0,q,_=>by
   have e:(x::m).set 0 q=q::m:=rfl
   rw [e,encs_cons,encs_cons];rfl
 | x::m,k+1,q,h=>by
   have ih:=encs_set m k q (by simpa using h)
   have e:(x::m).set (k+1) q=x::m.set k q:=rfl
   rw [e,encs_cons,encs_cons,<- ih,show (k+1)*2=k*2+1+1 from by omega]
   rfl
abbrev Ho (w:World) (base gb n cap:Nat) (x:List Hp):Prop:=w.ownsRow base 63 2 (.slice (some ⟨gb,0,none⟩) n cap) n (encs x)
theorem encs_len (l:List Hp):(encs l).length=l.length*2:=by
 induction l with
 | nil=>rfl
 | cons x l ih=>rw [encs_cons];simp only [List.length_cons,ih];omega
theorem Ho.len {w:World} {base gb n cap:Nat} {x:List Hp} (h:Ho w base gb n cap x):x.length=n:=by have:=h.1;rw [encs_len] at this;omega
theorem encs_get (l:List Hp) (j:Nat) (h:j<l.length):(encs l)[j*2]? =some (.int .i64 (l.getD j (0,0)).1) /\ (encs l)[j*2+1]? =some (.int .i64 (l.getD j (0,0)).2):=by
 induction l generalizing j with
 | nil=>simp at h
 | cons c l ih=>
   rw [encs_cons]
   cases j with
   | zero=>exact ⟨rfl,rfl⟩
   | succ j=>
     have:=ih j (by simpa using h)
     rw [show (j+1)*2=j*2+1+1 by omega]
     simpa using this
theorem Ho.one {w:World} {base gb n cap:Nat} {x:List Hp} (h:Ho w base gb n cap x) {k:Nat} (hk:k<n):w.cell? ⟨gb,k*2,none⟩=some (.int .i64 (x.getD k (0,0)).1) /\ w.cell? ⟨gb,k*2+1,none⟩=some (.int .i64 (x.getD k (0,0)).2):=by
 have hl:=h.len
 obtain ⟨f0,f1⟩:=encs_get x k (by omega)
 exact ⟨by rw [World.ownsRow.cellAt h (k*2) (by omega)];exact f0,by rw [World.ownsRow.cellAt h (k*2+1) (by omega)];exact f1⟩
theorem Ho.set {w:World} {base gb n cap:Nat} {x:List Hp} (h:Ho w base gb n cap x) {k:Nat} (hk:k<n) (q:Hp):Ho ((w.setCell ⟨gb,k*2,none⟩ (.int .i64 q.1)).setCell ⟨gb,k*2+1,none⟩ (.int .i64 q.2)) base gb n cap (x.set k q):=by
 have hl:=h.len
 have h5:=(World.ownsRow.stored ((World.ownsRow.stored h (k*2) (.int .i64 q.1)).1) (k*2+1) (.int .i64 q.2)).1
 rw [encs_set x k q (by omega)] at h5
 exact h5
set_option maxRecDepth 100000 in
set_option maxHeartbeats 1000000 in
theorem Reverse_any (base gb cap:Nat) (l:List Hp) (w:World) (h:Ho w base gb l.length cap l) (hl:l.length <= 4000):
   Calls Seq.prog 47 #[.slice (some ⟨gb,0,none⟩) l.length cap] w fun r w' =>(∃v,r= .returned v) /\ Ho w' base gb l.length cap l.reverse /\ Below base w w':=by
 have hbg:base <= gb:=(World.ownsRow.lt h _ rfl).1
 have hwl:IntKind.i64.wrap ((l.length:Int)- 1)=(l.length:Int)- 1:=wrap_nj _ (by omega) (by omega)
 have HH:=hideg h
 clear h
 go_enter Seq.func47,Tryz.ntmps47
 go_wp2_with fail
 go_loopw [2,3] (fun i j wr=>∃(k:Nat) (m:List Hp),k <= l.length /\ i= .int .i64 k /\ j= .int .i64 ((l.length:Int)- 1-(k:Int)) /\ RevTo l m k /\ Ho wr base gb l.length cap m /\ Below base w wr) (fun i j _=>(intOf j+1-intOf i).toNat)
 case atStart=>exact ⟨0,l,Nat.zero_le _,rfl,by simp,revTo_zero l,HH.out,Below.refl _ _⟩
 case round=>
   clear HH hwl
   obtain ⟨k,m,hk,rfl,rfl,hR,hO,hb⟩:=hrel
   have hml:=hO.len
   by_cases hkJ:(k:Int)<(l.length:Int)- 1-(k:Int)
   · obtain ⟨J,hJ⟩:∃J:Nat,J=l.length- 1-k:=⟨_,rfl⟩
     have hJi:(l.length:Int)- 1-(k:Int)=(J:Int):=by omega
     have HJn:Hid ((J:Int)- 1=(l.length:Int)- 1-((k+1:Nat):Int)):=by show _=_;omega
     have hkJn:k<J:=by omega
     have hkl:k<l.length:=by omega
     have hJl:J<l.length:=by omega
     rw [hJi] at hkJ ⊢
     have HR2:=hideg (revTo_step hR hJ hkJn)
     have hO1:=hideg (fun (p q:Hp)=>(hO.set hkl p).set hJl q)
     obtain ⟨ck0,ck1⟩:=hO.one hkl
     obtain ⟨cj0,cj1⟩:=hO.one hJl
     have fz:=fun j=>World.ownsRow.frozenAt hO j
     have hkli:(k:Int)<(l.length:Int):=by omega
     have hJli:(J:Int)<(l.length:Int):=by omega
     have hw1:IntKind.i64.wrap ((k:Int)+1)=(k:Int)+1:=wrap_nj _ (by omega) (by omega)
     have hw2:IntKind.i64.wrap ((J:Int)- 1)=(J:Int)- 1:=wrap_nj _ (by omega) (by omega)
     generalize m.getD k (0,0)=P at*
     generalize m.getD J (0,0)=Q at*
     clear hJ hJi hR
     have hBel:Hid (∀x y z v,Below base w ((((wr.setCell ⟨gb,k*2,none⟩ x).setCell ⟨gb,k*2+1,none⟩ y).setCell ⟨gb,J*2,none⟩ z).setCell ⟨gb,J*2+1,none⟩ v).drew):=fun x y z v=>((((hb.setCell (p:=⟨gb,k*2,none⟩) hbg x).setCell (p:=⟨gb,k*2+1,none⟩) hbg y).setCell (p:=⟨gb,J*2,none⟩) hbg z).setCell (p:=⟨gb,J*2+1,none⟩) hbg v).drew
     obtain ⟨p1,p2⟩:=P
     obtain ⟨q1,q2⟩:=Q
     simp only at ck0 ck1 cj0 cj1 HR2
     go_wp2_with fail
     go_region
     have HF:Hid (Ho ((((wr.setCell ⟨gb,k*2,none⟩ (.int .i64 q1)).setCell ⟨gb,k*2+1,none⟩ (.int .i64 q2)).setCell ⟨gb,J*2,none⟩ (.int .i64 p1)).setCell ⟨gb,J*2+1,none⟩ (.int .i64 p2)).drew base gb l.length cap ((m.set k (q1,q2)).set J (p1,p2)) /\ Below base w ((((wr.setCell ⟨gb,k*2,none⟩ (.int .i64 q1)).setCell ⟨gb,k*2+1,none⟩ (.int .i64 q2)).setCell ⟨gb,J*2,none⟩ (.int .i64 p1)).setCell ⟨gb,J*2+1,none⟩ (.int .i64 p2)).drew):=⟨(hO1.out (q1,q2) (p1,p2)).drew,hBel.out _ _ _ _⟩
     clear hO1 hBel hO fz ck0 ck1 cj0 cj1
     generalize ((((wr.setCell ⟨gb,k*2,none⟩ (.int .i64 q1)).setCell ⟨gb,k*2+1,none⟩ (.int .i64 q2)).setCell ⟨gb,J*2,none⟩ (.int .i64 p1)).setCell ⟨gb,J*2+1,none⟩ (.int .i64 p2)).drew=w9 at*
     go_wp2
     go_roundw
     case rel=>exact ⟨k+1,_,by omega,by go_num,by rw [<- HJn.out],HR2.out,HF.out.1,HF.out.2⟩
     case measure=>simp [intOf]<;>omega
   · have hend:l.length <= k+k+1:=by omega
     have HE:Hid (Ho wr base gb l.length cap l.reverse):=by rw [<- revTo_end hR hend];exact hO
     have hnk:¬(k:Int)<(l.length:Int)- 1-(k:Int):=hkJ
     clear hR hO hend
     go_wp2_with fail
     refine bodyPost_end (results_none rfl _ _ _) rfl ⟨⟨_,rfl⟩,HE.out,hb⟩
set_option maxRecDepth 100000 in
theorem Reverse_nil (w:World):Calls Seq.prog 47 #[.slice none 0 0] w fun r w' =>(∃v,r= .returned v) /\ w' =w:=by
 go_enter Seq.func47,Tryz.ntmps47
 go_wp2_with fail
 go_loopw [2,3] (fun i j wr=>i= .int .i64 0 /\ j= .int .i64 (-1) /\ wr=w) (fun i j _=>(intOf j+1-intOf i).toNat)
 case atStart=>exact ⟨rfl,by simp,rfl⟩
 case round=>
   obtain ⟨rfl,rfl,rfl⟩:=hrel
   go_wp2_with fail
   refine bodyPost_end (results_none rfl _ _ _) rfl ⟨⟨_,rfl⟩,rfl⟩
theorem Tryz.infoHopE:(Seq.prog.info? 63).map (fun i=>(i.zero,i.size,i.bytes))=some (some (.agg #[.int .i64 0,.int .i64 0]),2,16):=by kernel_rfl
def trF (L:List Ri) (v:Int):Nat -> Int -> List Hp
 | 0,_=>[]
 | f+1,x=>if x=v then [] else ((L.getD x.toNat (0,0,0,0,0,0)).1,(L.getD x.toNat (0,0,0,0,0,0)).2.1)::trF L v f (L.getD x.toNat (0,0,0,0,0,0)).2.2.1
theorem trF_at (L:List Ri) (v:Int) (f:Nat):trF L v f v=[]:=by cases f<;>simp [trF]
theorem trF_step (L:List Ri) {v x:Int} (f:Nat) (h:x≠v):trF L v (f+1) x=((L.getD x.toNat (0,0,0,0,0,0)).1,(L.getD x.toNat (0,0,0,0,0,0)).2.1)::trF L v f (L.getD x.toNat (0,0,0,0,0,0)).2.2.1:=by rw [trF,if_neg h]
def WayIs (g:Gr) (v t q e:Int) (l:List Hp):Prop:=
 (placeE g v t≠0 /\ e=placeE g v t /\ l=[]) \/
 (placeE g v t=0 /\ (¬(0 <= q /\ q<g.lives.length) \/ (erF g v t).1.getD q.toNat 0=1099511627776) /\ e=4 /\ l=[]) \/
 (placeE g v t=0 /\ (0 <= q /\ q<g.lives.length) /\ (erF g v t).1.getD q.toNat 0≠1099511627776 /\ e=0 /\ WayTo g (erF g v t).1 v q l /\ l=(trF (erF g v t).2 v 300 q).reverse)
set_option maxRecDepth 100000 in
set_option maxHeartbeats 400000 in
theorem eWay_any (g:Gr) (la ea:Option Addr) (lc ec:Nat) (v t q:Int) (w:World) (hG:GAt w la ea g):
   Calls Seq.prog 18 #[.agg #[.int .i64 g.hor,.slice la g.lives.length lc,.slice ea g.edges.length ec],.int .i64 v,.int .i64 t,.int .i64 q] w fun r w' =>∃u e l,r= .returned (.tuple #[u,.int .i64 e]) /\ WayIs g v t q e l /\ w'.ownsRow w.heap.size 63 2 u l.length (encs l) /\ Below w.heap.size w w':=by
 obtain ⟨i0,hi,hz0,hz1,hz2⟩:=info_parts Tryz.infoHopE
 have B0:=gbx_start w g la ea lc ec 25
 have h1:=jcheck_any g la ea lc ec v t _ (hG.below B0.bel)
 by_cases e1:placeE g v t=0
 case neg=>
   have HP:Hid (WayIs g v t q (placeE g v t) []):= .inl ⟨e1,rfl,rfl⟩
   have d1:(placeE g v t !=0)=true:=by simpa using e1
   generalize placeE g v t=n at*
   clear e1 hG
   go_enter Seq.func18,Tryz.ntmps18
   go_wp2_with fail
   refine h1.mono ?_
   rintro r w1 ⟨rfl,hb1⟩
   have hbF:=(B0.below hb1).bel
   clear h1 hb1 B0
   go_wp2
   (try simp only [Exit.inBlock,Exit.then]);refine bodyPost_ret (results_two_e rfl _ _ _) rfl ?_
   exact ⟨_,_,_,rfl,HP.out,World.ownsRow_nil _ _ _ _,hbF⟩
 have HP2:Hid ((¬(0 <= q /\ q<g.lives.length) \/ (erF g v t).1.getD q.toNat 0=1099511627776) -> WayIs g v t q 4 []):=fun h=> .inr (.inl ⟨e1,h,rfl,rfl⟩)
 have HP3:Hid ((0 <= q /\ q<g.lives.length) -> (erF g v t).1.getD q.toNat 0≠1099511627776 -> ∀l,WayTo g (erF g v t).1 v q l -> l=(trF (erF g v t).2 v 300 q).reverse -> WayIs g v t q 0 l):=fun h1 h2 l h h' => .inr (.inr ⟨e1,h1,h2,rfl,h,h'⟩)
 have h2:=fun W (hb:Below w.heap.size w W)=>earliest_any g la ea lc ec v t W (hG.below hb) e1
 obtain ⟨hg0,⟨hv0,hv1⟩,ht0,ht1⟩:=placeE_zero e1
 have hR:=gChk_right hg0
 have hn12:=hR.lvs
 have hhor:=hR.hor
 have HEr:Hid (aliveB t g.lives v=true -> ErOk g v t (erF g v t)):=fun ha=>(erF_ok hR hv0 ha).1
 have HAw:Hid (¬aliveB t g.lives v=true -> (erF g v t).1=List.replicate g.lives.length 1099511627776):=fun ha=>erF_away ha
 rw [e1] at h1
 have HRt:=hideg hR
 clear hG e1 hg0 hR
 have hvq:=fun W=>gHasV_any g.hor la ea g.lives.length lc g.edges.length ec q W hn12
 by_cases bq:inR q 0 ((g.lives.length:Int)- 1)=true
 case neg=>
   rw [Bool.not_eq_true] at bq
   have HW:=hideg (HP2.out (.inl (fun h=>by rw [(inR_iff q 0 ((g.lives.length:Int)- 1)).2 (by omega)] at bq;cases bq)))
   rw [bq] at hvq
   clear HP2 HP3 h2 HEr HAw bq
   go_enter Seq.func18,Tryz.ntmps18
   go_wp2_with fail
   refine h1.mono ?_
   rintro r w1 ⟨rfl,hb1⟩
   have B1:=B0.below hb1
   have g0:=B1.c0
   have g1:=B1.c1
   have g2:=B1.c2
   clear h1 hb1 B0
   go_wp2_with fail
   refine (hvq _).mono ?_
   rintro r w2 ⟨rfl,hb2⟩
   have hbF:=(B1.below hb2).bel
   clear hvq hb2 B1 g0 g1 g2
   go_wp2
   (try simp only [Exit.inBlock,Exit.then]);refine bodyPost_ret (results_two_e rfl _ _ _) rfl ?_
   exact ⟨_,_,_,rfl,HW.out,World.ownsRow_nil _ _ _ _,hbF⟩
 have hq01:=(inR_iff q 0 ((g.lives.length:Int)- 1)).1 bq
 rw [bq] at hvq
 clear bq
 obtain ⟨Y,rfl⟩:∃Y:Nat,q=(Y:Int):=⟨q.toNat,by omega⟩
 have hY:Y<g.lives.length:=by omega
 have hlT:=(erF_len g v t).1
 have hlL:=(erF_len g v t).2
 simp only [Int.toNat_natCast] at HP2 HP3
 obtain ⟨T,hT⟩:∃T,T=(erF g v t).1:=⟨_,rfl⟩
 obtain ⟨L,hL⟩:∃L,L=(erF g v t).2:=⟨_,rfl⟩
 have hTL:erF g v t=(T,L):=by rw [hT,hL]
 rw [<- hT] at h2 HP2 HP3 HAw hlT
 rw [<- hL] at h2 hlL HP3
 rw [hTL] at HEr
 clear hT hL hTL
 obtain ⟨y,hy⟩:∃y,y=T.getD Y 0:=⟨_,rfl⟩
 rw [<- hy] at HP2 HP3
 by_cases e2:y=1099511627776
 · have HW:=hideg (HP2.out (.inr e2))
   subst e2
   clear HP2 HP3 HEr HAw
   go_enter Seq.func18,Tryz.ntmps18
   go_wp2_with fail
   refine h1.mono ?_
   rintro r w1 ⟨rfl,hb1⟩
   have B01:=B0.below hb1
   have g0:=B01.c0
   have g1:=B01.c1
   have g2:=B01.c2
   clear h1 hb1 B0
   go_wp2_with fail
   refine (hvq _).mono ?_
   rintro r w11 ⟨rfl,hb11⟩
   have B1:=B01.below hb11
   clear hvq hb11 B01 g0 g1 g2
   have g0:=B1.c0
   have g1:=B1.c1
   have g2:=B1.c2
   have hbx:=B1.bel
   go_wp2_with fail
   refine (h2 _ hbx).mono ?_
   rintro r w2 ⟨m1,m2,rfl,hZ,_,hb2⟩
   have cY:=hZ.cell hY
   rw [<- hy] at cY
   have hbF:=ptg hbx hb2
   clear h2 hZ hb2 g0 g1 g2 hbx B1 hy
   go_wp2
   (try simp only [Exit.inBlock,Exit.then]);refine bodyPost_ret (results_two_e rfl _ _ _) rfl ?_
   exact ⟨_,_,_,rfl,HW.out,World.ownsRow_nil _ _ _ _,hbF⟩
 have d2:(y==1099511627776)=false:=by simpa using e2
 have hal:aliveB t g.lives v=true:=by
   refine Classical.byContradiction fun h=>e2 ?_
   rw [hy,HAw.out h,rep_getD _ _ _ hY]
 have HE:=hideg (HEr.out hal)
 have HW:=hideg (HP3.out ⟨by omega,by omega⟩ e2)
 have HY:Hid (T.getD Y 0≠1099511627776):=by rw [<- hy];exact e2
 clear HP2 HP3 HEr HAw hal e2
 obtain ⟨V,rfl⟩:∃V:Nat,v=(V:Int):=⟨v.toNat,by omega⟩
 go_enter Seq.func18,Tryz.ntmps18
 go_wp2_with fail
 refine h1.mono ?_
 rintro r w1 ⟨rfl,hb1⟩
 have B01:=B0.below hb1
 have g0:=B01.c0
 have g1:=B01.c1
 have g2:=B01.c2
 clear h1 hb1 B0
 go_wp2_with fail
 refine (hvq _).mono ?_
 rintro r w11 ⟨rfl,hb11⟩
 have B1:=B01.below hb11
 clear hvq hb11 B01 g0 g1 g2
 have g0:=B1.c0
 have g1:=B1.c1
 have g2:=B1.c2
 have hbx:=B1.bel
 go_wp2_with fail
 refine (h2 _ hbx).mono ?_
 rintro r w2 ⟨m1,m2,rfl,hZ,hLr,hb2⟩
 have cY:=hZ.cell hY
 rw [<- hy] at cY
 have HbF:=hideg (ptg hbx hb2)
 have HLr:=hideg hLr
 have HS1:=hideg hbx.size
 clear h2 hZ hb2 g0 g1 g2 hbx B1 hy hLr hlT hlL
 go_wp2_with fail
 go_loopw [13,14] (fun u x wr=>∃(X:Nat) (l:List Hp),X<g.lives.length /\ x= .int .i64 X /\ T.getD X 0≠1099511627776 /\ WayTo g T X Y l.reverse /\ (∀f,trF L (V:Int) (f+l.length) (Y:Int)=l++trF L (V:Int) f (X:Int)) /\ wr.ownsRow w2.heap.size 63 2 u l.length (encs l) /\ Below w2.heap.size w2 wr) (fun _ x _=>(T.getD (intOf x).toNat 0).toNat)
 case atStart=>exact ⟨Y,[],hY,rfl,HY.out,wayTo_nil g T Y,fun f=>rfl,World.ownsRow_nil _ _ _ _,Below.refl _ _⟩
 case round=>
   clear cY d2
   obtain ⟨X,l,hX,rfl,hXi,hW,hTr,hown,hb⟩:=hrel
   have HTr:=hideg hTr
   clear hTr
   have hTx:0 <= T.getD X 0 /\ T.getD X 0<g.hor:=by
     rcases HE.out.is X hX with e | e
     · exact absurd e hXi
     · have:=e.place HRt.out (by omega);exact this.2.2
   have hTy:T.getD Y 0<g.hor:=by
     rcases HE.out.is Y hY with e | e
     · exact absurd e HY.out
     · have:=e.place HRt.out (by omega);exact this.2.2.2
   have hll:l.length <= 200:=by
     have:=hW.len
     simp only [Int.toNat_natCast,List.length_reverse] at this
     omega
   by_cases hXV:X=V
   · subst hXV
     have HWl:=hideg (HW.out _ hW (by
       have h9:=HTr.out (300-l.length)
       rw [trF_at,List.append_nil,show 300-l.length+l.length=300 by omega] at h9
       rw [h9]))
     have hbF:Below w.heap.size w wr:=HbF.out.trans (hb.mono HbF.out.size)
     clear hW hXi hTx hTy
     rcases hown.2 with ⟨hu,h0⟩ | ⟨gb,cap,cur,hu,hgb,hh,h3,h4,h5,h6⟩
     · have hl0:l=[]:=List.eq_nil_of_length_eq_zero h0
       subst hl0
       subst hu
       have hRv:=fun W=>Reverse_nil W
       clear hown h0
       go_wp2_with fail
       refine (hRv _).mono ?_
       rintro r w5 ⟨⟨vv,rfl⟩,rfl⟩
       clear hRv
       go_wp2
       (try simp only [Exit.inBlock,Exit.then]);refine bodyPost_ret (results_two_e rfl _ _ _) rfl ?_
       exact ⟨_,_,_,rfl,HWl.out,World.ownsRow_nil _ _ _ _,hbF⟩
     · subst hu
       have hRv:=Reverse_any w2.heap.size gb cap l wr hown (by omega)
       clear hown hh h6 h5 h3 h4 hgb
       go_wp2_with fail
       refine hRv.mono ?_
       rintro r w5 ⟨⟨vv,rfl⟩,hO5,hb5⟩
       have HO5:Hid (w5.ownsRow w.heap.size 63 2 (.slice (some ⟨gb,0,none⟩) l.length cap) l.reverse.length (encs l.reverse)):=by
         rw [List.length_reverse];exact owns_base2 hO5 HbF.out.size
       have HB5:=hideg (HbF.out.trans ((hb.trans hb5).mono HbF.out.size))
       clear hRv hO5 hb5
       go_wp2
       (try simp only [Exit.inBlock,Exit.then]);refine bodyPost_ret (results_two_e rfl _ _ _) rfl ?_
       exact ⟨_,_,_,rfl,HWl.out,HO5.out,HB5.out⟩
   · have hXVi:((X:Int) !=(V:Int))=true:=by simp;omega
     obtain ⟨rOk,rTo,rAr,rFr⟩:=HE.out.way X hX hXi (by omega)
     simp only at rOk rTo rAr rFr
     have hLx:=(HLr.out.one hX)
     unfold ri0 at hLx
     have HTs:=hideg (fun f=>trF_step L (v:=(V:Int)) (x:=(X:Int)) f (by omega))
     simp only [Int.toNat_natCast] at HTs
     generalize L.getD X (0,0,0,0,0,0)=rr at*
     obtain ⟨E,d,a,b,ar,c⟩:=rr
     simp only at rTo rAr rFr
     have ha0:=rOk.a0
     simp only at ha0
     obtain ⟨A,rfl⟩:∃A:Nat,a=(A:Int):=⟨a.toNat,by omega⟩
     have hA:A<g.lives.length:=by omega
     obtain ⟨hW2,hlt⟩:=hW.cons rOk rTo (by simpa using rAr) (by simpa using rFr)
     simp only [Int.toNat_natCast] at hlt hW2
     have HW2:Hid (WayTo g T (A:Int) (Y:Int) (l++[(E,d)]).reverse):=by rw [List.reverse_append];exact hW2
     have hAi:T.getD A 0≠1099511627776:=by omega
     have HTr2:Hid (∀f,trF L (V:Int) (f+(l++[(E,d)]).length) (Y:Int)=(l++[(E,d)])++trF L (V:Int) f (A:Int)):=fun f=>by
       have h9:=HTr.out (f+1)
       have h10:=HTs.out f
       simp only at h10
       rw [h10] at h9
       rw [List.length_append,List.length_singleton,show f+(l.length+1)=f+1+l.length by omega,h9,List.append_assoc]
       rfl
     clear HTs HTr
     have hTA:0 <= T.getD A 0:=by
       rcases HE.out.is A hA with e | e
       · exact absurd e hAi
       · have:=e.place HRt.out (by omega);exact this.2.2.1
     have hm2:=(World.ownsRow.lt HLr.out _ rfl).2
     have L5:=hLx.below hm2 hb
     have c0:=L5.c0
     have c1:=L5.c1
     have c2:=L5.c2
     simp only at c0 c1 c2
     have hXi2:(X:Int)<(g.lives.length:Int):=by omega
     have hXn:(X:Int)≠(V:Int):=by omega
     have HBg:Hid (∀(o:Obj) (w5:World),(wr.alloc o).grownBy w5 u13.ownBlock -> Below w2.heap.size w2 w5):=fun o w5 hgr=>(hb.alloc hb.size o).grown hgr (by have:=hb.size;simp at this ⊢;omega) (fun k hk=>(hown.lt k hk).1)
     have HC:Hid (∀w5,Below w2.heap.size w2 w5 -> w5.cell? ⟨m2,X*6+2,none⟩=some (.int .i64 (A:Int))):=fun w5 h=>(hLx.below hm2 h).c2
     have hs2:=hb.size
     have HT:Hid ((T.getD A 0).toNat<(T.getD X 0).toNat):=by show _<_;omega
     clear hLx L5 rOk rTo rAr rFr hW hW2 hTy HE
     go_wp2_with (at_builtin;refine stopHereR ?_)
     refine hideg ?_
     refine wpList_append_own _ rfl _ _ 57 rfl w2.heap.size 63 i0 _ 2 16 ((Seq.pu 57).trans Tryz.underlying57) hi hz0 hz1 hz2 rfl (by decide) _ _ _ rfl (World.ownsRow.alloc (w:=wr) hown _) ⟨wr.heap.size,0,none⟩ 1 1 [.int .i64 E,.int .i64 d] rfl rfl (cells_two_new _ _ _ _ _ (by simp)) (by intro u hu;simp at hu;rcases hu with rfl | rfl<;>rfl) (by unfold maxLen;omega) (by omega) (by simp;omega) ?_
     intro v' w5 hown5 hgrow _
     have hb':=HBg.out _ _ hgrow
     have c2':=HC.out _ hb'
     have R5:w5.ownsRow w2.heap.size 63 2 v' (l++[(E,d)]).length (encs (l++[(E,d)])):=by
       rw [show encs (l++[(E,d)])=encs l++[.int .i64 E,.int .i64 d] from by simp [encs,flat],List.length_append];exact hown5
     have HR5:=hideg R5
     clear hgrow hown5 c0 c1 c2 HBg HC R5
     go_wp2
     go_roundw
     case rel=>exact ⟨A,_,hA,rfl,hAi,HW2.out,HTr2.out,HR5.out,hb'⟩
     case measure=>simpa [intOf] using HT.out
theorem take_succI (l:List Int) (k:Nat) (h:k<l.length):l.take (k+1)=l.take k++[l[k]]:=List.take_succ_eq_append_getElem h
set_option maxHeartbeats 2000000 in
theorem EqualI_any (ao bo:Option Addr) (ca cb:Nat) (a b:List Int) (w:World) (hA:ZsAt w ao a) (hB:ZsAt w bo b) (hl:a.length <= 9223372036854775807):
   Calls Seq.prog 19 #[.slice ao a.length ca,.slice bo b.length cb] w fun e w' =>e= .returned (.bool (decide (a=b))) /\ Below w.heap.size w w':=by
 by_cases hlen:a.length=b.length
 · have HLN:Hid (a.length=b.length):=hlen
   rw [<- hlen]
   have hne:((a.length:Int) !=(a.length:Int))=false:=by simp
   clear hlen
   go_enter Seq.func19,Tryz.ntmps19
   go_wp2
   go_loopw [5,13] (fun _ i wr=>∃k:Nat,k <= a.length /\ i= .int .i64 k /\ a.take k=b.take k /\ Below w.heap.size w wr) (fun _ i _=>a.length-(intOf i).toNat)
   case atStart=>exact ⟨0,Nat.zero_le _,rfl,rfl,Below.refl _ _⟩
   case round=>
     obtain ⟨k,hk,rfl,hh,hb⟩:=hrel
     have HH:Hid (a.take k=b.take k):=hh
     clear hh
     by_cases hlt:k<a.length
     · have hlt' :k<b.length:=by have:=HLN.out;omega
       rcases hA.below hb with h0 | ⟨b1,o1,rfl,hb1,hc1⟩
       · subst h0;simp at hlt
       rcases hB.below hb with h0 | ⟨b2,o2,rfl,hb2,hc2⟩
       · subst h0;simp at hlt'
       have c0:=hc1 k hlt
       have d0:=hc2 k hlt'
       rw [List.getD_eq_getElem?_getD,List.getElem?_eq_getElem hlt,Option.getD_some] at c0
       rw [List.getD_eq_getElem?_getD,List.getElem?_eq_getElem hlt',Option.getD_some] at d0
       clear hc1 hc2 hA hB
       by_cases g:a[k]=b[k]
       · have HC:Hid (a.take (k+1)=b.take (k+1)):=by show _=_;rw [take_succI a k hlt,take_succI b k hlt',HH.out,g]
         have e1:(a[k] !=b[k])=false:=by simpa using g
         clear g
         go_wp2
         go_quiet (fail)
         go_wp2
         go_roundw
         case rel=>exact ⟨k+1,by omega,by go_num,HC.out,below_drewN hb _⟩
         case measure=>simp [intOf];omega
       · have HC:Hid (decide (a=b)=false):=by
           show _=_
           rw [decide_eq_false_iff_not]
           intro h;subst h;exact g rfl
         have e1:(a[k] !=b[k])=true:=by simpa using g
         clear g
         go_wp2
         go_quiet (fail)
         go_wp2
         go_ret
         exact ⟨retp_bool HC.out.symm,below_drewN hb _⟩
     · have hkl:k=a.length:=by omega
       have HC:Hid (decide (a=b)=true):=by
         show _=_
         have:=HH.out
         rw [hkl,List.take_length,HLN.out,List.take_length] at this
         rw [this];simp
       go_wp2
       go_ret
       exact ⟨retp_bool HC.out.symm,hb⟩
 · have hne:((a.length:Int) !=(b.length:Int))=true:=by simp;omega
   have HC:Hid (decide (a=b)=false):=by
     show _=_
     rw [decide_eq_false_iff_not]
     intro h;subst h;exact hlen rfl
   clear hlen
   go_enter Seq.func19,Tryz.ntmps19
   go_wp2
   go_ret
   exact ⟨retp_bool HC.out.symm,Below.refl _ _⟩
theorem neq_hop (x y:Int×Int) (w:World):(binOp .neq 63 (.agg #[.int .i64 x.1,.int .i64 x.2]) (.agg #[.int .i64 y.1,.int .i64 y.2])).run Seq.prog w= .ok (.bool (!(x.1==y.1&&x.2==y.2))) w:=by
 have u3:=((Seq.pu 3).trans Tryz.underlying3)
 have a3:=(fun w=>(Seq.ag 3 w).trans (Tryz.isAgg3 w))
 have z3:=(fun w=>(Seq.so 3 w).trans (Tryz.sizeOf3 w))
 have hS:Seq.prog.underlying 63=some (.struct (Seq.prog.fieldsOf 63)):=by kernel_rfl
 have hp:Seq.prog.stoodInHeld 63=false:=by kernel_rfl
 rw [run_neq_struct,show (10000:Nat)=9999+1 from rfl,run_equalIn_agg w 9999 63 _ _ hS hp]
 simp only [Program.fieldsOf,((Seq.pu 63).trans Tryz.underlying63)]
 go_simp
 by_cases h1:x.fst=y.fst<;>by_cases h2:x.snd=y.snd<;>simp [h1,h2]
set_option maxHeartbeats 2000000 in
theorem EqualHop_any (ao bo:Option Addr) (ca cb:Nat) (a b:List (Int×Int)) (w:World) (hA:IvAt w ao a) (hB:IvAt w bo b) (hl:a.length <= 9223372036854775807):
   Calls Seq.prog 20 #[.slice ao a.length ca,.slice bo b.length cb] w fun e w' =>e= .returned (.bool (decide (a=b))) /\ Below w.heap.size w w':=by
 by_cases hlen:a.length=b.length
 · have hm:Seq.prog.eqGuardType Seq.prog.depth 63=false:=by kernel_rfl
   have HLN:Hid (a.length=b.length):=hlen
   rw [<- hlen]
   have hne:((a.length:Int) !=(a.length:Int))=false:=by simp
   clear hlen
   go_enter Seq.func20,Tryz.ntmps20
   go_wp2
   go_loopw [5,13] (fun _ i wr=>∃k:Nat,k <= a.length /\ i= .int .i64 k /\ a.take k=b.take k /\ Below w.heap.size w wr) (fun _ i _=>a.length-(intOf i).toNat)
   case atStart=>exact ⟨0,Nat.zero_le _,rfl,rfl,Below.refl _ _⟩
   case round=>
     obtain ⟨k,hk,rfl,hh,hb⟩:=hrel
     have HH:Hid (a.take k=b.take k):=hh
     clear hh
     by_cases hlt:k<a.length
     · have hlt' :k<b.length:=by have:=HLN.out;omega
       rcases hA.below hb with h0 | ⟨b1,o1,rfl,hb1,hc1⟩
       · subst h0;simp at hlt
       rcases hB.below hb with h0 | ⟨b2,o2,rfl,hb2,hc2⟩
       · subst h0;simp at hlt'
       obtain ⟨c0,c1⟩:=hc1 k hlt
       obtain ⟨d0,d1⟩:=hc2 k hlt'
       have nq:=neq_hop a[k] b[k]
       clear hc1 hc2 hA hB
       by_cases g:a[k]=b[k]
       · have e1:(a[k].1==b[k].1)=true:=by rw [g];simp
         have e2:(a[k].2==b[k].2)=true:=by rw [g];simp
         have HC:Hid (a.take (k+1)=b.take (k+1)):=by show _=_;rw [take_succ_get a k hlt,take_succ_get b k hlt',HH.out,g]
         rw [e1,e2] at nq
         clear g e1 e2
         go_wp2
         go_quiet (fail)
         go_wp2
         go_roundw
         case rel=>exact ⟨k+1,by omega,by go_num,HC.out,below_drewN hb _⟩
         case measure=>simp [intOf];omega
       · have e1:(a[k].1==b[k].1&&a[k].2==b[k].2)=false:=by
           rw [Bool.and_eq_false_iff]
           by_cases h:a[k].1=b[k].1
           · right;rw [beq_eq_false_iff_ne];exact fun h' =>g (Prod.ext h h')
           · left;rw [beq_eq_false_iff_ne];exact h
         have HC:Hid (decide (a=b)=false):=by
           show _=_
           rw [decide_eq_false_iff_not]
           intro h;subst h;exact g rfl
         rw [e1] at nq
         clear g e1
         go_wp2
         go_quiet (fail)
         go_wp2
         go_ret
         exact ⟨ret_bool HC.out.symm,below_drewN hb _⟩
     · have hkl:k=a.length:=by omega
       have HC:Hid (decide (a=b)=true):=by
         show _=_
         have:=HH.out
         rw [hkl,List.take_length,HLN.out,List.take_length] at this
         rw [this];simp
       go_wp2
       go_ret
       exact ⟨ret_bool HC.out.symm,hb⟩
 · have hne:((a.length:Int) !=(b.length:Int))=true:=by simp;omega
   have HC:Hid (decide (a=b)=false):=by
     show _=_
     rw [decide_eq_false_iff_not]
     intro h;subst h;exact hlen rfl
   clear hlen
   go_enter Seq.func20,Tryz.ntmps20
   go_wp2
   go_ret
   exact ⟨ret_bool HC.out.symm,Below.refl _ _⟩
theorem leastE_ok {g:Gr} {pr:Ri -> Int} {v t:Int} {L:List Int} (h:LeastE g pr v t L) (h0:placeE g v t=0):LeastIs g pr v t L:=by
 rcases h with ⟨h1,_⟩ | ⟨_,h1⟩
 · exact absurd h0 h1
 · exact h1
def gLine:Gr:=⟨12,[(0,12),(0,12),(1,12)],[(0,1,[(0,3,2,5),(3,6,1,1)]),(1,2,[(4,5,3,2)])]⟩
theorem line_chk:gChk gLine=0:=by decide+kernel
theorem line_p0:placeE gLine 0 0=0:=by decide+kernel
theorem line_arr:arrA gLine 0 0=[0,2,7]:=by decide+kernel
theorem line_way:(erF gLine 0 0).1.getD 2 0≠1099511627776 /\ (trF (erF gLine 0 0).2 0 300 2).reverse=[(0,0),(1,4)]:=by decide+kernel
theorem line_wayIs {e:Int} {l:List Hp} (h:WayIs gLine 0 0 2 e l):e=0 /\ l=[(0,0),(1,4)]:=by
 rcases h with ⟨h1,_⟩ | ⟨_,h1,_⟩ | ⟨_,_,_,h1,_,h2⟩
 · exact absurd line_p0 h1
 · rcases h1 with h1 | h1
   · exact absurd ⟨by omega,by decide⟩ h1
   · exact absurd h1 line_way.1
 · exact ⟨h1,by rw [h2];exact line_way.2⟩
theorem line_least:LeastIs gLine prCost 0 0 [0,1,3]:=by
 have ha:aliveB 0 gLine.lives 0=true:=by decide
 have hb:Pay gLine prCost 0 0 0 0 0:=⟨ha,.base (by unfold F1;rw [if_pos ⟨rfl,rfl⟩])⟩
 have h3:Pay gLine prCost 0 0 0 (0+1+1+1) 0:=⟨ha,.wait (.wait (.wait hb.2 (by decide)) (by decide)) (by decide)⟩
 have hm1:((0:Int),(3:Int),(0:Int),(1:Int),(4:Int),(1:Int))∈ridesF gLine:=by decide+kernel
 have hm2:((1:Int),(4:Int),(1:Int),(2:Int),(7:Int),(2:Int))∈ridesF gLine:=by decide+kernel
 have h4:Pay gLine prCost 0 0 1 4 1:=⟨ha,Pd.ride hm1 h3.2⟩
 have h7:Pay gLine prCost 0 0 2 7 3:=⟨ha,Pd.ride hm2 h4.2⟩
 have hr:∀r∈ridesF gLine,(if r.2.2.2.1=1 then (1:Int) else if r.2.2.2.1=2 then 3 else 0) <= (if r.2.2.1=1 then (1:Int) else if r.2.2.1=2 then 3 else 0)+prCost r:=by decide+kernel
 refine ⟨rfl,fun x hx=> ?_,fun x hx t p hp=> ?_⟩
 · have hx' :x=0 \/ x=1 \/ x=2:=by simp [gLine] at hx;omega
   rcases hx' with rfl | rfl | rfl
   · exact .inr ⟨0,hb⟩
   · exact .inr ⟨4,h4⟩
   · exact .inr ⟨7,h7⟩
 · have hx' :x=0 \/ x=1 \/ x=2:=by simp [gLine] at hx;omega
   have:=pay_bound (b:=fun x=>if x=1 then (1:Int) else if x=2 then 3 else 0) (by decide) hr hp
   rcases hx' with rfl | rfl | rfl
   · simpa using this
   · simpa using this
   · simpa using this
theorem line_costs {L:List Int} (h:LeastE gLine prCost 0 0 L):L=[0,1,3]:=least_unique (gChk_right line_chk) (prCost_ok (gChk_right line_chk)) (by omega) (leastE_ok h line_p0) line_least
theorem line_at (w:World) (o:Obj) (T1 T2 T3 T4:TypeId):GAt (((((w.alloc o).alloc (.cells #[.int .i64 0,.int .i64 12,.int .i64 0,.int .i64 12,.int .i64 1,.int .i64 12] T1)).alloc (.cells #[.int .i64 0,.int .i64 3,.int .i64 2,.int .i64 5,.int .i64 3,.int .i64 6,.int .i64 1,.int .i64 1] T2)).alloc (.cells #[.int .i64 4,.int .i64 5,.int .i64 3,.int .i64 2] T3)).alloc (.cells #[.int .i64 0,.int .i64 1,.slice (some ⟨w.heap.size+1+1,0,none⟩) 2 2,.int .i64 1,.int .i64 2,.slice (some ⟨w.heap.size+1+1+1,0,none⟩) 1 1] T4)) (some ⟨w.heap.size+1,0,none⟩) (some ⟨w.heap.size+1+1+1+1,0,none⟩) gLine:=by
 have q1:∀j x,#[Value.int .i64 0,.int .i64 12,.int .i64 0,.int .i64 12,.int .i64 1,.int .i64 12][j]? =some x -> (((((w.alloc o).alloc (.cells #[.int .i64 0,.int .i64 12,.int .i64 0,.int .i64 12,.int .i64 1,.int .i64 12] T1)).alloc (.cells #[.int .i64 0,.int .i64 3,.int .i64 2,.int .i64 5,.int .i64 3,.int .i64 6,.int .i64 1,.int .i64 1] T2)).alloc (.cells #[.int .i64 4,.int .i64 5,.int .i64 3,.int .i64 2] T3)).alloc (.cells #[.int .i64 0,.int .i64 1,.slice (some ⟨w.heap.size+1+1,0,none⟩) 2 2,.int .i64 1,.int .i64 2,.slice (some ⟨w.heap.size+1+1+1,0,none⟩) 1 1] T4)).cell? ⟨w.heap.size+1,j,none⟩=some x:=by
   intro j x hx
   rw [(gal _ _).cell (by simp<;>omega),(gal _ _).cell (by simp<;>omega),(gal _ _).cell (by simp<;>omega)]
   exact new_cell (by simp) hx
 have q2:∀j x,#[Value.int .i64 0,.int .i64 3,.int .i64 2,.int .i64 5,.int .i64 3,.int .i64 6,.int .i64 1,.int .i64 1][j]? =some x -> (((((w.alloc o).alloc (.cells #[.int .i64 0,.int .i64 12,.int .i64 0,.int .i64 12,.int .i64 1,.int .i64 12] T1)).alloc (.cells #[.int .i64 0,.int .i64 3,.int .i64 2,.int .i64 5,.int .i64 3,.int .i64 6,.int .i64 1,.int .i64 1] T2)).alloc (.cells #[.int .i64 4,.int .i64 5,.int .i64 3,.int .i64 2] T3)).alloc (.cells #[.int .i64 0,.int .i64 1,.slice (some ⟨w.heap.size+1+1,0,none⟩) 2 2,.int .i64 1,.int .i64 2,.slice (some ⟨w.heap.size+1+1+1,0,none⟩) 1 1] T4)).cell? ⟨w.heap.size+1+1,j,none⟩=some x:=by
   intro j x hx
   rw [(gal _ _).cell (by simp<;>omega),(gal _ _).cell (by simp<;>omega)]
   exact new_cell (by simp) hx
 have q3:∀j x,#[Value.int .i64 4,.int .i64 5,.int .i64 3,.int .i64 2][j]? =some x -> (((((w.alloc o).alloc (.cells #[.int .i64 0,.int .i64 12,.int .i64 0,.int .i64 12,.int .i64 1,.int .i64 12] T1)).alloc (.cells #[.int .i64 0,.int .i64 3,.int .i64 2,.int .i64 5,.int .i64 3,.int .i64 6,.int .i64 1,.int .i64 1] T2)).alloc (.cells #[.int .i64 4,.int .i64 5,.int .i64 3,.int .i64 2] T3)).alloc (.cells #[.int .i64 0,.int .i64 1,.slice (some ⟨w.heap.size+1+1,0,none⟩) 2 2,.int .i64 1,.int .i64 2,.slice (some ⟨w.heap.size+1+1+1,0,none⟩) 1 1] T4)).cell? ⟨w.heap.size+1+1+1,j,none⟩=some x:=by
   intro j x hx
   rw [(gal _ _).cell (by simp<;>omega)]
   exact new_cell (by simp) hx
 refine ⟨.inr ⟨_,_,rfl,by simp<;>omega,fun j hj=> ?_⟩,.inr ⟨_,_,rfl,by simp,fun j hj=> ?_⟩,by simp [gLine],by simp [gLine]⟩
 · have hj' :j=0 \/ j=1 \/ j=2:=by simp [gLine] at hj;omega
   rcases hj' with rfl | rfl | rfl
   · exact ⟨q1 0 _ rfl,q1 1 _ rfl⟩
   · exact ⟨q1 2 _ rfl,q1 3 _ rfl⟩
   · exact ⟨q1 4 _ rfl,q1 5 _ rfl⟩
 · have hj' :j=0 \/ j=1:=by simp [gLine] at hj;omega
   rcases hj' with rfl | rfl
   · refine ⟨new_cell (by simp) rfl,new_cell (by simp) rfl,some ⟨w.heap.size+1+1,0,none⟩,2,new_cell (by simp) rfl,.inr ⟨_,_,rfl,by simp<;>omega,fun k hk=> ?_⟩,by simp [gLine],by omega⟩
     have hk' :k=0 \/ k=1:=by simp [gLine] at hk;omega
     rcases hk' with rfl | rfl
     · exact ⟨q2 0 _ rfl,q2 1 _ rfl,q2 2 _ rfl,q2 3 _ rfl⟩
     · exact ⟨q2 4 _ rfl,q2 5 _ rfl,q2 6 _ rfl,q2 7 _ rfl⟩
   · refine ⟨new_cell (by simp) rfl,new_cell (by simp) rfl,some ⟨w.heap.size+1+1+1,0,none⟩,1,new_cell (by simp) rfl,.inr ⟨_,_,rfl,by simp<;>omega,fun k hk=> ?_⟩,by simp [gLine],by omega⟩
     have hk' :k=0:=by simp [gLine] at hk;omega
     subst hk'
     exact ⟨q3 0 _ rfl,q3 1 _ rfl,q3 2 _ rfl,q3 3 _ rfl⟩
set_option maxRecDepth 100000 in
set_option maxHeartbeats 2000000 in
theorem line_any (w:World):Calls Seq.prog 17 #[] w fun r w' =>∃la ea,r= .returned (.agg #[.int .i64 gLine.hor,.slice la gLine.lives.length 3,.slice ea gLine.edges.length 2]) /\ GAt w' la ea gLine /\ Below w.heap.size w w':=by
 go_enter Seq.func17,Tryz.ntmps17
 go_wp2
 obtain ⟨o,ho⟩:∃o:Obj,o= .cells #[.int .i64 12,.slice (some ⟨w.heap.size+1,0,none⟩) 3 3,.slice (some ⟨w.heap.size+1+1+1+1,0,none⟩) 2 2] 25:=⟨_,rfl⟩
 have hG:=line_at w o 95 69 69 47
 have q:∀j x,#[Value.int .i64 12,.slice (some ⟨w.heap.size+1,0,none⟩) 3 3,.slice (some ⟨w.heap.size+1+1+1+1,0,none⟩) 2 2][j]? =some x -> (((((w.alloc o).alloc (.cells #[.int .i64 0,.int .i64 12,.int .i64 0,.int .i64 12,.int .i64 1,.int .i64 12] 95)).alloc (.cells #[.int .i64 0,.int .i64 3,.int .i64 2,.int .i64 5,.int .i64 3,.int .i64 6,.int .i64 1,.int .i64 1] 69)).alloc (.cells #[.int .i64 4,.int .i64 5,.int .i64 3,.int .i64 2] 69)).alloc (.cells #[.int .i64 0,.int .i64 1,.slice (some ⟨w.heap.size+1+1,0,none⟩) 2 2,.int .i64 1,.int .i64 2,.slice (some ⟨w.heap.size+1+1+1,0,none⟩) 1 1] 47)).cell? ⟨w.heap.size,j,none⟩=some x:=by
   intro j x hx
   rw [(gal _ _).cell (by simp<;>omega),(gal _ _).cell (by simp<;>omega),(gal _ _).cell (by simp<;>omega),(gal _ _).cell (by simp<;>omega),ho]
   exact new_cell rfl hx
 have q0:=q 0 _ rfl
 have q1:=q 1 _ rfl
 have q2:=q 2 _ rfl
 subst ho
 refine bodyPost_ret (v:= .agg #[.int .i64 gLine.hor,.slice (some ⟨w.heap.size+1,0,none⟩) gLine.lives.length 3,.slice (some ⟨w.heap.size+1+1+1+1,0,none⟩) gLine.edges.length 2]) (by simp [results,Tryz.results17,go_sem,q0,q1,q2,gLine]) rfl ⟨_,_,rfl,hG,ptg (ptg (ptg (ptg (gal _ _) (gal _ _)) (gal _ _)) (gal _ _)) (gal _ _)⟩
theorem three_ints (w:World) (T:TypeId) (a b c:Int):ZsAt (w.alloc (.cells #[.int .i64 a,.int .i64 b,.int .i64 c] T)) (some ⟨w.heap.size,0,none⟩) [a,b,c]:=by
 refine .inr ⟨_,_,rfl,by simp,fun j hj=> ?_⟩
 have hj' :j=0 \/ j=1 \/ j=2:=by simp at hj;omega
 rcases hj' with rfl | rfl | rfl
 · exact new_cell rfl rfl
 · exact new_cell rfl rfl
 · exact new_cell rfl rfl
theorem two_hops (w:World) (T:TypeId) (a b c d:Int):IvAt (w.alloc (.cells #[.int .i64 a,.int .i64 b,.int .i64 c,.int .i64 d] T)) (some ⟨w.heap.size,0,none⟩) [(a,b),(c,d)]:=by
 refine .inr ⟨_,_,rfl,by simp,fun j hj=> ?_⟩
 have hj' :j=0 \/ j=1:=by simp at hj;omega
 rcases hj' with rfl | rfl
 · exact ⟨new_cell rfl rfl,new_cell rfl rfl⟩
 · exact ⟨new_cell rfl rfl,new_cell rfl rfl⟩
set_option maxRecDepth 100000 in
set_option maxHeartbeats 1000000 in
theorem said_any (w:World):Calls Seq.prog 5 #[] w fun r w' =>r= .returned (.bool true) /\ Below w.heap.size w w':=by
 have H1:=hideg (fun la ea W (hG:GAt W la ea gLine)=>eArr_any gLine la ea 3 2 0 0 W hG)
 have H2:=hideg (fun la ea W (hG:GAt W la ea gLine)=>cCosts_any gLine la ea 3 2 0 0 W hG)
 have H3:=hideg (fun la ea W (hG:GAt W la ea gLine)=>eWay_any gLine la ea 3 2 0 0 2 W hG)
 rw [line_arr,line_p0] at H1
 rw [line_p0] at H2
 have HP:=hideg (fun W=>line_any W)
 have HC:Hid (∀L,LeastE gLine prCost 0 0 L -> L=[0,1,3]):=fun L h=>line_costs h
 have HW:Hid (∀e l,WayIs gLine 0 0 2 e l -> e=0 /\ l=[(0,0),(1,4)]):=fun e l h=>line_wayIs h
 generalize gLine=gl at*
 go_enter Seq.func5,Tryz.ntmps5
 go_wp2_with fail
 refine (HP.out _).mono ?_
 rintro r w1 ⟨la1,ea1,rfl,hG1,hb1⟩
 go_wp2_with fail
 refine (H1.out la1 ea1 _ hG1).mono ?_
 rintro r w2 ⟨u2,rfl,ho2,hb2⟩
 have hbb:=ptg hb1 hb2
 clear hb1 hb2 hG1 H1
 go_wp2_with fail
 refine (HP.out _).mono ?_
 rintro r w3 ⟨la3,ea3,rfl,hG3,hb3⟩
 have ho2:=ownsRow_below ho2 hb3
 go_wp2_with fail
 refine (H2.out la3 ea3 _ hG3).mono ?_
 rintro r w4 ⟨u4,L4,rfl,hE4,ho4,hb4⟩
 have e4:=HC.out L4 hE4
 subst e4
 have ho2:=ownsRow_below ho2 hb4
 have hbb:=ptg hbb (ptg hb3 hb4)
 clear hb3 hb4 hG3 H2 hE4 HC
 go_wp2_with fail
 refine (HP.out _).mono ?_
 rintro r w5 ⟨la5,ea5,rfl,hG5,hb5⟩
 have ho2:=ownsRow_below ho2 hb5
 have ho4:=ownsRow_below ho4 hb5
 go_wp2_with fail
 refine (H3.out la5 ea5 _ hG5).mono ?_
 rintro r w6 ⟨u6,e6,l6,rfl,hW6,ho6,hb6⟩
 obtain ⟨rfl,rfl⟩:=HW.out e6 l6 hW6
 have ho2:=ownsRow_below ho2 hb6
 have ho4:=ownsRow_below ho4 hb6
 have hbF:=ptg hbb (ptg hb5 hb6)
 clear hb5 hb6 hbb hG5 HP H3 hW6 HW
 obtain ⟨a2,c2,rfl,z2⟩:=zsAt_of_owns ho2
 obtain ⟨a4,c4,rfl,z4⟩:=zsAt_of_owns ho4
 obtain ⟨a6,c6,rfl,z6⟩:=ivAt_of_owns ho6
 have hE1:=EqualI_any a2 (some ⟨w6.heap.size,0,none⟩) c2 3 [0,2,7] [0,2,7] (w6.alloc (.cells #[.int .i64 0,.int .i64 2,.int .i64 7] 3)) (z2.below (gal _ _)) (three_ints _ _ _ _ _) (by simp)
 have HE2:=hideg (fun W (hb:Below w6.heap.size w6 W)=>EqualI_any a4 (some ⟨W.heap.size,0,none⟩) c4 3 [0,1,3] [0,1,3] (W.alloc (.cells #[.int .i64 0,.int .i64 1,.int .i64 3] 3)) (z4.below (ptg hb (gal _ _))) (three_ints _ _ _ _ _) (by simp))
 have HE3:=hideg (fun W (hb:Below w6.heap.size w6 W)=>EqualHop_any a6 (some ⟨W.heap.size,0,none⟩) c6 2 [(0,0),(1,4)] [(0,0),(1,4)] (W.alloc (.cells #[.int .i64 0,.int .i64 0,.int .i64 1,.int .i64 4] 63)) (z6.below (ptg hb (gal _ _))) (two_hops _ _ _ _ _ _) (by simp))
 rw [show decide (([0,2,7]:List Int)=[0,2,7])=true from by decide] at hE1
 rw [show decide (([0,1,3]:List Int)=[0,1,3])=true from by decide] at HE2
 rw [show decide (([(0,0),(1,4)]:List Hp)=[(0,0),(1,4)])=true from by decide] at HE3
 simp only [List.length_cons,List.length_nil,Nat.zero_add] at hE1 HE2 HE3
 clear z2 z4 z6 ho2 ho4 ho6
 go_wp2_with fail
 refine hE1.mono ?_
 rintro r w7 ⟨rfl,hb7⟩
 have hb67:=ptg (gal w6 _) hb7
 have hE2:=HE2.out _ hb67
 clear hE1 hb7 HE2
 go_wp2_with fail
 refine hE2.mono ?_
 rintro r w8 ⟨rfl,hb8⟩
 have hb68:=ptg hb67 (ptg (gal w7 _) hb8)
 have hE3:=HE3.out _ hb68
 clear hE2 hb8 HE3 hb67
 go_wp2_with fail
 refine hE3.mono ?_
 rintro r w9 ⟨rfl,hb9⟩
 have hbG:=ptg hbF (ptg hb68 (ptg (gal w8 _) hb9))
 clear hE3 hb9 hb68 hbF
 go_wp2
 go_ret
 exact ⟨rfl,hbG⟩
def askE (g:Gr) (p v:Int):Int:=if gChk g=0 then if inR p 1 3=true then if p=3 then 0 else if inR v 0 ((g.lives.length:Int)- 1)=true then 0 else 4 else 1 else gChk g
def SnapOut (w w' :World) (e:Ending) (n:Int) (al:List Bool) (ar:List (Int×Int×Int)):Prop:=
 ∃ao ca bo cb,e= .returned (.tuple #[.agg #[.slice ao al.length ca,.slice bo ar.length cb],.int .i64 n]) /\ BsAt w' ao al /\ PcAt w' bo ar /\ Below w.heap.size w w'
theorem own_ne {w:World} {base e size:Nat} {v:Value} {n:Nat} {xs:List Value} {b:Nat} {cs:Array Value} {T:TypeId} {fr:Nat×Nat} (h:w.ownsRow base e size v n xs) (hb:w.heap[b]? =some (.cells cs T fr)) (hT:T≠e):v.ownBlock≠some b:=by
 rcases h.2 with ⟨rfl,_⟩ | ⟨g,cap,cur,rfl,_,hg,_⟩
 · simp [Value.ownBlock]
 · intro h
   simp only [Value.ownBlock,Option.some.injEq] at h
   subst h
   rw [hg] at hb
   simp only [Option.some.injEq,Obj.cells.injEq] at hb
   exact hT hb.2.1.symm
theorem heap_lt {w:World} {b:Nat} {o:Obj} (h:w.heap[b]? =some o):b<w.heap.size:=by
 rcases Nat.lt_or_ge b w.heap.size with k | k
 · exact k
 · rw [Array.getElem?_eq_none k] at h;simp at h
theorem has_one (p:Int×Int) (t:Int):has [p] t=hasB p.1 p.2 t:=by
 rw [has_cons,has_nil,Bool.or_false];rfl
theorem frozen_at {w:World} {b:Nat} {cs:Array Value} {T:TypeId} (h:w.heap[b]? =some (.cells cs T (0,0))) (j:Nat):w.frozen? ⟨b,j,none⟩=false:=Lib.frozen_of_heap h j
theorem ownsRow_setBox {w:World} {base e size:Nat} {v:Value} {n:Nat} {xs:List Value} {b j:Nat} {u:Value} (h:w.ownsRow base e size v n xs) (hne:v.ownBlock≠some b):(w.setCell ⟨b,j,none⟩ u).ownsRow base e size v n xs:=
 h.kept (row:=some b) ⟨rfl,rfl,rfl,by simp [World.setCell],fun k _ hk=>Below.heap_setCell _ _ _ _ (fun e=>hk (by simp [e]))⟩ (Or.inr hne)
theorem ownsRow_grown {w w' :World} {base e e' size size' :Nat} {v v' :Value} {n n' :Nat} {xs xs' :List Value} (h:w.ownsRow base e size v n xs) (h' :w.ownsRow base e' size' v' n' xs') (hg:w.grownBy w' v'.ownBlock) (hne:e≠e'):w'.ownsRow base e size v n xs:=by
 refine h.kept hg ?_
 cases hv:v.ownBlock with
 | none=>simp
 | some b=>
   rcases h.2 with ⟨rfl,_⟩ | ⟨g,cap,cur,rfl,_,hb,_⟩
   · simp [Value.ownBlock] at hv
   · simp only [Value.ownBlock,Option.some.injEq] at hv
     subst hv
     refine .inr fun k=> ?_
     exact own_ne h' hb hne k.symm
structure SnIn (sb:Nat) (w1 wr:World) (v u:Value) (al:List Bool) (ar:List (Int×Int×Int)):Prop where
 own:wr.ownsRow w1.heap.size 4 1 v al.length (al.map Value.bool)
 own2:wr.ownsRow w1.heap.size 73 3 u ar.length (enc3 ar)
 box:wr.heap[sb]? =some (.cells #[v,u] 34 (0,0))
 bel:Below w1.heap.size w1 wr
set_option linter.unusedSimpArgs false in
set_option maxRecDepth 100000 in
set_option maxHeartbeats 8000000 in
theorem At_any (g:Gr) (la ea:Option Addr) (lc ec:Nat) (t:Int) (w:World) (hG:GAt w la ea g) (hlc:g.lives.length <= lc) (hlm:lc <= 9223372036854775807):
   Calls Seq.prog 7 #[.agg #[.int .i64 g.hor,.slice la g.lives.length lc,.slice ea g.edges.length ec],.int .i64 t] w fun r w' =>SnapOut w w' r (atErr g t) (if atErr g t=0 then aliveL t g.lives else []) (if atErr g t=0 then arcsL t g.lives g.edges else []):=by
 have HB:Hid (∀o o',Below w.heap.size w ((w.alloc o).alloc o')):=fun o o' =>ptg (gal w o) (gal _ o')
 obtain ⟨i0,hi,hb0,hb1',hb2'⟩:=info_parts Tryz.infoBool
 obtain ⟨ia,hia,ha0,ha1,ha2⟩:=info_parts Tryz.infoArc
 have hC:=fun o o' =>gCheck_any g la ea lc ec ((w.alloc o).alloc o') (hG.below (ptg (gal w o) (gal _ o')))
 by_cases h0:gChk g=0
 · cases h1:inR t 0 (g.hor- 1)
   · have he:atErr g t=1:=by unfold atErr;rw [if_pos h0,h1];rfl
     have R:=(gChk_right h0).hor
     rw [he,if_neg (by decide),if_neg (by decide)]
     rw [h0] at hC
     clear h0 hG he
     obtain ⟨h,lives,edges⟩:=g
     simp only at hC h1 R ⊢
     have HHOR:=hideg R
     go_enter Seq.func7,Tryz.ntmps7
     go_wp2_with fail
     refine (hC _ _).mono ?_
     rintro e w0 ⟨rfl,hb0⟩
     have p0:w0.cell? ⟨w.heap.size,0,none⟩=some (.int .i64 h):=by rw [hb0.cell (p:=⟨w.heap.size,0,none⟩) (by simp;omega)];simp
     have p1:w0.cell? ⟨w.heap.size,1,none⟩=some (.slice la lives.length lc):=by rw [hb0.cell (p:=⟨w.heap.size,1,none⟩) (by simp;omega)];simp
     have p2:w0.cell? ⟨w.heap.size,2,none⟩=some (.slice ea edges.length ec):=by rw [hb0.cell (p:=⟨w.heap.size,2,none⟩) (by simp;omega)];simp
     have hHT:=fun W=>gHasT_any h la ea lives.length lc edges.length ec t W HHOR.out.1 HHOR.out.2
     rw [h1] at hHT
     have HB0:=hideg hb0
     clear hC hb0
     go_wp2_with fail
     refine (hHT _).mono ?_
     rintro e w1 ⟨rfl,hbT⟩
     have hb1:=HB0.out.trans (hbT.mono HB0.out.size)
     clear hHT hbT p0 p1 p2 HB0
     have HB1:=hideg (ptg (HB.out _ _) hb1)
     have hz:=hb1.size
     simp only [World.size_alloc] at hz
     have q0:w1.cell? ⟨w.heap.size,0,none⟩=some (.int .i64 h):=by rw [hb1.cell (p:=⟨w.heap.size,0,none⟩) (by simp;omega)];simp
     have r0:w1.cell? ⟨w.heap.size+1,0,none⟩=some (.slice none 0 0):=by rw [hb1.cell (p:=⟨w.heap.size+1,0,none⟩) (by simp)];simp
     have r1:w1.cell? ⟨w.heap.size+1,1,none⟩=some (.slice none 0 0):=by rw [hb1.cell (p:=⟨w.heap.size+1,1,none⟩) (by simp)];simp
     have f0:∀j,w1.frozen? ⟨w.heap.size+1,j,none⟩=false:=fun j=>by rw [hb1.frozen (p:=⟨w.heap.size+1,j,none⟩) (by simp)];simp
     clear hb1
     go_wp2
     refine bodyPost_ret (v:= .tuple #[.agg #[.slice none 0 0,.slice none 0 0],.int .i64 1]) (by simp [results,Tryz.results7,go_sem,r0,r1]) rfl ⟨none,0,none,0,rfl,.inl rfl,.inl rfl,?_⟩
     exact (HB1.out.setCell (p:=⟨w.heap.size+1,0,none⟩) (by simp) _).setCell (p:=⟨w.heap.size+1,1,none⟩) (by simp) _
   · have he:atErr g t=0:=by unfold atErr;rw [if_pos h0,h1];rfl
     have R:=(gChk_right h0)
     rw [he,if_pos rfl,if_pos rfl]
     rw [h0] at hC
     have HG:=hideg hG
     have HR:=hideg R
     clear h0 hG he
     obtain ⟨h,lives,edges⟩:=g
     have hh:=R.hor
     have hl12:lives.length <= 12:=R.lvs
     have he30:edges.length <= 30:=R.eds
     simp only at hC h1 hh hlc ⊢
     have HHOR:=hideg hh
     clear R
     go_enter Seq.func7,Tryz.ntmps7
     go_wp2_with fail
     refine (hC _ _).mono ?_
     rintro e w0 ⟨rfl,hb0⟩
     have p0:w0.cell? ⟨w.heap.size,0,none⟩=some (.int .i64 h):=by rw [hb0.cell (p:=⟨w.heap.size,0,none⟩) (by simp;omega)];simp
     have p1:w0.cell? ⟨w.heap.size,1,none⟩=some (.slice la lives.length lc):=by rw [hb0.cell (p:=⟨w.heap.size,1,none⟩) (by simp;omega)];simp
     have p2:w0.cell? ⟨w.heap.size,2,none⟩=some (.slice ea edges.length ec):=by rw [hb0.cell (p:=⟨w.heap.size,2,none⟩) (by simp;omega)];simp
     have hHT:=fun W=>gHasT_any h la ea lives.length lc edges.length ec t W HHOR.out.1 HHOR.out.2
     rw [h1] at hHT
     have HB0:=hideg hb0
     clear hC hb0
     go_wp2_with fail
     refine (hHT _).mono ?_
     rintro e w1 ⟨rfl,hbT⟩
     have hb1:=HB0.out.trans (hbT.mono HB0.out.size)
     clear hHT hbT p0 p1 p2 HB0
     have HB1:=hideg (ptg (HB.out _ _) hb1)
     have hz:=hb1.size
     simp only [World.size_alloc] at hz
     have q0:w1.cell? ⟨w.heap.size,0,none⟩=some (.int .i64 h):=by rw [hb1.cell (p:=⟨w.heap.size,0,none⟩) (by simp;omega)];simp
     have q1:w1.cell? ⟨w.heap.size,1,none⟩=some (.slice la lives.length lc):=by rw [hb1.cell (p:=⟨w.heap.size,1,none⟩) (by simp;omega)];simp
     have q2:w1.cell? ⟨w.heap.size,2,none⟩=some (.slice ea edges.length ec):=by rw [hb1.cell (p:=⟨w.heap.size,2,none⟩) (by simp;omega)];simp
     have r0:w1.cell? ⟨w.heap.size+1,0,none⟩=some (.slice none 0 0):=by rw [hb1.cell (p:=⟨w.heap.size+1,0,none⟩) (by simp)];simp
     have r1:w1.cell? ⟨w.heap.size+1,1,none⟩=some (.slice none 0 0):=by rw [hb1.cell (p:=⟨w.heap.size+1,1,none⟩) (by simp)];simp
     have f0:∀j,w1.frozen? ⟨w.heap.size+1,j,none⟩=false:=fun j=>by rw [hb1.frozen (p:=⟨w.heap.size+1,j,none⟩) (by simp)];simp
     have HG1:=hideg (HG.out.below HB1.out)
     have HRes:=hideg (⟨r0,r1,f0⟩:_ /\ _ /\ _)
     have hz0:w.heap.size<w1.heap.size:=by omega
     clear hb1 HG r0 r1 f0
     go_wp2_with fail
     go_loopw [8,27] (fun _ i wr=>∃k:Nat,∃v,k <= lives.length /\ i= .int .i64 k /\ SnIn w1.heap.size w1 wr v (.slice none 0 0) (aliveL t (lives.take k)) []) (fun _ i _=>lives.length-(intOf i).toNat)
     case atStart=>exact ⟨0,_,Nat.zero_le _,rfl,World.ownsRow_nil _ _ _ _,World.ownsRow_nil _ _ _ _,heap_alloc_new _ _,gal _ _⟩
     case round=>
       obtain ⟨k,v,hk,rfl,hS⟩:=hrel
       have HS:=hideg hS
       have hbw:=hS.bel
       have hsz:=hbw.size
       have hsb:=heap_lt hS.box
       have p1:wr.cell? ⟨w.heap.size,1,none⟩=some (.slice la lives.length lc):=(hbw.cell (p:=⟨w.heap.size,1,none⟩) hz0).trans q1
       have s0:wr.cell? ⟨w1.heap.size,0,none⟩=some v:=by rw [Lib.cell_of_heap hS.box];rfl
       clear hS
       by_cases hlt:k<lives.length
       · rcases HG1.out.lv.below hbw with h0 | ⟨b,off,rfl,hbr,hc⟩
         · simp only at h0;subst h0;simp at hlt
         simp only at hc
         obtain ⟨c0,c1⟩:=IvAt.get hlt hc
         have hHas:Hid (∀cap,Calls Seq.prog 24 #[.slice (some ⟨b,off+k*2,none⟩) 1 cap,.int .i64 t] wr.drew fun e w' =>e= .returned (.bool (hasB lives[k].1 lives[k].2 t)) /\ Below wr.heap.size wr w'):=by
           intro cap
           have:=Has_any (some ⟨b,off+k*2,none⟩) cap [lives[k]] t wr.drew (.inr ⟨b,off+k*2,rfl,hbr,fun j hj=>by
             match j,hj with
             | 0,_=>exact ⟨c0,c1⟩⟩) (by simp)
           rw [has_one] at this
           exact this.mono fun _ _ ⟨a,b⟩=>⟨a,ptg (Below.refl _ _).drew b⟩
         have HT:=hideg (aliveL_take t lives k hlt)
         obtain ⟨vo,vc,hve,_⟩:=bsAt_of_owns HS.out.own
         have hal:(aliveL t (lives.take k)).length=k:=by rw [aliveL_length,List.length_take];omega
         have hown:wr.ownsRow w1.heap.size 4 1 v k ((aliveL t (lives.take k)).map Value.bool):=by have:=HS.out.own;rwa [hal] at this
         have HO:=hideg hown
         rw [hal] at hve
         subst hve
         have HNE:=hideg (own_ne hown HS.out.box (by decide))
         have HAfter:Hid (∀w3,Below wr.heap.size wr w3 -> w3.cell? ⟨w.heap.size,1,none⟩=some (.slice (some ⟨b,off,none⟩) lives.length lc) /\ w3.cell? ⟨w1.heap.size,0,none⟩=some (.slice vo k vc)):=fun w3 h3=>
           ⟨(h3.cell (p:=⟨w.heap.size,1,none⟩) (by simp only;omega)).trans p1,(h3.cell (p:=⟨w1.heap.size,0,none⟩) hsb).trans s0⟩
         clear hc hown hal c0 c1
         generalize hasB lives[k].1 lives[k].2 t=bb at*
         have i1:(k:Int)+1 <= (lc:Int):=by omega
         have i2:(0:Int) <= (k:Int):=by omega
         have i3:(0:Int) <= (k:Int)+1:=by omega
         have i4:IntKind.i64.wrap ((k:Int)+1)=(k:Int)+1:=wrap_small _ (by omega) (by omega)
         have i5:((k:Int)+1).toNat=k+1:=by omega
         have i6:¬lc=k:=by omega
         go_wp2_with fail
         refine wp_region_noPanic ?_
         refine wp_region_back (S:=fun w' =>w'.cell? ⟨w.heap.size,1,none⟩=some (.slice (some ⟨b,off,none⟩) lives.length lc) /\ w'.cell? ⟨w1.heap.size,0,none⟩=some (.slice vo k vc)) (by kernel_rfl) (by simp) (by kernel_rfl) (by kernel_rfl) ⟨p1,s0⟩ (fun hHeld=> ?_)
         simp only [List.pop_toArray,List.dropLast,List.back!_toArray,List.getLast!]
         refine take_lit (i:=0) (v:= ?_) rfl (by kernel_rfl) (by kernel_rfl) (by kernel_rfl) (fun _ _ _ h=>h) (Or.inl ⟨by rfl,?hy0⟩) (by assumption) ?_
         case hy0=>(intro w hSw;(try dsimp only at hSw);go_simp;try with_reducible rfl)
         try simp only [Act.put,List.setIfInBounds_toArray,List.set_cons_zero,List.set_cons_succ]
         refine take_lit (i:=1) (v:= ?_) rfl (by kernel_rfl) (by kernel_rfl) (by kernel_rfl) (fun _ _ _ h=>h) (Or.inl ⟨by rfl,?hy1⟩) (by assumption) ?_
         case hy1=>(intro w hSw;(try dsimp only at hSw);go_simp;try with_reducible rfl)
         try simp only [Act.put,List.setIfInBounds_toArray,List.set_cons_zero,List.set_cons_succ]
         refine take_lit (i:=2) (v:= ?_) rfl (by kernel_rfl) (by kernel_rfl) (by kernel_rfl) (fun _ _ _ h=>h) (Or.inl ⟨by rfl,?hy2⟩) (by assumption) ?_
         case hy2=>(intro w hSw;(try dsimp only at hSw);go_simp;try with_reducible rfl)
         try simp only [Act.put,List.setIfInBounds_toArray,List.set_cons_zero,List.set_cons_succ]
         refine take_lit (i:=3) (v:= ?_) rfl (by kernel_rfl) (by kernel_rfl) (by kernel_rfl) (fun _ _ _ h=>h) (Or.inl ⟨by rfl,?hy3⟩) (by assumption) ?_
         case hy3=>(intro w hSw;(try dsimp only at hSw);go_simp;try with_reducible rfl)
         try simp only [Act.put,List.setIfInBounds_toArray,List.set_cons_zero,List.set_cons_succ]
         refine take_lit (i:=4) (v:= ?_) rfl (by kernel_rfl) (by kernel_rfl) (by kernel_rfl) (fun _ _ _ h=>h) (Or.inl ⟨by rfl,?hy4⟩) (by assumption) ?_
         case hy4=>(intro w hSw;(try dsimp only at hSw);go_simp;try with_reducible rfl)
         try simp only [Act.put,List.setIfInBounds_toArray,List.set_cons_zero,List.set_cons_succ]
         refine take_lit (i:=5) (v:= ?_) rfl (by kernel_rfl) (by kernel_rfl) (by kernel_rfl) (fun _ _ _ h=>h) (Or.inl ⟨by rfl,?hy5⟩) (by assumption) ?_
         case hy5=>(intro w hSw;(try dsimp only at hSw);go_simp;try with_reducible rfl)
         try simp only [Act.put,List.setIfInBounds_toArray,List.set_cons_zero,List.set_cons_succ]
         refine take_lit (i:=6) (v:= ?_) rfl (by kernel_rfl) (by kernel_rfl) (by kernel_rfl) (fun _ _ _ h=>h) (Or.inl ⟨by rfl,?hy6⟩) (by assumption) ?_
         case hy6=>(intro w hSw;(try dsimp only at hSw);go_simp;try with_reducible rfl)
         try simp only [Act.put,List.setIfInBounds_toArray,List.set_cons_zero,List.set_cons_succ]
         refine take_lit (i:=7) (v:= ?_) rfl (by kernel_rfl) (by kernel_rfl) (by kernel_rfl) (fun _ _ _ h=>h) (Or.inl ⟨by rfl,?hy7⟩) (by assumption) ?_
         case hy7=>(intro w hSw;(try dsimp only at hSw);go_simp;try with_reducible rfl)
         try simp only [Act.put,List.setIfInBounds_toArray,List.set_cons_zero,List.set_cons_succ]
         refine take_lit (i:=8) (v:= ?_) rfl (by kernel_rfl) (by kernel_rfl) (by kernel_rfl) (fun _ _ _ h=>h) (Or.inl ⟨by rfl,?hy8⟩) (by assumption) ?_
         case hy8=>(intro w hSw;(try dsimp only at hSw);go_simp;try with_reducible rfl)
         try simp only [Act.put,List.setIfInBounds_toArray,List.set_cons_zero,List.set_cons_succ]
         refine next_lit (i:=9) rfl (by kernel_rfl) (fun K hK=> ?_)
         go_simp
         refine (hHas.out _).mono ?_
         rintro e w3 ⟨rfl,hb3⟩
         obtain ⟨k1,k2⟩:=HAfter.out w3 hb3
         refine hK.out _ _ ⟨k1,k2⟩ (fun hHeld=> ?_)
         clear hK K hHeld
         try simp only [Act.put,List.setIfInBounds_toArray,List.set_cons_zero,List.set_cons_succ]
         refine next_lit (i:=10) rfl (by kernel_rfl) (fun K hK=> ?_)
         go_simp
         have l1:=heap_lt (HS.out.box)
         have hs3:=hb3.size
         have m1:=((gal w3 (.cells #[.bool bb] 4)).cell (p:=⟨w.heap.size,1,none⟩) (by simp only;omega)).trans k1
         have m2:=((gal w3 (.cells #[.bool bb] 4)).cell (p:=⟨w1.heap.size,0,none⟩) (by simp only;omega)).trans k2
         refine hK.out _ _ ⟨m1,m2⟩ (fun hHeld=> ?_)
         clear hK K hHeld
         try simp only [Act.put,List.setIfInBounds_toArray,List.set_cons_zero,List.set_cons_succ]
         refine next_lit (i:=11) rfl (by kernel_rfl) (fun K hK=> ?_)
         refine step_append_lies _ (by rfl) _ _ _ (by rfl) w1.heap.size 4 i0 _ 1 1 ((Seq.pu 31).trans Tryz.underlying31) hi hb0 hb1' hb2' rfl (by omega) (.slice vo k vc) k ((aliveL t (lives.take k)).map Value.bool) (by rfl) ((ownsRow_below HO.out hb3).alloc _) ⟨w3.heap.size,0,none⟩ 1 1 [.bool bb] (by rfl) (by rfl) (World.news_of_block (cs:=#[.bool bb]) (t:=4) (fr:=(0,0)) (heap_alloc_new w3 _)) (by simp [Value.oneCell']) (by omega) (by unfold maxLen;omega) (by omega) (by simp;omega) (w3.heap.size+1) (by simp) ?_
         intro gg cap1 w4 hown1 hgrow hat hltg
         have n1:some w.heap.size≠(Value.slice vo k vc).ownBlock:=fun h=>by have:=(HO.out.lt _ h.symm).1;omega
         have x1:w4.cell? ⟨w.heap.size,1,none⟩=some (.slice (some ⟨b,off,none⟩) lives.length lc):=by rw [hgrow.cell_far _ (by simp;omega) n1];exact m1
         have x2:w4.cell? ⟨w1.heap.size,0,none⟩=some (.slice vo k vc):=by rw [hgrow.cell_far _ (by simp;omega) (Ne.symm HNE.out)];exact m2
         have hbox4:w4.heap[w1.heap.size]? =some (.cells #[.slice vo k vc,.slice none 0 0] 34 (0,0)):=by
           rw [hgrow.block _ (by simp;omega) (Ne.symm HNE.out),(gal w3 _).block _ (by omega),hb3.block _ l1];exact HS.out.box
         have fz4:=frozen_at hbox4 0
         have HB4:=hideg (((hbw.trans (hb3.mono hbw.size)).alloc (by omega) (.cells #[.bool bb] 4)).grown hgrow (by simp;omega) (fun j hj=>(HO.out.lt j hj).1))
         refine hK.out _ _ ⟨x1,x2⟩ (fun hHeld=> ?_)
         clear hK K
         try simp only [Act.put,List.setIfInBounds_toArray,List.set_cons_zero,List.set_cons_succ]
         refine take_lit (i:=12) (v:= ?_) rfl (by kernel_rfl) (by kernel_rfl) (by kernel_rfl) (fun _ _ _ h=>h) (Or.inl ⟨by rfl,?hy12⟩) (by assumption) ?_
         case hy12=>(intro w hSw;(try dsimp only at hSw);go_simp;try with_reducible rfl)
         try simp only [Act.put,List.setIfInBounds_toArray,List.set_cons_zero,List.set_cons_succ]
         refine wpAnyH_done (by kernel_rfl) ?_ _
         refine back_last (fun K hK=> ?_)
         clear hHeld
         go_simp
         refine hK.out _ _ (NoPanic.normal ?_)
         clear hK K
         have HS4:Hid (SnIn w1.heap.size w1 (w4.setCell ⟨w1.heap.size,0,none⟩ (.slice (some ⟨gg,0,none⟩) (k+1) cap1)) (.slice (some ⟨gg,0,none⟩) (k+1) cap1) (.slice none 0 0) (aliveL t (lives.take (k+1))) []):=by
           have hr:w4.ownsRow w1.heap.size 4 1 (.slice (some ⟨gg,0,none⟩) (k+1) cap1) (aliveL t (lives.take (k+1))).length ((aliveL t (lives.take (k+1))).map Value.bool):=by
             rw [aliveL_length,List.length_take,Nat.min_eq_left (by omega),HT.out,List.map_append];exact hown1
           have hne:=own_ne hr hbox4 (by decide)
           refine ⟨ownsRow_setBox hr hne,World.ownsRow_nil _ _ _ _,?_,HB4.out.setCell (p:=⟨w1.heap.size,0,none⟩) (Nat.le_refl _) _⟩
           simp [World.setCell,Array.getElem?_modify,hbox4]
         clear HB4 hgrow hown1 x1 x2 m1 m2 k1 k2 hbox4 hat hltg
         go_wp2
         go_roundw
         case rel=>exact ⟨k+1,_,by omega,by go_num,HS4.out⟩
         case measure=>simp [intOf];omega
       · have hke:k=lives.length:=by omega
         subst hke
         rw [List.take_length] at HS
         have p2:wr.cell? ⟨w.heap.size,2,none⟩=some (.slice ea edges.length ec):=(hbw.cell (p:=⟨w.heap.size,2,none⟩) hz0).trans q2
         have HV:=hideg (bsAt_of_owns HS.out.own)
         have hal:(aliveL t lives).length=lives.length:=aliveL_length t lives
         have HVV:Hid (∃vo vc,v= .slice vo lives.length vc):=by
           obtain ⟨ao,ca,h,_⟩:=HV.out
           exact ⟨ao,ca,by rw [h,hal]⟩
         clear HV s0 hbw
         obtain ⟨vo,vc,rfl⟩:=HVV.out
         go_wp2_with fail
         go_loopw [12,47] (fun _ i wr=>∃k:Nat,∃u,k <= edges.length /\ i= .int .i64 k /\ SnIn w1.heap.size w1 wr (.slice vo lives.length vc) u (aliveL t lives) (arcsL t lives (edges.take k))) (fun _ i _=>edges.length-(intOf i).toNat)
         case atStart=>exact ⟨0,_,Nat.zero_le _,rfl,HS.out⟩
         case round=>
           clear HS p1 p2 hsb hsz HVV
           obtain ⟨k,u,hk,rfl,hS⟩:=hrel
           have HS:=hideg hS
           have hbw:=hS.bel
           have hsz:=hbw.size
           have hsb:=heap_lt hS.box
           have s0:wr.cell? ⟨w1.heap.size,0,none⟩=some (.slice vo lives.length vc):=by rw [Lib.cell_of_heap hS.box];rfl
           have s1:wr.cell? ⟨w1.heap.size,1,none⟩=some u:=by rw [Lib.cell_of_heap hS.box];rfl
           clear hS
           by_cases hlt:k<edges.length
           · rcases HG1.out.ed with h0 | ⟨b,off,rfl,hbr,hc⟩
             · simp only at h0;subst h0;simp at hlt
             obtain ⟨c0',c1',lo,lcap,c2',hL,hnl,hml⟩:=hc k hlt
             have c0:=(hbw.cell (p:=⟨b,off+k*3,none⟩) hbr).trans c0'
             have c1:=(hbw.cell (p:=⟨b,off+k*3+1,none⟩) hbr).trans c1'
             have c2:=(hbw.cell (p:=⟨b,off+k*3+2,none⟩) hbr).trans c2'
             have hbr2:b<wr.heap.size:=by omega
             have HN:=HR.out.ends edges[k] (List.getElem_mem hlt)
             have HT:=hideg (arcs_take t lives edges k hlt)
             have hLw:=hL.below hbw
             have hln:=arcs_len t lives (edges.take k)
             have hln2:(arcsL t lives (edges.take k)).length <= 30:=by rw [List.length_take] at hln;omega
             clear c0' c1' c2' hc hL hln
             generalize edges[k]=ed at*
             obtain ⟨A,B,legs⟩:=ed
             simp only at HN c0 c1 c2 hLw hnl
             obtain ⟨⟨hA0,hA1⟩,⟨hB0,hB1⟩,hl6⟩:=HN
             obtain ⟨na,rfl⟩:∃na:Nat,A=na:=⟨A.toNat,by omega⟩
             obtain ⟨nb,rfl⟩:∃nb:Nat,B=nb:=⟨B.toNat,by omega⟩
             have hA1' :na<lives.length:=by omega
             have hB1' :nb<lives.length:=by omega
             have hleg:=fun o=>legAt_any na nb lo lcap legs t (wr.alloc o) (hLw.below (gal wr o)) (by omega)
             have HCells:Hid (∃vb,vo=some ⟨vb,0,none⟩ /\ w1.heap.size <= vb /\ vb<wr.heap.size /\ wr.cell? ⟨vb,na,none⟩=some (.bool (aliveB t lives na)) /\ wr.cell? ⟨vb,nb,none⟩=some (.bool (aliveB t lives nb))):=by
               have ho:=HS.out.own
               rw [aliveL_length] at ho
               rcases ho.2 with ⟨_,h9⟩ | ⟨gb,c9,cur,e9,_⟩
               · omega
               · simp only [Value.slice.injEq,true_and] at e9
                 obtain ⟨rfl,rfl⟩:=e9
                 have hl:=ho.lt gb rfl
                 refine ⟨gb,rfl,hl.1,hl.2,?_,?_⟩
                 · rw [ho.cellAt na (by omega),List.getElem?_map,aliveB,List.getD_eq_getElem?_getD,Int.toNat_natCast,List.getElem?_eq_getElem (by rw [aliveL_length];omega)];rfl
                 · rw [ho.cellAt nb (by omega),List.getElem?_map,aliveB,List.getD_eq_getElem?_getD,Int.toNat_natCast,List.getElem?_eq_getElem (by rw [aliveL_length];omega)];rfl
             obtain ⟨vb,rfl,hv1,hv2,va,vb'⟩:=HCells.out
             have HAft:Hid (∀o w2,Below (wr.alloc o).heap.size (wr.alloc o) w2 -> Below wr.heap.size wr w2):=fun o w2 h=>ptg (gal wr o) h
             clear HCells hLw
             have iA:(na:Int)<(lives.length:Int):=by omega
             have iB:(nb:Int)<(lives.length:Int):=by omega
             have iA0:(0:Int) <= (na:Int):=by omega
             have iB0:(0:Int) <= (nb:Int):=by omega
             have HD0:=hideg (fun h=>arcOf_none (t:=t) (lives:=lives) (e:=((na:Int),(nb:Int),legs)) h)
             have HD1:=hideg (fun h=>arcOf_dead (t:=t) (lives:=lives) (e:=((na:Int),(nb:Int),legs)) h)
             have HD2:=hideg (fun l h h' =>arcOf_some (t:=t) (lives:=lives) (e:=((na:Int),(nb:Int),legs)) (l:=l) h h')
             simp only at HD0 HD1 HD2
             go_wp2_with fail
             refine (hleg _).mono ?_
             rintro e w2 ⟨rfl,hb2⟩
             have hb2':=HAft.out _ _ hb2
             have hs2:=hb2.size
             simp only [World.size_alloc] at hs2
             have e0:w2.cell? ⟨wr.heap.size,0,none⟩=some (.int .i64 na):=by rw [hb2.cell (p:=⟨wr.heap.size,0,none⟩) (by simp)];simp
             have e1:w2.cell? ⟨wr.heap.size,1,none⟩=some (.int .i64 nb):=by rw [hb2.cell (p:=⟨wr.heap.size,1,none⟩) (by simp)];simp
             have t0:=(hb2'.cell (p:=⟨w1.heap.size,0,none⟩) hsb).trans s0
             have t1:=(hb2'.cell (p:=⟨w1.heap.size,1,none⟩) hsb).trans s1
             have xa:=(hb2'.cell (p:=⟨vb,na,none⟩) hv2).trans va
             have xb:=(hb2'.cell (p:=⟨vb,nb,none⟩) hv2).trans vb'
             have y1:wr.heap.size<w2.heap.size:=by omega
             have y2:w1.heap.size<w2.heap.size:=by omega
             have y3:vb<w2.heap.size:=by omega
             have HB2:=hideg hb2'
             clear hb2 hb2' hleg c0 c1 c2 va vb' HAft
             have HSk:Hid (∀o,arcOf t lives ((na:Int),(nb:Int),legs)=[] -> SnIn w1.heap.size w1 (w2.alloc o) (.slice (some ⟨vb,0,none⟩) lives.length vc) u (aliveL t lives) (arcsL t lives (edges.take (k+1)))):=by
               intro o h
               have hb:=ptg HB2.out (gal w2 o)
               rw [HT.out,h,List.append_nil]
               exact ⟨ownsRow_below HS.out.own hb,ownsRow_below HS.out.own2 hb,by rw [hb.block _ hsb];exact HS.out.box,hbw.trans (hb.mono hsz)⟩
             cases hf:lgFind t legs with
             | none=>
               have HSk2:=hideg (fun o=>HSk.out o (HD0.out hf))
               simp only [legV,Option.getD_none,Option.isSome_none]
               clear hf HSk HD0 HD1 HD2 xa xb e0 e1 t0 t1
               go_wp2
               go_roundw
               case rel=>exact ⟨k+1,_,by omega,by go_num,HSk2.out _⟩
               case measure=>simp [intOf];omega
             | some l=>
               simp only [legV,Option.getD_some,Option.isSome_some]
               cases ea' :aliveB t lives na with
               | false=>
                 have HSk2:=hideg (fun o=>HSk.out o (HD1.out (by simp [ea'])))
                 rw [ea'] at xa
                 clear hf HSk HD0 HD1 HD2 ea'
                 go_wp2
                 go_roundw
                 case rel=>exact ⟨k+1,_,by omega,by go_num,HSk2.out _⟩
                 case measure=>simp [intOf];omega
               | true=>
                 cases eb' :aliveB t lives nb with
                 | false=>
                   have HSk2:=hideg (fun o=>HSk.out o (HD1.out (by simp [eb'])))
                   rw [ea'] at xa
                   rw [eb'] at xb
                   clear hf HSk HD0 HD1 HD2 ea' eb'
                   go_wp2
                   go_roundw
                   case rel=>exact ⟨k+1,_,by omega,by go_num,HSk2.out _⟩
                   case measure=>simp [intOf];omega
                 | true=>
                   have HA:=hideg (HD2.out l hf (by simp [ea',eb']))
                   rw [ea'] at xa
                   rw [eb'] at xb
                   clear hf HSk HD0 HD1 HD2 ea' eb'
                   have hu:=ownsRow_below HS.out.own2 HB2.out
                   go_wp2_with (at_builtin;refine wpList_append_lies _ rfl _ _ 32 rfl w1.heap.size 73 ia (.agg #[.int .i64 0,.int .i64 0,.int .i64 0]) 3 24 ((Seq.pu 32).trans Tryz.underlying32) hia ha0 ha1 ha2 rfl (by decide) _ _ _ rfl (World.ownsRow.alloc (World.ownsRow.alloc (w:=w2) hu _) _) ⟨w2.heap.size+1,0,none⟩ 1 1 [.int .i64 na,.int .i64 nb,.int .i64 l.2.2.2] rfl rfl ?c1 ?c2 (by decide) ?c3 ?c4 ?c5 (w2.heap.size+1+1) ?c6 ?_)
                   case c1=>exact cells_three_new _ _ _ _ _ _ (by simp)
                   case c2=>intro u hu;simp at hu;rcases hu with rfl | rfl | rfl<;>rfl
                   case c3=>unfold maxLen;omega
                   case c4=>omega
                   case c5=>simp;omega
                   case c6=>simp
                   intro gg cap1 w3 hown3 hgrow hat hltg
                   have hne:=own_ne HS.out.own2 HS.out.box (by decide)
                   have hbox3:w3.heap[w1.heap.size]? =some (.cells #[.slice (some ⟨vb,0,none⟩) lives.length vc,u] 34 (0,0)):=by
                     rw [hgrow.block _ (by simp;omega) (Ne.symm hne),(gal _ _).block _ (by simp;omega),(gal _ _).block _ y2,HB2.out.block _ hsb];exact HS.out.box
                   have z0:w3.cell? ⟨w1.heap.size,0,none⟩=some (.slice (some ⟨vb,0,none⟩) lives.length vc):=by rw [Lib.cell_of_heap hbox3];rfl
                   have z1:w3.cell? ⟨w1.heap.size,1,none⟩=some u:=by rw [Lib.cell_of_heap hbox3];rfl
                   have fz:=frozen_at hbox3 1
                   have HBg:=hideg ((((hbw.trans (HB2.out.mono hsz)).alloc (by omega) (.cells #[.int .i64 l.1,.int .i64 l.2.1,.int .i64 l.2.2.1,.int .i64 l.2.2.2] 69)).alloc (by simp;omega) (.cells #[.int .i64 na,.int .i64 nb,.int .i64 l.2.2.2] 73)).grown hgrow (by simp;omega) (fun j hj=>(HS.out.own2.lt j hj).1))
                   have HS3:Hid (SnIn w1.heap.size w1 (w3.setCell ⟨w1.heap.size,1,none⟩ (.slice (some ⟨gg,0,none⟩) ((arcsL t lives (edges.take k)).length+1) cap1)) (.slice (some ⟨vb,0,none⟩) lives.length vc) (.slice (some ⟨gg,0,none⟩) ((arcsL t lives (edges.take k)).length+1) cap1) (aliveL t lives) (arcsL t lives (edges.take (k+1)))):=by
                     have hr:w3.ownsRow w1.heap.size 73 3 (.slice (some ⟨gg,0,none⟩) ((arcsL t lives (edges.take k)).length+1) cap1) (arcsL t lives (edges.take (k+1))).length (enc3 (arcsL t lives (edges.take (k+1)))):=by
                       rw [HT.out,HA.out,enc3_append,List.length_append];exact hown3
                     have ha:w3.ownsRow w1.heap.size 4 1 (.slice (some ⟨vb,0,none⟩) lives.length vc) (aliveL t lives).length ((aliveL t lives).map Value.bool):=by
                       have h1:=World.ownsRow.alloc (World.ownsRow.alloc (ownsRow_below HS.out.own HB2.out) (.cells #[.int .i64 l.1,.int .i64 l.2.1,.int .i64 l.2.2.1,.int .i64 l.2.2.2] 69)) (.cells #[.int .i64 na,.int .i64 nb,.int .i64 l.2.2.2] 73)
                       exact ownsRow_grown h1 (World.ownsRow.alloc (World.ownsRow.alloc hu _) _) hgrow (by decide)
                     refine ⟨ownsRow_setBox ha (own_ne ha hbox3 (by decide)),ownsRow_setBox hr (own_ne hr hbox3 (by decide)),?_,HBg.out.setCell (p:=⟨w1.heap.size,1,none⟩) (Nat.le_refl _) _⟩
                     simp [World.setCell,Array.getElem?_modify,hbox3]
                   clear HBg hgrow hown3 hbox3 hat hltg xa xb e0 e1 t0 t1 hu
                   go_wp2
                   go_roundw
                   case rel=>exact ⟨k+1,_,by omega,by go_num,HS3.out⟩
                   case measure=>simp [intOf];omega
           · have hke:k=edges.length:=by omega
             subst hke
             rw [List.take_length] at HS
             obtain ⟨r0',r1',f0'⟩:=HRes.out
             have r0:=(hbw.cell (p:=⟨w.heap.size+1,0,none⟩) (by simp only;omega)).trans r0'
             have r1:=(hbw.cell (p:=⟨w.heap.size+1,1,none⟩) (by simp only;omega)).trans r1'
             have f0:∀j,wr.frozen? ⟨w.heap.size+1,j,none⟩=false:=fun j=>(hbw.frozen (p:=⟨w.heap.size+1,j,none⟩) (by simp only;omega)).trans (f0' j)
             obtain ⟨uo,uc,hue,_⟩:=pcAt_of_owns HS.out.own2
             subst hue
             have HF:Hid (∀a b,BsAt ((wr.setCell ⟨w.heap.size+1,0,none⟩ a).setCell ⟨w.heap.size+1,1,none⟩ b) vo (aliveL t lives) /\ PcAt ((wr.setCell ⟨w.heap.size+1,0,none⟩ a).setCell ⟨w.heap.size+1,1,none⟩ b) uo (arcsL t lives edges)):=by
               intro a b
               have n1:(Value.slice vo lives.length vc).ownBlock≠some (w.heap.size+1):=fun h=>by have:=(HS.out.own.lt _ h).1;omega
               have n2:(Value.slice uo (arcsL t lives edges).length uc).ownBlock≠some (w.heap.size+1):=fun h=>by have:=(HS.out.own2.lt _ h).1;omega
               obtain ⟨o1,x1,h1,h2⟩:=bsAt_of_owns (ownsRow_setBox (j:=1) (u:=b) (ownsRow_setBox (j:=0) (u:=a) HS.out.own n1) n1)
               obtain ⟨o2,x2,h3,h4⟩:=pcAt_of_owns (ownsRow_setBox (j:=1) (u:=b) (ownsRow_setBox (j:=0) (u:=a) HS.out.own2 n2) n2)
               simp only [Value.slice.injEq] at h1 h3
               rw [h1.1,h3.1]
               exact ⟨h2,h4⟩
             have HBF:=hideg (ptg HB1.out hbw)
             clear r0' r1' f0'
             go_wp2
             refine bodyPost_ret (v:= .tuple #[.agg #[.slice vo lives.length vc,.slice uo (arcsL t lives edges).length uc],.int .i64 0]) (by simp [results,Tryz.results7,go_sem,r0,r1]) rfl ⟨vo,vc,uo,uc,by rw [aliveL_length],(HF.out _ _).1,(HF.out _ _).2,?_⟩
             exact (HBF.out.setCell (p:=⟨w.heap.size+1,0,none⟩) (by simp) _).setCell (p:=⟨w.heap.size+1,1,none⟩) (by simp) _
 · have he:atErr g t=gChk g:=by unfold atErr;rw [if_neg h0]
   rw [he,if_neg h0,if_neg h0]
   have hne:(gChk g !=0)=true:=by simpa using h0
   generalize gChk g=ev at*
   clear hG he
   go_enter Seq.func7,Tryz.ntmps7
   go_wp2_with fail
   refine (hC _ _).mono ?_
   rintro e w1 ⟨rfl,hb1⟩
   have HB1:=hideg (ptg (HB.out _ _) hb1)
   have r0:w1.cell? ⟨w.heap.size+1,0,none⟩=some (.slice none 0 0):=by rw [hb1.cell (p:=⟨w.heap.size+1,0,none⟩) (by simp)];simp
   have r1:w1.cell? ⟨w.heap.size+1,1,none⟩=some (.slice none 0 0):=by rw [hb1.cell (p:=⟨w.heap.size+1,1,none⟩) (by simp)];simp
   have f0:∀j,w1.frozen? ⟨w.heap.size+1,j,none⟩=false:=fun j=>by rw [hb1.frozen (p:=⟨w.heap.size+1,j,none⟩) (by simp)];simp
   clear hC hb1
   go_wp2
   refine bodyPost_ret (v:= .tuple #[.agg #[.slice none 0 0,.slice none 0 0],.int .i64 ev]) (by simp [results,Tryz.results7,go_sem,r0,r1]) rfl ⟨none,0,none,0,rfl,.inl rfl,.inl rfl,?_⟩
   exact (HB1.out.setCell (p:=⟨w.heap.size+1,0,none⟩) (by simp) _).setCell (p:=⟨w.heap.size+1,1,none⟩) (by simp) _
theorem isVertex_any (ao bo:Option Addr) (n ca m cb:Nat) (v:Int) (w:World):
   Calls Seq.prog 61 #[.agg #[.slice ao n ca,.slice bo m cb],.int .i64 v] w fun e w' =>e= .returned (.bool (vtx n v)) /\ Below w.heap.size w w':=by
 have HB:=hidep (pal w)
 by_cases h1:0 <= v
 · by_cases h2:v<(n:Int)
   · have HC:=hidep ((vtx_iff n v).2 ⟨h1,h2⟩)
     go_enter Seq.func61,Tryz.ntmps61
     go_wp2
     go_ret
     exact ⟨retp_bool HC.out.symm,HB.out _⟩
   · have HC:Hid (vtx n v=false):=by show _=_;rw [<- Bool.not_eq_true,vtx_iff];omega
     go_enter Seq.func61,Tryz.ntmps61
     go_wp2
     go_ret
     exact ⟨retp_bool HC.out.symm,HB.out _⟩
 · have HC:Hid (vtx n v=false):=by show _=_;rw [<- Bool.not_eq_true,vtx_iff];omega
   go_enter Seq.func61,Tryz.ntmps61
   go_wp2
   go_ret
   exact ⟨retp_bool HC.out.symm,HB.out _⟩
theorem plAlive_any (ao bo:Option Addr) (ca m cb:Nat) (al:List Bool) (v:Int) (w:World) (hA:BsAt w ao al):
   Calls Seq.prog 60 #[.agg #[.slice ao al.length ca,.slice bo m cb],.int .i64 v] w fun e w' =>e= .returned (.bool (alv al v)) /\ Below w.heap.size w w':=by
 have HB:=hidep (pal w)
 cases hv:vtx al.length v with
 | false=>
   have HC:=hidep (alv_no hv)
   have h1:=fun W=>isVertex_any ao bo al.length ca m cb v W
   rw [hv] at h1
   clear hv hA
   go_enter Seq.func60,Tryz.ntmps60
   go_wp2_with (go_at_call 61;refine (h1 _).mono ?_;rintro e w1 ⟨rfl,hb1⟩)
   go_ret
   exact ⟨retp_bool HC.out.symm,ptw (HB.out _) hb1⟩
 | true=>
   have HC:=hidep (alv_yes hv)
   have h1:=fun W=>isVertex_any ao bo al.length ca m cb v W
   rw [hv] at h1
   have hr:=(vtx_iff _ _).1 hv
   clear hv
   obtain ⟨k,rfl⟩:∃k:Nat,v=(k:Int):=⟨v.toNat,by omega⟩
   have hk:k<al.length:=by omega
   rw [Int.toNat_natCast,List.getD_eq_getElem?_getD,List.getElem?_eq_getElem hk,Option.getD_some] at HC
   rcases hA with h0 | ⟨b,off,rfl,hlt,hc⟩
   · subst h0;simp at hk
   have c0:=BsAt.at1 hk hc
   have hk1:(0:Int) <= (k:Int):=by omega
   have hk2:(k:Int)<(al.length:Int):=by omega
   clear hc hr
   generalize al[k]=x at HC c0
   generalize al.length=n at*
   go_enter Seq.func60,Tryz.ntmps60
   go_wp2_with fail
   refine (h1 _).mono ?_
   rintro e w1 ⟨rfl,hb1⟩
   have hz:=hb1.size
   simp only [World.size_alloc] at hz
   have q0:w1.cell? ⟨w.heap.size,0,none⟩=some (.slice (some ⟨b,off,none⟩) n ca):=by rw [hb1.cell (p:=⟨w.heap.size,0,none⟩) (by simp)];simp
   have c1:w1.cell? ⟨b,off+k,none⟩=some (.bool x):=by rw [(ptw (HB.out _) hb1).cell (p:=⟨b,off+k,none⟩) hlt];exact c0
   have HB1:=hidep (ptw (HB.out _) hb1)
   clear hb1
   go_wp2
   go_ret
   exact ⟨retp_bool HC.out.symm,HB1.out⟩
set_option maxRecDepth 100000 in
set_option maxHeartbeats 4000000 in
theorem plCheck_any (ao bo:Option Addr) (ca cb:Nat) (al:List Bool) (arcs:List Ac) (w:World) (hA:BsAt w ao al) (hR:PcAt w bo arcs):
   Calls Seq.prog 26 #[.agg #[.slice ao al.length ca,.slice bo arcs.length cb]] w fun e w' =>e= .returned (.int .i64 (shot al arcs)) /\ Below w.heap.size w w':=by
 have HB:=hidep (pal w)
 by_cases n1:12<al.length
 · have HC:=hidep (shot_large (al:=al) (arcs:=arcs) (.inl n1))
   clear hA hR
   go_enter Seq.func26,Tryz.ntmps26
   go_wp2
   go_ret
   exact ⟨retp_int HC.out.symm,HB.out _⟩
 by_cases n2:30<arcs.length
 · have HC:=hidep (shot_large (al:=al) (arcs:=arcs) (.inr n2))
   clear hA hR
   go_enter Seq.func26,Tryz.ntmps26
   go_wp2
   go_ret
   exact ⟨retp_int HC.out.symm,HB.out _⟩
 have HN:Hid (¬(12<al.length \/ 30<arcs.length)):=by show ¬_;omega
 have hl30:arcs.length <= 30:=by omega
 go_enter Seq.func26,Tryz.ntmps26
 go_wp2
 go_loopw [4,20] (fun _ i wr=>∃k:Nat,k <= arcs.length /\ i= .int .i64 k /\ (arcs.take k).all (endsB al)=true /\ Below (w.heap.size+1) (w.alloc (.cells #[.slice ao al.length ca,.slice bo arcs.length cb] 34)) wr) (fun _ i _=>arcs.length-(intOf i).toNat)
 case atStart=>exact ⟨0,Nat.zero_le _,rfl,rfl,Below.refl _ _⟩
 case round=>
   obtain ⟨k,hk,rfl,hI,hb⟩:=hrel
   have HI:=hidep hI
   clear hI
   have hbw:Below w.heap.size w wr:=(HB.out _).trans (hb.mono (by omega))
   have hz:=hb.size
   simp only [World.size_alloc] at hz
   have hz0:w.heap.size<wr.heap.size:=by omega
   have q0:wr.cell? ⟨w.heap.size,0,none⟩=some (.slice ao al.length ca):=by rw [hb.cell (p:=⟨w.heap.size,0,none⟩) (by simp)];simp
   have q1:wr.cell? ⟨w.heap.size,1,none⟩=some (.slice bo arcs.length cb):=by rw [hb.cell (p:=⟨w.heap.size,1,none⟩) (by simp)];simp
   by_cases hlt:k<arcs.length
   · have hA2:=hA.below hbw
     rcases hR.below hbw with h0 | ⟨b,off,rfl,hbr,hc⟩
     · subst h0;simp at hlt
     obtain ⟨c0,c1,c2⟩:=PcAt.at3 hlt hc
     have HNX:Hid (∀o w1,Below (wr.alloc o).heap.size (wr.alloc o) w1 -> Below w.heap.size w w1 /\ Below (w.heap.size+1) (w.alloc (.cells #[.slice ao al.length ca,.slice (some ⟨b,off,none⟩) arcs.length cb] 34)) w1):=by
       intro o w1 h1
       have h2:=ptw (pal wr o) h1
       exact ⟨ptw hbw h2,hb.trans (h2.mono (by omega))⟩
     have h1:=fun W (hW:Below wr.heap.size wr W) v=>plAlive_any ao (some ⟨b,off,none⟩) ca arcs.length cb al v W (hA2.below hW)
     have HAL:=hidep (pal wr)
     clear hc hR hA hA2
     cases e1:alv al arcs[k].1 with
     | false=>
       have HE:=hidep (shot_none HN.out hlt (show endsB al arcs[k]=false by unfold endsB;rw [e1];rfl))
       have g1:=fun W hW=>h1 W hW arcs[k].1
       rw [e1] at g1
       clear h1 e1
       go_wp2_with (go_at_call 60;refine (g1 _ (HAL.out _)).mono ?_;rintro e w1 ⟨rfl,hb1⟩)
       go_ret
       exact ⟨retp_int HE.out.symm,(HNX.out _ _ hb1).1⟩
     | true=>
       have g1:=fun W hW=>h1 W hW arcs[k].1
       rw [e1] at g1
       cases e2:alv al arcs[k].2.1 with
       | false=>
         have HE:=hidep (shot_none HN.out hlt (show endsB al arcs[k]=false by unfold endsB;rw [e1,e2];rfl))
         have g2:=fun W hW=>h1 W hW arcs[k].2.1
         rw [e2] at g2
         clear h1 e1 e2
         go_wp2_with fail
         refine (g1 _ (HAL.out _)).mono ?_
         rintro e w1 ⟨rfl,hb1⟩
         have hb2:=ptw (HAL.out _) hb1
         have d0:=(hb2.cell (p:=⟨w.heap.size,0,none⟩) hz0).trans q0
         have d1:=(hb2.cell (p:=⟨w.heap.size,1,none⟩) hz0).trans q1
         have x1:w1.cell? ⟨wr.heap.size,1,none⟩=some (.int .i64 arcs[k].2.1):=by rw [hb1.cell (p:=⟨wr.heap.size,1,none⟩) (by simp)];simp
         have hz1:=hb1.size
         simp only [World.size_alloc] at hz1
         have hz2:w.heap.size<w1.heap.size:=by omega
         have HN1:=hidep (HNX.out _ _ hb1)
         clear hb1 q0 q1 c0 c1 c2 hb
         go_wp2_with fail
         refine (g2 _ hb2).mono ?_
         rintro e w2 ⟨rfl,hb3⟩
         go_wp2
         go_ret
         exact ⟨retp_int HE.out.symm,ptw HN1.out.1 hb3⟩
       | true=>
         have HE:=hidep (all_take_succ hlt HI.out (show endsB al arcs[k]=true by unfold endsB;rw [e1,e2];rfl))
         have g2:=fun W hW=>h1 W hW arcs[k].2.1
         rw [e2] at g2
         clear h1 e1 e2
         go_wp2_with fail
         refine (g1 _ (HAL.out _)).mono ?_
         rintro e w1 ⟨rfl,hb1⟩
         have hb2:=ptw (HAL.out _) hb1
         have d0:=(hb2.cell (p:=⟨w.heap.size,0,none⟩) hz0).trans q0
         have d1:=(hb2.cell (p:=⟨w.heap.size,1,none⟩) hz0).trans q1
         have x1:w1.cell? ⟨wr.heap.size,1,none⟩=some (.int .i64 arcs[k].2.1):=by rw [hb1.cell (p:=⟨wr.heap.size,1,none⟩) (by simp)];simp
         have hz1:=hb1.size
         simp only [World.size_alloc] at hz1
         have hz2:w.heap.size<w1.heap.size:=by omega
         have HN1:=hidep (HNX.out _ _ hb1)
         clear hb1 q0 q1 c0 c1 c2 hb
         go_wp2_with fail
         refine (g2 _ hb2).mono ?_
         rintro e w2 ⟨rfl,hb3⟩
         go_wp2
         go_roundw
         case rel=>exact ⟨k+1,by omega,by go_num,HE.out,HN1.out.2.trans (hb3.mono (by omega))⟩
         case measure=>simp [intOf];omega
   · have hkl:k=arcs.length:=by omega
     subst hkl
     have HE:=hidep (all_take_end HI.out)
     have hR2:=hR.below hbw
     have HBW:=hidep hbw
     clear hR hA hbw hb HI
     obtain ⟨wo,rfl⟩:∃x,x=wr:=⟨_,rfl⟩
     go_wp2
     go_loopw [6,40] (fun _ i wr=>∃k:Nat,k <= arcs.length /\ i= .int .i64 k /\ (arcs.take k).all costB=true /\ Below wo.heap.size wo wr) (fun _ i _=>arcs.length-(intOf i).toNat)
     case atStart=>exact ⟨0,Nat.zero_le _,rfl,rfl,Below.refl _ _⟩
     case round=>
       obtain ⟨k,hk,rfl,hI,hb⟩:=hrel
       have HI:=hidep hI
       clear hI
       have hz:=hb.size
       by_cases hlt:k<arcs.length
       · rcases hR2.below hb with h0 | ⟨b,off,rfl,hbr,hc⟩
         · subst h0;simp at hlt
         obtain ⟨c0,c1,c2⟩:=PcAt.at3 hlt hc
         have HNX:Hid (∀o,Below wo.heap.size wo (wr.alloc o)):=fun o=>ptw hb (pal wr o)
         clear hc hR2
         by_cases g1:arcs[k].2.2<0
         · have HC:=hidep (shot_cost HN.out HE.out hlt (show costB arcs[k]=false by rw [<- Bool.not_eq_true,costB_iff];omega))
           go_wp2
           go_ret
           exact ⟨retp_int HC.out.symm,ptw HBW.out (HNX.out _)⟩
         · by_cases g2:1000<arcs[k].2.2
           · have HC:=hidep (shot_cost HN.out HE.out hlt (show costB arcs[k]=false by rw [<- Bool.not_eq_true,costB_iff];omega))
             go_wp2
             go_ret
             exact ⟨retp_int HC.out.symm,ptw HBW.out (HNX.out _)⟩
           · have HC:=hidep (all_take_succ hlt HI.out (show costB arcs[k]=true by rw [costB_iff];omega))
             go_wp2
             go_roundw
             case rel=>exact ⟨k+1,by omega,by go_num,HC.out,HNX.out _⟩
             case measure=>simp [intOf];omega
       · have hkl:k=arcs.length:=by omega
         subst hkl
         have HC:=hidep (shot_ok HN.out HE.out (all_take_end HI.out))
         go_wp2
         go_ret
         exact ⟨retp_int HC.out.symm,ptw HBW.out hb⟩
theorem take_set_succ {x:List Int} {k:Nat} {v:Int} (hk:k<x.length):(x.set k v).take (k+1)=x.take k++[v]:=by
 rw [List.take_succ_eq_append_getElem (by simpa using hk),List.getElem_set_self,List.take_set_of_le (Nat.le_refl _)]
set_option maxRecDepth 100000 in
set_option maxHeartbeats 4000000 in
theorem ofAlive_any (g:Nat) (caps:Array Value) (f:Int -> Int) (eg:∀args w,(callFunc g args).run Seq.prog w= .ok (.enter g args) w) (ao bo:Option Addr) (ca m cb:Nat) (al:List Bool) (w:World) (hA:BsAt w ao al) (h12:al.length <= 12)
   (hf:∀(v:Nat) wq,v<al.length -> Below w.heap.size w wq -> Calls Seq.prog g (#[.int .i64 v]++caps) wq fun e w' =>e= .returned (.int .i64 (f v)) /\ Below wq.heap.size wq w'):
   Calls Seq.prog 27 #[.agg #[.slice ao al.length ca,.slice bo m cb],.func (.func g) #[] caps] w fun e w' =>∃gb,e= .returned (.slice (some ⟨gb,0,none⟩) al.length al.length) /\ Zo w' w.heap.size gb al.length al.length (firstL al f) /\ Below w.heap.size w w':=by
 obtain ⟨i0,hi,hz0,hz1,hz2⟩:=info_parts Tryz.infoInt
 have HB:=hidep (pal w)
 have HF:=hidep hf
 clear hf
 go_enter Seq.func27,Tryz.ntmps27
 go_wp2_with (at_make;refine wpList_make_full _ rfl _ _ 37 rfl w.heap.size 3 i0 (.int .i64 0) 1 ((Seq.pu 37).trans Tryz.underlying37) hi hz0 hz1 .i64 .i64 _ _ al.length rfl rfl rfl rfl (by rw [hz2];omega) (by unfold maxLen;omega) (by simp) ?_;intro w0 hown0 hgrow0)
 have hb0:Below w.heap.size w w0:=(HB.out _).grown hgrow0 (by simp) (fun k hk=>by cases hk)
 have hs0:w0.cell? ⟨w.heap.size,0,none⟩=some (.slice ao al.length ca):=by rw [hgrow0.cell_far ⟨w.heap.size,0,none⟩ (by simp) (by simp)];simp
 have hz0':=hgrow0.size
 simp only [World.size_alloc] at hown0 hz0'
 have HZ:Hid (Zo w0 w.heap.size (w.heap.size+1) al.length al.length (List.replicate al.length 0)):=by
   have e1:(madeCells (Value.int .i64 0).cells (al.length*1)).toList=(List.replicate al.length 0).map (Value.int .i64):=by
     rw [Nat.mul_one]
     show (madeCells #[Value.int .i64 0] al.length).toList=_
     rw [toList_madeCells_one,List.map_replicate]
   rw [e1] at hown0
   exact hown0
 clear hown0 hgrow0
 go_loopw [6,13] (fun _ i wr=>∃(k:Nat) (x:List Int),k <= al.length /\ i= .int .i64 k /\ x.take k=(firstL al f).take k /\ Zo wr w.heap.size (w.heap.size+1) al.length al.length x /\ wr.cell? ⟨w.heap.size,0,none⟩=some (.slice ao al.length ca) /\ Below w.heap.size w wr) (fun _ i _=>al.length-(intOf i).toNat)
 case atStart=>exact ⟨0,_,Nat.zero_le _,rfl,by simp,HZ.out,hs0,hb0⟩
 case round=>
   obtain ⟨k,x,hk,rfl,hx,hown,hs,hb⟩:=hrel
   have HX:=hidep hx
   have HO:=hidep hown
   have hxl:=hown.len
   have hz:=hb.size
   have hlt1:=hown.lt (w.heap.size+1) rfl
   clear hx
   by_cases hlt:k<al.length
   · have ck:=hown.cell hlt
     have fz:=hown.frozenAt k
     rcases hA.below hb with h0 | ⟨b,off,rfl,hbr,hc⟩
     · subst h0;simp at hlt
     have c0:=BsAt.at1 hlt hc
     have hbw:b<w.heap.size:=by
       rcases hA with h0 | ⟨b',off',e,h,_⟩
       · subst h0;simp at hlt
       · cases e;exact h
     have hki:(k:Int)<(al.length:Int):=by omega
     have HT:=hidep (firstL_take al f k hlt)
     rw [List.getD_eq_getElem?_getD,List.getElem?_eq_getElem hlt,Option.getD_some] at HT
     have HS:Hid (∀v:Int,Zo (wr.setCell ⟨w.heap.size+1,k,none⟩ (.int .i64 v)) w.heap.size (w.heap.size+1) al.length al.length (x.set k v) /\ Below w.heap.size w (wr.setCell ⟨w.heap.size+1,k,none⟩ (.int .i64 v))):=fun v=>⟨hown.set k v,hb.setCell (by simp) _⟩
     clear hc hown hA
     cases ea:al[k] with
     | false=>
       rw [ea] at c0 HT
       simp only [Bool.false_eq_true,if_false] at HT
       have HX' :Hid ((x.set k 1099511627776).take (k+1)=(firstL al f).take (k+1)):=by show _=_;rw [take_set_succ (by omega),HX.out,HT.out]
       clear ea
       generalize x.getD k 0=xk at ck
       go_wp2
       go_roundw
       case rel=>exact ⟨k+1,_,by omega,by go_num,HX'.out,(HS.out _).1,((gby_set wr _ _ _).cell_far ⟨w.heap.size,0,none⟩ (by show w.heap.size<_;omega) (by simp)).trans hs,(HS.out _).2⟩
       case measure=>simp [intOf];omega
     | true=>
       rw [ea] at c0 HT
       simp only [if_true] at HT
       have HX' :Hid (((x.set k 1099511627776).set k (f k)).take (k+1)=(firstL al f).take (k+1)):=by show _=_;rw [List.set_set,take_set_succ (by omega),HX.out,HT.out]
       clear ea
       generalize x.getD k 0=xk at ck
       have hcl:=HF.out k (wr.setCell ⟨w.heap.size+1,k,none⟩ (.int .i64 1099511627776)) hlt (HS.out _).2
       go_wp2_with fail
       refine hcl.mono ?_
       rintro e w2 ⟨rfl,hb2⟩
       have Z2:=(HS.out 1099511627776).1.below hb2
       have q0:=Z2.cell hlt
       have q1:=World.ownsRow.frozenAt Z2 k
       have hs2:w2.cell? ⟨w.heap.size,0,none⟩=some (.slice (some ⟨b,off,none⟩) al.length ca):=by rw [hb2.cell (p:=⟨w.heap.size,0,none⟩) (by show w.heap.size<(wr.setCell _ _).heap.size;have:=(gby_set wr (w.heap.size+1) k (.int .i64 1099511627776)).size;omega)];exact ((gby_set wr _ _ _).cell_far ⟨w.heap.size,0,none⟩ (by show w.heap.size<_;omega) (by simp)).trans hs
       have HZ3:=hidep (Z2.set k (f k))
       have HB3:=hidep ((ptw (HS.out 1099511627776).2 hb2).setCell (p:=⟨w.heap.size+1,k,none⟩) (by simp) (.int .i64 (f k)))
       have hlt2:=(World.ownsRow.lt Z2 (w.heap.size+1) rfl).2
       generalize (x.set k 1099511627776).getD k 0=xk2 at q0
       clear hb2 Z2
       go_wp2
       go_roundw
       case rel=>exact ⟨k+1,_,by omega,by go_num,HX'.out,HZ3.out,((gby_set w2 _ _ _).cell_far ⟨w.heap.size,0,none⟩ (by show w.heap.size<_;omega) (by simp)).trans hs2,HB3.out⟩
       case measure=>simp [intOf];omega
   · have hkl:k=al.length:=by omega
     have HE:Hid (x=firstL al f):=by
       have h1:=HX.out
       rw [hkl] at h1
       rw [List.take_of_length_le (by omega),List.take_of_length_le (by rw [firstL_length];omega)] at h1
       exact h1
     go_wp2
     go_ret
     refine ⟨_,rfl,?_,hb⟩
     rw [<- HE.out];exact HO.out
theorem arc_parts {arcs:List Ac} {n k:Nat} (hE:EndsIn n arcs) (hk:k<arcs.length):∃(A B:Nat),A<n /\ B<n /\ arcs[k].1=(A:Int) /\ arcs[k].2.1=(B:Int):=by
 have h:=hE _ (List.getElem_mem hk)
 exact ⟨arcs[k].1.toNat,arcs[k].2.1.toNat,by omega,by omega,by omega,by omega⟩
set_option maxRecDepth 100000 in
set_option maxHeartbeats 4000000 in
theorem spread_any (g:Nat) (caps:Array Value) (p:Ac -> Int) (eg:∀args w,(callFunc g args).run Seq.prog w= .ok (.enter g args) w) (base gb n:Nat) (bo:Option Addr) (cb:Nat) (first x0:List Int) (arcs:List Ac) (w:World)
   (hZ:Zo w base gb n n x0) (hR:PcAt w bo arcs) (hne:arcs≠[] -> ∀b off,bo=some ⟨b,off,none⟩ -> b≠gb) (F:Fine first arcs p) (M:Mid first arcs p x0) (hn:first.length=n) (h60:arcs.length <= 60)
   (hf:∀a∈arcs,∀wq,Calls Seq.prog g (#[.agg #[.int .i64 a.1,.int .i64 a.2.1,.int .i64 a.2.2]]++caps) wq fun e w' =>e= .returned (.int .i64 (p a)) /\ Below wq.heap.size wq w'):
   Calls Seq.prog 29 #[.slice (some ⟨gb,0,none⟩) n n,.slice bo arcs.length cb,.func (.func g) #[] caps] w fun e w' =>e= .returned (.tuple #[]) /\ ∃z,Best first arcs p z /\ Zo w' base gb n n z /\ w.grownBy w' (some gb):=by
 have HF:=hidep hf
 have HFine:=hidep F
 have HEn:=hidep (show EndsIn n arcs by rw [<- hn];exact F.en)
 clear hf
 have HM:=hidep M
 have HZ0:=hidep hZ
 clear F M hZ
 go_enter Seq.func29,Tryz.ntmps29
 go_wp2
 go_loopw [6,8,9] (fun ch _ _ wr=>∃(c:Bool) (x:List Int),ch= .bool c /\ Mid first arcs p x /\ (c=false -> Best first arcs p x) /\ Zo wr base gb n n x /\ w.grownBy wr (some gb)) (fun ch _ _ wr=>2*msum (rdL wr gb n)+flagOf ch)
 case atStart=>exact ⟨true,x0,rfl,HM.out,(fun h=>by cases h),HZ0.out,gby_refl _ _⟩
 case round=>
   obtain ⟨c,x,rfl,hM,hBst,hZ,hG⟩:=hrel
   cases c with
   | false=>
     have HB:=hidep (hBst rfl)
     go_wp2
     go_end0
     exact ⟨rfl,x,HB.out,hZ,hG⟩
   | true=>
     have HMx:=hidep hM
     have HZx:=hidep hZ
     have HGx:=hidep hG
     clear hBst hM hZ hG
     obtain ⟨wo,rfl⟩:∃x,x=wr:=⟨_,rfl⟩
     go_wp2
     go_loopw [6,8,9,13] (fun ch _ _ i wr=>∃(k:Nat) (c:Bool) (z:List Int),k <= arcs.length /\ i= .int .i64 k /\ ch= .bool c /\ Turn first arcs p x z c k /\ Zo wr base gb n n z /\ w.grownBy wr (some gb)) (fun _ _ _ i _=>arcs.length-(intOf i).toNat)
     case atStart=>exact ⟨0,false,x,Nat.zero_le _,rfl,rfl,turn_start HMx.out,HZx.out,HGx.out⟩
     case round=>
       obtain ⟨k,c,z,hk,rfl,rfl,hT,hZ,hG⟩:=hrel
       have HT:=hidep hT
       have HZ:=hidep hZ
       have HG:=hidep hG
       by_cases hlt:k<arcs.length
       · rcases hR.grown hG (hne (fun h=>by subst h;simp at hlt)) with h0 | ⟨b,off,rfl,hbr,hc⟩
         · subst h0;simp at hlt
         obtain ⟨c0,c1,c2⟩:=PcAt.at3 hlt hc
         obtain ⟨A,B,hA,hB,eA,eB⟩:=arc_parts HEn.out hlt
         have hm:arcs[k]∈arcs:=List.getElem_mem hlt
         have hcl:=HF.out _ hm
         have hp:=HFine.out.pl _ hm
         have hvA:vat z arcs[k].1=z.getD A 0:=by unfold vat;rw [eA];rfl
         have hvB:vat z arcs[k].2.1=z.getD B 0:=by unfold vat;rw [eB];rfl
         have b1:=hT.mid.lo HFine.out A (by omega)
         have b2:=hT.mid.hi HFine.out A (by omega)
         have zA:=hZ.cell hA
         have zB:=hZ.cell hB
         have fB:=World.ownsRow.frozenAt hZ B
         have HLS:Hid (z.getD A 0+p arcs[k]<z.getD B 0 -> Turn first arcs p x (z.set B (z.getD A 0+p arcs[k])) true (k+1)):=by
           intro h
           have:=turn_less HFine.out HT.out hlt (by rw [hvA,hvB];exact h)
           rw [hvA,eB] at this
           exact this
         have HST:Hid (¬z.getD A 0+p arcs[k]<z.getD B 0 -> Turn first arcs p x z c (k+1)):=fun h=>turn_stay HT.out hlt (by rw [hvA,hvB];exact h)
         rw [eA] at c0
         rw [eB] at c1
         rw [eA,eB] at hcl
         clear hT hvA hvB eA eB hm
         generalize p arcs[k]=pa at*
         generalize arcs[k].2.2=ac at*
         generalize z.getD A 0=tA at*
         generalize hzB:z.getD B 0=tB at*
         clear hzB hc
         have hgl:=World.ownsRow.lt hZ gb rfl
         have hiA:(A:Int)<(n:Int):=by omega
         have hiB:(B:Int)<(n:Int):=by omega
         have hw1:IntKind.i64.wrap (tA+pa)=tA+pa:=wrap_small _ (by omega) (by omega)
         have hne2:Nonempty (HeldIn (wr.alloc (.cells #[.int .i64 (A:Int),.int .i64 (B:Int),.int .i64 ac] 73))):=⟨⟨_,Below.refl _ _⟩⟩
         have f0:∀s:HeldIn (wr.alloc (.cells #[.int .i64 (A:Int),.int .i64 (B:Int),.int .i64 ac] 73)),s.w.cell? ⟨wr.heap.size,0,none⟩=some (.int .i64 A):=fun s=>by rw [s.h.cell (p:=⟨wr.heap.size,0,none⟩) (by simp)];simp
         have f1:∀s:HeldIn (wr.alloc (.cells #[.int .i64 (A:Int),.int .i64 (B:Int),.int .i64 ac] 73)),s.w.cell? ⟨wr.heap.size,1,none⟩=some (.int .i64 B):=fun s=>by rw [s.h.cell (p:=⟨wr.heap.size,1,none⟩) (by simp)];simp
         have f2:∀s:HeldIn (wr.alloc (.cells #[.int .i64 (A:Int),.int .i64 (B:Int),.int .i64 ac] 73)),s.w.cell? ⟨wr.heap.size,2,none⟩=some (.int .i64 ac):=fun s=>by rw [s.h.cell (p:=⟨wr.heap.size,2,none⟩) (by simp)];simp
         have f3:∀s:HeldIn (wr.alloc (.cells #[.int .i64 (A:Int),.int .i64 (B:Int),.int .i64 ac] 73)),s.w.cell? ⟨gb,A,none⟩=some (.int .i64 tA):=fun s=>by rw [s.h.cell (p:=⟨gb,A,none⟩) (by simp;omega),(pal wr _).cell (p:=⟨gb,A,none⟩) hgl.2];exact zA
         have HQ:Hid (∀w1,Below (wr.alloc (.cells #[.int .i64 (A:Int),.int .i64 (B:Int),.int .i64 ac] 73)).heap.size (wr.alloc (.cells #[.int .i64 (A:Int),.int .i64 (B:Int),.int .i64 ac] 73)) w1 -> w1.cell? ⟨wr.heap.size,1,none⟩=some (.int .i64 B) /\ w1.cell? ⟨gb,B,none⟩=some (.int .i64 tB) /\ w1.frozen? ⟨gb,B,none⟩=false /\ wr.heap.size<w1.heap.size /\ gb<w1.heap.size /\ Zo w1 base gb n n z /\ w.grownBy w1 (some gb)):=by
           intro w1 h1
           have h2:=ptw (pal wr _) h1
           have hz:=h1.size
           simp only [World.size_alloc] at hz
           exact ⟨by rw [h1.cell (p:=⟨wr.heap.size,1,none⟩) (by simp)];simp,by rw [h2.cell (p:=⟨gb,B,none⟩) hgl.2];exact zB,by rw [h2.frozen (p:=⟨gb,B,none⟩) hgl.2];exact fB,by omega,by omega,HZ.out.below h2,gby_trans HG.out (gby_of_below h2 _)⟩
         clear hZ hG zA zB fB hR
         go_wp2_with fail
         refine wp_region_held _ (Below.refl _ _) (by kernel_rfl) (by kernel_rfl) ?_
         repeat (go_big_quiet_step ((go_at_fn g;exact held_of (hcl _))))
         refine wpQuiet_nil ?_
         rintro _ ⟨s,rfl⟩
         have hbs:=HQ.out _ s.h
         generalize s.w=w1 at hbs ⊢
         obtain ⟨q1,q2,q3,q4,q5,q6,q7⟩:=hbs
         have HZ1:=hidep q6
         have HG1:=hidep q7
         clear f0 f1 f2 f3 hne2 HQ q6 q7 hcl s c0 c1 c2
         by_cases hls:tA+pa<tB
         · have HT':=hidep (HLS.out (by omega))
           go_wp2
           go_roundw
           case rel=>exact ⟨k+1,true,_,by omega,by go_num,rfl,HT'.out,HZ1.out.set B _,gby_trans HG1.out (gby_set _ _ _ _)⟩
           case measure=>simp [intOf];omega
         · have HT':=hidep (HST.out (by omega))
           go_wp2
           go_roundw
           case rel=>exact ⟨k+1,c,_,by omega,by go_num,rfl,HT'.out,HZ1.out,HG1.out⟩
           case measure=>simp [intOf];omega
       · have hkl:k=arcs.length:=by omega
         subst hkl
         have HRD:=hidep hZ.rd
         have HRO:=hidep HZx.out.rd
         clear hT hZ hG
         go_wp2
         go_roundw
         case rel=>exact ⟨c,z,rfl,HT.out.mid,(fun h=>by subst h;exact turn_end HT.out),HZ.out,HG.out⟩
         case measure=>
           rw [HRD.out,HRO.out]
           cases c with
           | false=>rw [(HT.out.same rfl).1];simp [flagOf]
           | true=>have:=HT.out.less rfl;simp [flagOf];omega
structure RoundsIs (arcs:List Ac) (p:Ac -> Int) (back:Bool) (first x:List Int) (k:Nat):Prop where
 is:x=rnds arcs p back k first
 stop:rnd arcs p back x=x
 on:∀j,j<k -> ¬rnd arcs p back (rnds arcs p back j first)=rnds arcs p back j first
def begF (prog fr:Int) (v:Int):Int:=if prog=3 then v else fromF fr v
def pricZ (prog:Nat) (a:Ac):Int:=if prog=1 then 1 else if prog=2 then a.2.2 else 0
theorem rounds_best {arcs:List Ac} {p:Ac -> Int} {back:Bool} {first x:List Int} {k:Nat} (F:Fine first (ways back arcs) p) (he:back=true -> Even p) (R:RoundsIs arcs p back first x k):Best first (ways back arcs) p x:=by
 have go:∀k,Mid first (ways back arcs) p (rnds arcs p back k first):=by
   intro k
   induction k with
   | zero=>exact mid_start _ _ _
   | succ k ih=>exact (rn_round F he ih).mid
 have hM:Mid first (ways back arcs) p x:=by rw [R.is];exact go k
 exact rnd_end F he hM R.stop
theorem pricZ_even:Even (pricZ 3):=fun _=>rfl
theorem fine_prog {al:List Bool} {arcs:List Ac} (S:Shot al arcs) (fr:Int) {prog:Nat} (hp:prog=1 \/ prog=2 \/ prog=3):Fine (firstL al (begF prog fr)) (ways (decide (prog=3)) arcs) (pricZ prog) /\ (decide (prog=3)=true -> Even (pricZ prog)):=by
 have nv:=S.nv
 rcases hp with rfl | rfl | rfl
 · exact ⟨S.fine (fun v _=>fromF_bounds fr v) (fun a _=>by unfold pricZ;simp),fun h=>by simp at h⟩
 · exact ⟨S.fine (fun v _=>fromF_bounds fr v) (fun a ha=>by unfold pricZ;simpa using S.cost a ha),fun h=>by simp at h⟩
 · exact ⟨S.bothW (fun v hv=>by unfold begF;simp;omega) (fun a _=>by unfold pricZ;simp) pricZ_even,fun _=>pricZ_even⟩
abbrev P3:=Int×Int×Int
def updF {α:Type} (f:Nat -> α) (v:Nat) (x:α):Nat -> α:=fun i=>if i=v then x else f i
theorem updF_same {α:Type} (f:Nat -> α) (v:Nat) (x:α):updF f v x v=x:=by simp [updF]
theorem updF_far {α:Type} (f:Nat -> α) {v i:Nat} (x:α) (h:i≠v):updF f v x i=f i:=by simp [updF,h]
theorem map_updF (n v:Nat) (val:Nat -> Value) (x:Value):((List.range n).map val).set v x=(List.range n).map (updF val v x):=by
 apply List.ext_getElem (by simp)
 intro i h1 h2
 simp only [List.getElem_set,List.getElem_map,List.getElem_range,updF]
 by_cases e:v=i
 · simp [e]
 · have e2:¬i=v:=fun h=>e h.symm
   simp [e,e2]
theorem owns_apart {W:World} {base e size base' e' size' n n' :Nat} {v v' :Value} {xs xs' :List Value} (h:W.ownsRow base e size v n xs) (h' :W.ownsRow base' e' size' v' n' xs') (he:e≠e'):v.ownBlock=none \/ v.ownBlock≠v'.ownBlock:=by
 rcases h.2 with ⟨rfl,_⟩ | ⟨g,cap,cur,rfl,_,hh,_⟩
 · exact .inl rfl
 · right
   intro e
   rcases h'.2 with ⟨rfl,_⟩ | ⟨g',cap',cur',rfl,_,hh',_⟩
   · cases e
   · have:g=g':=Option.some.inj e
     subst this
     rw [hh] at hh'
     simp only [Option.some.injEq,Obj.cells.injEq] at hh'
     exact he hh'.2.1
structure AM (W:World) (base go n:Nat) (val:Nat -> Value) (pcs:Nat -> List P3):Prop where
 own:W.ownsRow base 41 1 (.slice (some ⟨go,0,none⟩) n n) n ((List.range n).map val)
 inn:∀v,v<n -> W.ownsRow base 54 3 (val v) (pcs v).length (enc3 (pcs v))
 ap:∀v v',v<n -> v' <n -> v≠v' -> (val v).ownBlock=none \/ (val v).ownBlock≠(val v').ownBlock
theorem AM.below {W W' :World} {base go n:Nat} {val:Nat -> Value} {pcs:Nat -> List P3} (A:AM W base go n val pcs) (hb:Below W.heap.size W W'):AM W' base go n val pcs:=
 ⟨ownsRow_below A.own hb,fun v hv=>ownsRow_below (A.inn v hv) hb,A.ap⟩
theorem AM.out {W:World} {base go n:Nat} {val:Nat -> Value} {pcs:Nat -> List P3} (A:AM W base go n val pcs) {v:Nat} (hv:v<n):W.cell? ⟨go,v,none⟩=some (val v):=by
 rw [World.ownsRow.cellAt A.own v (by omega)];simp [hv]
theorem AM.far {W:World} {base go n:Nat} {val:Nat -> Value} {pcs:Nat -> List P3} (A:AM W base go n val pcs) {v:Nat} (hv:v<n):(val v).ownBlock≠some go:=by
 rcases owns_apart (A.inn v hv) A.own (by decide) with e | e
 · rw [e];intro h;cases h
 · exact e
theorem rounds_unique {arcs:List Ac} {p:Ac -> Int} {back:Bool} {first x x' :List Int} {k k' :Nat} (R:RoundsIs arcs p back first x k) (R' :RoundsIs arcs p back first x' k'):x=x' /\ k=k':=by
 have e:k=k':=by
   rcases Nat.lt_trichotomy k k' with h | h | h
   · exact absurd (by have:=R.stop;rw [R.is] at this;exact this) (R'.on k h)
   · exact h
   · exact absurd (by have:=R'.stop;rw [R'.is] at this;exact this) (R.on k' h)
 subst e
 exact ⟨R.is.trans R'.is.symm,rfl⟩
theorem shot_snap {g:Gr} (R:Right g) (t:Int):Shot (aliveL t g.lives) (arcsL t g.lives g.edges):=by
 have key:∀a∈arcsL t g.lives g.edges,(alv (aliveL t g.lives) a.1=true /\ alv (aliveL t g.lives) a.2.1=true) /\ 0 <= a.2.2 /\ a.2.2 <= 1000:=by
   intro a ha
   unfold arcsL at ha
   rw [List.mem_flatMap] at ha
   obtain ⟨e,he,ha⟩:=ha
   have hend:=R.ends e he
   unfold arcOf at ha
   split at ha
   · simp at ha
   · rename_i l hl
     split at ha
     · rename_i hal
       simp only [List.mem_singleton] at ha
       subst ha
       rw [Bool.and_eq_true] at hal
       have hf:=(fitB_iff _ _).1 (R.legs e he l (lgFind_mem hl).1)
       refine ⟨⟨?_,?_⟩,by show 0 <= l.2.2.2;omega,by show l.2.2.2 <= 1000;omega⟩
       · unfold alv vtx
         rw [aliveL_length]
         have:=hal.1
         unfold aliveB at this
         simp only [this,Bool.and_true]
         simp;omega
       · unfold alv vtx
         rw [aliveL_length]
         have:=hal.2
         unfold aliveB at this
         simp only [this,Bool.and_true]
         simp;omega
     · simp at ha
 have h1:=R.lvs
 have h2:=R.eds
 have h3:=arcs_len t g.lives g.edges
 exact ⟨by rw [aliveL_length];omega,by omega,fun a ha=>(key a ha).1,fun a ha=>(key a ha).2⟩
def PlIs (g:Gr) (p:Nat) (fr:Int) (t:Nat) (x:List Int) (k:Nat):Prop:=RoundsIs (arcsL t g.lives g.edges) (pricZ p) (decide (p=3)) (firstL (aliveL t g.lives) (begF p fr)) x k
open Classical in
noncomputable def plF (g:Gr) (p:Nat) (fr:Int) (t:Nat):List Int×Nat:=if h:∃q:List Int×Nat,PlIs g p fr t q.1 q.2 then Classical.choose h else ([],0)
theorem plF_eq {g:Gr} {p:Nat} {fr:Int} {t:Nat} {x:List Int} {k:Nat} (h:PlIs g p fr t x k):plF g p fr t=(x,k):=by
 have hx:∃q:List Int×Nat,PlIs g p fr t q.1 q.2:=⟨(x,k),h⟩
 unfold plF
 rw [dif_pos hx]
 obtain ⟨e1,e2⟩:=rounds_unique (Classical.choose_spec hx) h
 exact Prod.ext e1 e2
def oneP (l:List P3) (t x:Int):List P3:=
 if x=1099511627776 then l
 else
   match l.getLast? with
   | none=>l++[(t,t+1,x)]
   | some q=>if q.2.1=t /\ q.2.2=x then l.dropLast++[(q.1,t+1,x)] else l++[(t,t+1,x)]
noncomputable def allP (g:Gr) (p:Nat) (fr:Int) (v:Nat):Nat -> List P3
 | 0=>[]
 | k+1=>oneP (allP g p fr v k) k ((plF g p fr k).1.getD v 0)
noncomputable def allR (g:Gr) (p:Nat) (fr:Int):Nat -> Int
 | 0=>0
 | k+1=>max (allR g p fr k) ((plF g p fr k).2:Int)
theorem oneP_skip {l:List P3} {t x:Int} (h:x=1099511627776):oneP l t x=l:=by unfold oneP;rw [if_pos h]
theorem oneP_nil {t x:Int} (h:x≠1099511627776):oneP [] t x=[]++[(t,t+1,x)]:=by unfold oneP;rw [if_neg h];rfl
theorem oneP_more {l:List P3} {f t x:Int} (h:x≠1099511627776):oneP (l++[(f,t,x)]) t x=l++[(f,t+1,x)]:=by unfold oneP;rw [if_neg h];simp
theorem oneP_new {l:List P3} {f t x t' x' :Int} (h:x≠1099511627776) (hn:¬(t' =t /\ x' =x)):oneP (l++[(f,t',x')]) t x=l++[(f,t',x')]++[(t,t+1,x)]:=by unfold oneP;rw [if_neg h];simp [hn]
theorem oneP_len (l:List P3) (t x:Int):(oneP l t x).length <= l.length+1:=by
 unfold oneP
 split
 · omega
 · split
   · simp
   · split<;>simp<;>omega
theorem allP_len (g:Gr) (p:Nat) (fr:Int) (v:Nat):∀k,(allP g p fr v k).length <= k
 | 0=>by simp [allP]
 | k+1=>by
   have:=oneP_len (allP g p fr v k) k ((plF g p fr k).1.getD v 0)
   have h2:=allP_len g p fr v k
   rw [allP];omega
theorem AM.base {W:World} {base base' go n:Nat} {val:Nat -> Value} {pcs:Nat -> List P3} (A:AM W base go n val pcs) (h:base' <= base):AM W base' go n val pcs:=⟨owns_base2 A.own h,fun v hv=>owns_base2 (A.inn v hv) h,A.ap⟩
theorem own_slice {W:World} {base e size n:Nat} {v:Value} {xs:List Value} (h:W.ownsRow base e size v n xs) (hn:0<n):∃b c,v= .slice (some ⟨b,0,none⟩) n c:=by
 rcases h.2 with ⟨_,h0⟩ | ⟨b,c,cur,e,_⟩
 · omega
 · exact ⟨b,c,e⟩
theorem Tryz.infoPcs:(Seq.prog.info? 41).map (fun i=>(i.zero,i.size,i.bytes))=some (some (.slice none 0 0),1,24):=by kernel_rfl
theorem am_start {w0:World} {base go n:Nat} (h:w0.ownsRow base 41 1 (.slice (some ⟨go,0,none⟩) n n) n (madeCells (Value.slice none 0 0).cells (n*1)).toList):AM w0 base go n (fun _=> .slice none 0 0) (fun _=>[]):=by
 have e1:(madeCells (Value.slice none 0 0).cells (n*1)).toList=(List.range n).map (fun _=>Value.slice none 0 0):=by
   rw [Nat.mul_one]
   show (madeCells #[Value.slice none 0 0] n).toList=_
   rw [toList_madeCells_one]
   simp [List.map_const']
 rw [e1] at h
 exact ⟨h,fun _ _=>World.ownsRow_nil _ _ _ _,fun _ _ _ _ _=> .inl rfl⟩
end Go.Proofs.YtfphigmeppdocaaGreat.Q
