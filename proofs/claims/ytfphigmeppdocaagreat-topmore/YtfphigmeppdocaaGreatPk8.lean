/-
  Several texts in one.
-/
import Derived.Laws.StructEq
import Derived.Laws.AppendOwnNone
import Derived.Maps.AppendAt
import Derived.Sort.OwnSortedInts
import Derived.Lib.SlicesCompact
import Derived.Test.YtfphigmeppdocaaGreatPk7
namespace Go.Proofs.YtfphigmeppdocaaGreat.Q
open Lo (Seq.prog)
open Go.RowKit
def VisOk (g:Gr) (pr:Ri -> Int) (v t:Int) (M:Mp):Prop:=(aliveB t g.lives v=true /\ SpE g (F1 v t) pr M) \/ (aliveB t g.lives v=false /\ M=fun _ _=>none)
theorem VisOk.snd {g:Gr} {pr:Ri -> Int} {v t:Int} {M:Mp} (h:VisOk g pr v t M) {x y:Int} {z:Vs} (hz:M x y=some z):Pay g pr v t x y z.1:=by
 rcases h with ⟨ha,h⟩ | ⟨_,rfl⟩
 · exact ⟨ha,h.snd _ _ _ hz⟩
 · cases hz
theorem VisOk.all {g:Gr} {pr:Ri -> Int} {v t:Int} {M:Mp} (h:VisOk g pr v t M) {x y p:Int} (hp:Pay g pr v t x y p):∃z,M x y=some z /\ z.1 <= p:=by
 rcases h with ⟨_,h⟩ | ⟨ha,_⟩
 · exact h.all _ _ _ hp.2
 · rw [hp.1] at ha;cases ha
theorem Pay.waits {g:Gr} (R:Right g) {pr:Ri -> Int} {v0 t0 v t t' p:Int} (h0:0 <= v0) (h:Pay g pr v0 t0 v t p) (ht:t <= t') (ha:aliveB t' g.lives v=true):Pay g pr v0 t0 v t' p:=⟨h.1,h.2.waits R (F1_ok h0 h.1) ht ha⟩
theorem Pay.place {g:Gr} (R:Right g) {pr:Ri -> Int} {v0 t0 v t p:Int} (h0:0 <= v0) (h:Pay g pr v0 t0 v t p):0 <= v /\ v<g.lives.length /\ aliveB t g.lives v=true /\ 0 <= t /\ t<g.hor /\ t0 <= t:=h.2.place R (F1_ok h0 h.1)
def prF (M:Mp) (v t:Int):Int:=match M v t with | none=>1099511627776 | some z=>z.1
def lastT (g:Gr) (v:Nat):Int:=(g.lives.getD v (0,0)).2- 1
theorem lastT_at {g:Gr} {v:Nat} (hv:v<g.lives.length):lastT g v=g.lives[v].2- 1:=by unfold lastT;rw [List.getD_eq_getElem?_getD,List.getElem?_eq_getElem hv];rfl
theorem last_alive {g:Gr} (R:Right g) {v:Nat} (hv:v<g.lives.length):aliveB (lastT g v) g.lives (v:Int)=true /\ (∀t,aliveB t g.lives (v:Int)=true -> t <= lastT g v) /\ 0 <= lastT g v /\ lastT g v<100:=by
 have h:=R.life _ (List.getElem_mem hv)
 have hh:=R.hor
 rw [lastT_at hv]
 refine ⟨?_,fun t ht=> ?_,by omega,by omega⟩
 · rw [aliveB_at _ _ _ hv];exact (hasB_iff _ _ _).2 (by omega)
 · rw [aliveB_at _ _ _ hv] at ht;have:=(hasB_iff _ _ _).1 ht;omega
def fillL (f:Nat -> Int) (n k:Nat):List Int:=(List.range n).map fun x=>if x<k then f x else 0
theorem fill_len (f:Nat -> Int) (n k:Nat):(fillL f n k).length=n:=by simp [fillL]
theorem fill_get (f:Nat -> Int) (n k x:Nat) (hx:x<n):(fillL f n k).getD x 0=if x<k then f x else 0:=by simp [fillL,List.getD_eq_getElem?_getD,hx]
theorem fill_zero (f:Nat -> Int) (n:Nat):fillL f n 0=List.replicate n 0:=by
 refine list_ext_gd (by simp [fillL]) fun x hx=> ?_
 rw [fill_len] at hx
 rw [fill_get _ _ _ _ hx]
 simp [List.getD_eq_getElem?_getD,hx]
theorem fill_set (f:Nat -> Int) (n k:Nat) (hk:k<n):(fillL f n k).set k (f k)=fillL f n (k+1):=by
 refine list_ext_gd (by simp [fillL]) fun x hx=> ?_
 rw [List.length_set,fill_len] at hx
 rw [getD_setI _ _ _ _ (by rw [fill_len];exact hk),fill_get _ _ _ _ hx,fill_get _ _ _ _ hx]
 by_cases e:x=k
 · subst e;simp
 · rw [if_neg e]
   by_cases h:x<k
   · rw [if_pos h,if_pos (by omega)]
   · rw [if_neg h,if_neg (by omega)]
theorem least_of {g:Gr} (R:Right g) {pr:Ri -> Int} {v t:Int} (h0:0 <= v) {M:Mp} (h:VisOk g pr v t M):LeastIs g pr v t (fillL (fun x=>prF M (x:Int) (lastT g x)) g.lives.length g.lives.length):=by
 refine ⟨fill_len _ _ _,fun x hx=> ?_,fun x hx t' p hp=> ?_⟩
 · rw [fill_get _ _ _ _ hx,if_pos hx]
   unfold prF
   cases hz:M (x:Int) (lastT g x) with
   | none=>exact .inl rfl
   | some z=>exact .inr ⟨_,h.snd hz⟩
 · rw [fill_get _ _ _ _ hx,if_pos hx]
   obtain ⟨k1,k2,_⟩:=last_alive R hx
   obtain ⟨z,hz,hzp⟩:=h.all (hp.waits R h0 (k2 _ (hp.place R h0).2.2.1) k1)
   unfold prF;rw [hz];exact hzp
set_option maxRecDepth 100000 in
theorem atLast_any (g:Gr) (la ea:Option Addr) (lc ec v:Nat) (w:World) (hG:GAt w la ea g) (hR:Right g) (hv:v<g.lives.length):
   Calls Seq.prog 67 #[.agg #[.int .i64 g.hor,.slice la g.lives.length lc,.slice ea g.edges.length ec],.int .i64 v] w fun r w' =>r= .returned (.agg #[.int .i64 (v:Int),.int .i64 (lastT g v)]) /\ Below w.heap.size w w':=by
 obtain ⟨_,_,h3,h4⟩:=last_alive hR hv
 rw [lastT_at hv] at h3 h4 ⊢
 obtain ⟨lb,lof,rfl,hlb,l0,l1⟩:∃b off,la=some ⟨b,off,none⟩ /\ b<w.heap.size /\ (w.cell? ⟨b,off+v*2,none⟩=some (.int .i64 g.lives[v].1) /\ w.cell? ⟨b,off+v*2+1,none⟩=some (.int .i64 g.lives[v].2)):=by
   rcases hG.lv with h0 | ⟨b,off,rfl,hbr,hc⟩
   · rw [h0] at hv;simp at hv
   exact ⟨b,off,rfl,hbr,IvAt.get hv hc⟩
 have hvi:(v:Int)<(g.lives.length:Int):=by omega
 have hww:IntKind.i64.wrap (g.lives[v].2- 1)=g.lives[v].2- 1:=wrap_nj _ (by omega) (by omega)
 have m1:=fun W (h:Below w.heap.size w W)=>(h.cell (p:=⟨lb,lof+v*2+1,none⟩) hlb).trans l1
 have m2:=m1 _ (ptg (gal w (.cells #[.int .i64 g.hor,.slice (some ⟨lb,lof,none⟩) g.lives.length lc,.slice ea g.edges.length ec] 25)) (gal _ (.cells #[.int .i64 0,.int .i64 0] 122)))
 clear hG l0 l1 hR m1
 generalize g.lives[v]=lf at*
 go_enter Seq.func67,Tryz.ntmps67
 go_wp2
 refine bodyPost_ret (v:= .agg #[.int .i64 (v:Int),.int .i64 (lf.2- 1)]) (by simp [results,Tryz.results67,go_sem]) rfl ⟨rfl,?_⟩
 exact ptg (gal w _) (gal _ _)
set_option maxRecDepth 100000 in
set_option maxHeartbeats 1000000 in
theorem visitsFrom_any (g:Gr) (la ea:Option Addr) (lc ec:Nat) (pr:Ri -> Int) (v t:Int) (fv:FuncId) (eg:∀args w,(callFunc fv args).run Seq.prog w= .ok (.enter fv args) w) (w:World) (hG:GAt w la ea g) (hpl:placeE g v t=0) (hpr:PrOk g pr)
   (hfv:∀r W,Calls Seq.prog fv #[rideV r] W fun res w' =>res= .returned (.int .i64 (pr r)) /\ Below W.heap.size W w'):
   Calls Seq.prog 66 #[.agg #[.int .i64 g.hor,.slice la g.lives.length lc,.slice ea g.edges.length ec],.int .i64 v,.int .i64 t,.func (.func fv) #[] #[]] w fun r w' =>∃b n M,r= .returned (.map (some b)) /\ MapAt w' b n M /\ VisOk g pr v t M /\ Below w.heap.size w w':=by
 obtain ⟨hg0,⟨hv0,hv1⟩,ht0,ht1⟩:=placeE_zero hpl
 have hR:=gChk_right hg0
 have hhor:=hR.hor
 have hlv:=hR.lvs
 obtain ⟨V,rfl⟩:∃V:Nat,v=(V:Int):=⟨v.toNat,by omega⟩
 have hVg:V<g.lives.length:=by omega
 obtain ⟨w1,hw1⟩:∃x,x=w.alloc (.cells #[.int .i64 g.hor,.slice la g.lives.length lc,.slice ea g.edges.length ec] 25):=⟨_,rfl⟩
 have B0:GBx w w1 w.heap.size g la ea lc ec:=by rw [hw1];exact gbx_start w g la ea lc ec 25
 obtain ⟨w2,hw2⟩:∃x,x=w1.alloc (.map #[] 0):=⟨_,rfl⟩
 have hM2:MapAt w2 w1.heap.size 0 (fun _ _=>none):=by rw [hw2];exact mapAt_made w1
 have b2:Below w1.heap.size w1 w2:=by rw [hw2];exact gal w1 _
 have B2:=B0.below b2
 have hG2:=hG.below B2.bel
 have s1:w.heap.size<w1.heap.size:=by rw [hw1];simp
 obtain ⟨lb,lof,rfl,hlb,l0,l1⟩:∃b off,la=some ⟨b,off,none⟩ /\ b<w2.heap.size /\ (w2.cell? ⟨b,off+V*2,none⟩=some (.int .i64 g.lives[V].1) /\ w2.cell? ⟨b,off+V*2+1,none⟩=some (.int .i64 g.lives[V].2)):=by
   rcases hG2.lv with h0 | ⟨b,off,rfl,hbr,hc⟩
   · rw [h0] at hVg;simp at hVg
   exact ⟨b,off,rfl,hbr,IvAt.get hVg hc⟩
 have hVi:(V:Int)<(g.lives.length:Int):=by omega
 have hal:=fun W=>jalive_any g.lives[V].1 g.lives[V].2 t W
 rw [<- aliveB_at t g.lives V hVg] at hal
 have g0:=B2.c0
 have g1:=B2.c1
 have g2:=B2.c2
 have hmm:=@run_makeMap Seq.prog
 have hw1s:=hw1.symm
 have hw2s:=hw2.symm
 have HB:=hideg (fun W (h:Below w2.heap.size w2 W)=>(B2.below h).bel)
 have HM:=hideg (fun W (h:Below w2.heap.size w2 W)=>hM2.below h)
 have HB2:=hideg B2
 have HG2:=hideg hG2
 clear hG hw1 hw2 B0 B2 hG2 hM2 hg0
 cases ha:aliveB t g.lives (V:Int) with
 | false=>
   rw [ha] at hal
   have HV:Hid (VisOk g pr (V:Int) t (fun _ _=>none)):= .inr ⟨ha,rfl⟩
   clear ha hR hpl
   generalize g.lives[V]=lf at*
   go_enter Seq.func66,Tryz.ntmps66
   go_wp2_with fail
   refine (hal _).mono ?_
   rintro r w3 ⟨rfl,hb3⟩
   have HM3:=hideg (HM.out w3 hb3)
   have HB3:=hideg (HB.out w3 hb3)
   clear hal hb3 g0 g1 g2 l0 l1
   go_wp2
   go_ret
   exact ⟨_,_,_,rfl,HM3.out,HV.out,HB3.out⟩
 | true=>
   rw [ha] at hal
   have hF:=F1_ok (g:=g) (v0:=(V:Int)) (t0:=t) hv0 ha
   have hPb:∀x y p,Pd g (F1 (V:Int) t) pr x y p -> -1000000 <= p /\ p <= 1000000:=fun x y p h=>by
     have h1:=h.range hR hpr hv0 ha
     have h2:=h.place hR hF
     omega
   have HS:=hideg (fun b n M0 W (hGW:GAt W (some ⟨lb,lof,none⟩) ea g) (hMW:MapAt W b n M0) (hn:n <= 200) (hM0:∀x y,(M0 x y).map (·.1)=F1 (V:Int) t x y)=>spreadC_any g (some ⟨lb,lof,none⟩) ea lc ec (F1 (V:Int) t) pr t fv eg b n M0 W hGW hR hF hMW hn ⟨ht0,ht1⟩ hM0 hpr hPb hfv)
   have HV:Hid (∀M,SpE g (F1 (V:Int) t) pr M -> VisOk g pr (V:Int) t M):=fun M h=> .inl ⟨ha,h⟩
   clear ha hR hpl hF hPb hpr hfv eg
   generalize g.lives[V]=lf at*
   go_enter Seq.func66,Tryz.ntmps66
   go_wp2_with fail
   refine (hal _).mono ?_
   rintro r w3 ⟨rfl,hb3⟩
   have M3:=HM.out w3 hb3
   have G3:=HG2.out.below hb3
   have B3:=HB2.out.below hb3
   obtain ⟨w4,hup,hM4,hg4⟩:=M3.store (by unfold maxLen;omega) (v:=(V:Int)) (t:=t) (wi_small (by omega) (by omega)) (wi_small (by omega) (by omega)) (0,0,0,0,0,0,0)
   simp only [keyV,encV_mk] at hup
   have G4:=M3.gat hg4 G3
   obtain ⟨k0,k1,k2⟩:=GBx.gby M3 hg4 B3
   have hSp:=HS.out w1.heap.size (0+1) _ w4 G4 hM4 (by omega) (fun x y=>by
     unfold mset F1
     split<;>rfl)
   have HB4:Hid (∀W,w4.grownBy W (some w1.heap.size) -> Below w.heap.size w W):=fun W h=>(B3.bel.grown hg4 B3.bel.size (fun k hk=>by cases hk;omega)).grown h (Nat.le_trans B3.bel.size hg4.size) (fun k hk=>by cases hk;omega)
   clear hal hb3 g0 g1 g2 l0 l1 M3 G3 B3 hM4 hg4 G4 HS
   go_wp2_with fail
   refine hSp.mono ?_
   rintro r w5 ⟨⟨vv,rfl⟩,⟨n5,M5,hM5,hE5⟩,hg5⟩
   have HM5:=hideg hM5
   have HE5:=hideg (HV.out _ hE5)
   have HB5:=hideg (HB4.out w5 hg5)
   clear hSp hM5 hE5 hg5 k0 k1 k2 hup HB4
   go_wp2
   go_ret
   exact ⟨_,_,_,rfl,HM5.out,HE5.out,HB5.out⟩
def LeastE (g:Gr) (pr:Ri -> Int) (v t:Int) (L:List Int):Prop:=(placeE g v t≠0 /\ L=[]) \/ (placeE g v t=0 /\ LeastIs g pr v t L)
def prCost:Ri -> Int:=fun r=>r.2.2.2.2.2
theorem prCost_ok {g:Gr} (R:Right g):PrOk g prCost:=fun _ hr=>(mem_rides R hr).c0
set_option maxRecDepth 100000 in
set_option maxHeartbeats 1000000 in
theorem leastPrices_any (g:Gr) (la ea:Option Addr) (lc ec:Nat) (pr:Ri -> Int) (v t:Int) (fv:FuncId) (eg:∀args w,(callFunc fv args).run Seq.prog w= .ok (.enter fv args) w) (w:World) (hG:GAt w la ea g) (hpr:Right g -> PrOk g pr)
   (hfv:∀r W,Calls Seq.prog fv #[rideV r] W fun res w' =>res= .returned (.int .i64 (pr r)) /\ Below W.heap.size W w'):
   Calls Seq.prog 38 #[.agg #[.int .i64 g.hor,.slice la g.lives.length lc,.slice ea g.edges.length ec],.int .i64 v,.int .i64 t,.func (.func fv) #[] #[]] w fun r w' =>∃u L,r= .returned (.tuple #[u,.int .i64 (placeE g v t)]) /\ LeastE g pr v t L /\ w'.ownsRow w.heap.size 3 1 u L.length (L.map (Value.int .i64)) /\ Below w.heap.size w w':=by
 obtain ⟨i0,hi,hz0,hz1,hz2⟩:=info_parts Tryz.infoInt
 have B0:=gbx_start w g la ea lc ec 25
 have h1:=jcheck_any g la ea lc ec v t _ (hG.below B0.bel)
 by_cases e1:placeE g v t=0
 case neg=>
   have HP:Hid (LeastE g pr v t []):= .inl ⟨e1,rfl⟩
   have d1:(placeE g v t !=0)=true:=by simpa using e1
   generalize placeE g v t=n at*
   clear e1 hG hpr hfv eg
   go_enter Seq.func38,Tryz.ntmps38
   go_wp2_with fail
   refine h1.mono ?_
   rintro r w1 ⟨rfl,hb1⟩
   have hbF:=(B0.below hb1).bel
   clear h1 hb1 B0
   go_wp2
   (try simp only [Exit.inBlock,Exit.then]);refine bodyPost_ret (results_two_e rfl _ _ _) rfl ?_
   exact ⟨_,_,rfl,HP.out,World.ownsRow_nil _ _ _ _,hbF⟩
 obtain ⟨hg0,⟨hv0,hv1⟩,ht0,ht1⟩:=placeE_zero e1
 have hR:=gChk_right hg0
 have hlv:=hR.lvs
 have HV:=hideg (fun W (hW:Below w.heap.size w W)=>visitsFrom_any g la ea lc ec pr v t fv eg W (hG.below hW) e1 (hpr hR) hfv)
 have HL:=hideg (fun W (hW:Below w.heap.size w W) (x:Nat) (hx:x<g.lives.length)=>atLast_any g la ea lc ec x W (hG.below hW) hR hx)
 have HE:Hid (∀M,VisOk g pr v t M -> LeastE g pr v t (fillL (fun x=>prF M (x:Int) (lastT g x)) g.lives.length g.lives.length)):=fun M h=> .inr ⟨e1,least_of hR hv0 h⟩
 have HLt:Hid (∀x,x<g.lives.length -> 0 <= lastT g x /\ lastT g x<100):=fun x hx=>(last_alive hR hx).2.2
 rw [e1] at h1 ⊢
 clear hG e1 hg0 hR hpr hfv eg hv0 hv1 ht0 ht1
 go_enter Seq.func38,Tryz.ntmps38
 go_wp2_with fail
 refine h1.mono ?_
 rintro r w1 ⟨rfl,hb1⟩
 have B1:=B0.below hb1
 have h2:=HV.out w1 B1.bel
 have g0:=B1.c0
 have g1:=B1.c1
 have g2:=B1.c2
 clear h1 hb1 B0 HV
 go_wp2_with fail
 refine h2.mono ?_
 rintro r w2 ⟨b,n,M,rfl,hM2,hV2,hb2⟩
 have B2:=B1.below hb2
 have HE2:=hideg (HE.out M hV2)
 clear h2 hb2 B1 g0 g1 g2 HE hV2
 have g1:=B2.c1
 go_wp2_with (at_make;refine wpList_make_full _ rfl _ _ 37 rfl w.heap.size 3 i0 (.int .i64 0) 1 ((Seq.pu 37).trans Tryz.underlying37) hi hz0 hz1 .i64 .i64 _ _ g.lives.length rfl rfl rfl rfl (by rw [hz2];omega) (by unfold maxLen;omega) B2.bel.size ?_;intro w3 hown3 hgrow3)
 have e3:(madeCells (Value.int .i64 0).cells (g.lives.length*1)).toList=(fillL (fun x=>prF M (x:Int) (lastT g x)) g.lives.length 0).map (Value.int .i64):=by
   rw [Nat.mul_one,fill_zero]
   show (madeCells #[Value.int .i64 0] g.lives.length).toList=_
   rw [toList_madeCells_one,List.map_replicate]
 rw [e3] at hown3
 have hb3:Below w2.heap.size w2 w3:=(Below.refl _ _).grown hgrow3 (Nat.le_refl _) (fun k hk=>by cases hk)
 have B3:=B2.below hb3
 have M3:=hM2.below hb3
 have hs3:=(World.ownsRow.lt hown3 _ rfl).2
 have hlt2:=B2.lt
 have hMl:=hM2.lt
 have HB3:=hideg B3
 have HM3:=hideg M3
 have HbR:Hid (w.heap.size <= w2.heap.size):=B2.bel.size
 have hbne:b≠w2.heap.size:=by omega
 have hwne:w.heap.size≠w2.heap.size:=by omega
 obtain ⟨m,hm⟩:∃m,m=w2.heap.size:=⟨_,rfl⟩
 rw [<- hm] at hown3 hs3 hbne hwne ⊢
 clear hgrow3 e3 hb3 B2 hM2 g1 hm hlt2 hMl B3 M3
 generalize hf:(fun x:Nat=>prF M (x:Int) (lastT g x))=f at hown3 HE2
 have HF:Hid (∀x:Nat,f x=prF M (x:Int) (lastT g x)):=fun x=>by rw [<- hf]
 clear hf
 go_wp2_with fail
 go_loopw [34] (fun i wr=>∃k:Nat,k <= g.lives.length /\ i= .int .i64 k /\ Zo wr w.heap.size m g.lives.length g.lives.length (fillL f g.lives.length k) /\ w3.grownBy wr (some m)) (fun i _=>g.lives.length-(intOf i).toNat)
 case atStart=>exact ⟨0,Nat.zero_le _,rfl,hown3,gby_refl _ _⟩
 case round=>
   clear hown3
   obtain ⟨k,hk,rfl,hZ,hg⟩:=hrel
   by_cases hkl:k<g.lives.length
   · have hki:(k:Int)<(g.lives.length:Int):=by omega
     have hkw:IntKind.i64.wrap ((k:Int)+1)=(k:Int)+1:=wrap_nj _ (by omega) (by omega)
     have fz:=World.ownsRow.frozenAt hZ k
     have cv:=Zo.cell hZ hkl
     obtain ⟨w4,hw4⟩:∃x,x=wr.setCell ⟨m,k,none⟩ (.int .i64 1099511627776):=⟨_,rfl⟩
     have hZ4:Zo w4 w.heap.size m g.lives.length g.lives.length ((fillL f g.lives.length k).set k 1099511627776):=by rw [hw4];exact Zo.set hZ k _
     have hg4:w3.grownBy w4 (some m):=by rw [hw4];exact gby_trans hg (gby_setOne _ _ _ _)
     have k0:w4.cell? ⟨w.heap.size,0,none⟩=some (.int .i64 g.hor):=hg4.cell HB3.out.c0 (by simp only;intro h;cases h;exact hwne rfl)
     have k1:w4.cell? ⟨w.heap.size,1,none⟩=some (.slice la g.lives.length lc):=hg4.cell HB3.out.c1 (by simp only;intro h;cases h;exact hwne rfl)
     have k2:w4.cell? ⟨w.heap.size,2,none⟩=some (.slice ea g.edges.length ec):=hg4.cell HB3.out.c2 (by simp only;intro h;cases h;exact hwne rfl)
     have hb4:Below w.heap.size w w4:=HB3.out.bel.grown hg4 HB3.out.bel.size (fun j hj=>by cases hj;have:=(World.ownsRow.lt hZ _ rfl).1;omega)
     have hL4:=HL.out w4 hb4 k hkl
     have M4:MapAt w4 b n M:=HM3.out.kept hg4 (fun h=>hbne (by cases h;rfl))
     have hlt:=HLt.out k hkl
     have HFk:=hideg (HF.out k)
     have HSt:=hideg (fill_set f g.lives.length k hkl)
     have hw4s:=hw4.symm
     clear hw4 hZ hg hb4
     generalize lastT g k=T at*
     go_wp2_with fail
     refine hL4.mono ?_
     rintro r w5 ⟨rfl,hb5⟩
     have M5:=M4.below hb5
     have hZ5:=ownsRow_below hZ4 hb5
     have hg5:=gby_trans hg4 (gby_of_below hb5 (some m))
     have q1:=M5.look (v:=(k:Int)) (t:=T) (wi_small (by omega) (by omega)) (wi_small (by omega) (by omega))
     clear hL4 hb5 M4 M5 hZ4 hg4 k0 k1 k2 hw4s fz cv
     unfold prF at HFk
     cases hz:M (k:Int) T with
     | none=>
       rw [hz] at q1 HFk
       simp only [keyV,Option.getD_none,encV_mk,Option.isSome_none] at q1
       simp only at HFk
       have HZ6:Hid (∀o,Zo (w5.alloc o) w.heap.size m g.lives.length g.lives.length (fillL f g.lives.length (k+1)) /\ w3.grownBy (w5.alloc o) (some m)):=fun o=>by
         rw [<- HSt.out,HFk.out];exact ⟨ownsRow_below hZ5 (gal w5 o),gby_trans hg5 (gby_of_below (gal w5 o) _)⟩
       clear hZ5 hg5 hz HFk HSt
       go_wp2
       go_roundw
       case rel=>exact ⟨k+1,by omega,by go_num,(HZ6.out _).1,(HZ6.out _).2⟩
       case measure=>simp [intOf];omega
     | some z=>
       obtain ⟨q,E2,d2,a2,e2,ar2,c2⟩:=z
       rw [hz] at q1 HFk
       simp only [keyV,Option.getD_some,encV_mk,Option.isSome_some] at q1
       simp only at HFk
       obtain ⟨w6,hw6⟩:∃x,x=w5.alloc (.cells #[.int .i64 q,.int .i64 E2,.int .i64 d2,.int .i64 a2,.int .i64 e2,.int .i64 ar2,.int .i64 c2] 119):=⟨_,rfl⟩
       have b6:Below w5.heap.size w5 w6:=by rw [hw6];exact gal w5 _
       have v0:w6.cell? ⟨w5.heap.size,0,none⟩=some (.int .i64 q):=by rw [hw6];exact new_cell rfl rfl
       have hZ6:=ownsRow_below hZ5 b6
       have fz:=World.ownsRow.frozenAt hZ6 k
       have cv:=Zo.cell hZ6 hkl
       have HZ7:Hid (Zo (w6.setCell ⟨m,k,none⟩ (.int .i64 q)) w.heap.size m g.lives.length g.lives.length (fillL f g.lives.length (k+1)) /\ w3.grownBy (w6.setCell ⟨m,k,none⟩ (.int .i64 q)) (some m)):=by
         refine ⟨?_,gby_trans (gby_trans hg5 (gby_of_below b6 _)) (gby_setOne _ _ _ _)⟩
         have h7:=Zo.set hZ6 k q
         have e7:=HSt.out
         rw [HFk.out] at e7
         rw [List.set_set,e7] at h7
         exact h7
       have hw6s:=hw6.symm
       clear hZ5 hg5 hz HFk HSt hw6 hZ6 b6
       go_wp2
       go_roundw
       case rel=>exact ⟨k+1,by omega,by go_num,HZ7.out.1,HZ7.out.2⟩
       case measure=>simp [intOf];omega
   · have hke:k=g.lives.length:=by omega
     subst hke
     have HZ:=hideg hZ
     have hm0:=(World.ownsRow.lt hZ _ rfl).1
     have HbF:Hid (Below w.heap.size w wr):=HB3.out.bel.grown hg HB3.out.bel.size (fun j hj=>by cases hj;omega)
     have HLn:=hideg (fill_len f g.lives.length g.lives.length)
     clear hZ hg
     go_wp2
     (try simp only [Exit.inBlock,Exit.then]);refine bodyPost_ret (results_two_e rfl _ _ _) rfl ?_
     refine ⟨_,rfl,fillL f g.lives.length g.lives.length,HE2.out,?_,HbF.out⟩
     rw [HLn.out];exact HZ.out
set_option maxRecDepth 100000 in
theorem cCosts_any (g:Gr) (la ea:Option Addr) (lc ec:Nat) (v t:Int) (w:World) (hG:GAt w la ea g):
   Calls Seq.prog 14 #[.agg #[.int .i64 g.hor,.slice la g.lives.length lc,.slice ea g.edges.length ec],.int .i64 v,.int .i64 t] w fun r w' =>∃u L,r= .returned (.tuple #[u,.int .i64 (placeE g v t)]) /\ LeastE g prCost v t L /\ w'.ownsRow w.heap.size 3 1 u L.length (L.map (Value.int .i64)) /\ Below w.heap.size w w':=by
 have B0:=gbx_start w g la ea lc ec 25
 have h1:=leastPrices_any g la ea lc ec prCost v t 39 (fun args w=>Tryz.call39 args w) _ (hG.below B0.bel) (fun R=>prCost_ok R) costOf_any
 have HB:=hideg B0
 clear hG B0
 go_enter Seq.func14,Tryz.ntmps14
 go_wp2_with fail
 refine h1.mono ?_
 rintro r w1 ⟨u,L,rfl,hL,ho,hb⟩
 have HL:=hideg hL
 have HO:=hideg (owns_base2 ho HB.out.bel.size)
 have HB1:=hideg (HB.out.below hb).bel
 clear h1 hL ho hb
 go_wp2
 (try simp only [Exit.inBlock,Exit.then]);refine bodyPost_ret (results_two_e rfl _ _ _) rfl ?_
 exact ⟨_,_,rfl,HL.out,HO.out,HB1.out⟩
theorem pay_bound {g:Gr} {pr:Ri -> Int} {v t:Int} {b:Int -> Int} (hb:b v <= 0) (hr:∀r∈ridesF g,b r.2.2.2.1 <= b r.2.2.1+pr r) {x y p:Int} (h:Pay g pr v t x y p):b x <= p:=by
 obtain ⟨_,h⟩:=h
 induction h with
 | @base x y p h=>
   unfold F1 at h
   split at h
   · rename_i e;obtain ⟨rfl,_⟩:=e;cases h;exact hb
   · cases h
 | wait _ _ ih=>exact ih
 | ride hm _ ih=>have:=hr _ hm;omega
def arrA (g:Gr) (v t:Int):List Int:=if placeE g v t=0 then (erF g v t).1 else []
set_option maxRecDepth 100000 in
set_option maxHeartbeats 1000000 in
theorem eArr_any (g:Gr) (la ea:Option Addr) (lc ec:Nat) (v t:Int) (w:World) (hG:GAt w la ea g):
   Calls Seq.prog 13 #[.agg #[.int .i64 g.hor,.slice la g.lives.length lc,.slice ea g.edges.length ec],.int .i64 v,.int .i64 t] w fun r w' =>∃u,r= .returned (.tuple #[u,.int .i64 (placeE g v t)]) /\ w'.ownsRow w.heap.size 3 1 u (arrA g v t).length ((arrA g v t).map (Value.int .i64)) /\ Below w.heap.size w w':=by
 have B0:=gbx_start w g la ea lc ec 25
 have h1:=jcheck_any g la ea lc ec v t _ (hG.below B0.bel)
 by_cases e1:placeE g v t=0
 case neg=>
   have HP:Hid (arrA g v t=[]):=by show _=_;unfold arrA;rw [if_neg e1]
   have d1:(placeE g v t !=0)=true:=by simpa using e1
   generalize placeE g v t=n at*
   clear e1 hG
   go_enter Seq.func13,Tryz.ntmps13
   go_wp2_with fail
   refine h1.mono ?_
   rintro r w1 ⟨rfl,hb1⟩
   have hbF:=(B0.below hb1).bel
   clear h1 hb1 B0
   go_wp2
   (try simp only [Exit.inBlock,Exit.then]);refine bodyPost_ret (results_two_e rfl _ _ _) rfl ?_
   exact ⟨_,rfl,by rw [HP.out];exact World.ownsRow_nil _ _ _ _,hbF⟩
 have HP:Hid (arrA g v t=(erF g v t).1):=by show _=_;unfold arrA;rw [if_pos e1]
 have HL:=hideg (erF_len g v t).1
 have h2:=fun W (hb:Below w.heap.size w W)=>earliest_any g la ea lc ec v t W (hG.below hb) e1
 rw [e1] at h1 ⊢
 generalize (erF g v t).1=T at*
 generalize (erF g v t).2=L at*
 have HP2:=HP.out
 have HQ:=hideg HP2
 clear hG e1 HP HP2
 go_enter Seq.func13,Tryz.ntmps13
 go_wp2_with fail
 refine h1.mono ?_
 rintro r w1 ⟨rfl,hb1⟩
 have B1:=B0.below hb1
 have g0:=B1.c0
 have g1:=B1.c1
 have g2:=B1.c2
 have hbx:=B1.bel
 clear h1 hb1 B0
 go_wp2_with fail
 refine (h2 _ hbx).mono ?_
 rintro r w2 ⟨m1,m2,rfl,hZ,_,hb2⟩
 have HZ:=hideg (owns_base2 hZ hbx.size)
 have hbF:=ptg hbx hb2
 clear h2 hZ hb2 g0 g1 g2 hbx B1
 go_wp2
 (try simp only [Exit.inBlock,Exit.then]);refine bodyPost_ret (results_two_e rfl _ _ _) rfl ?_
 exact ⟨_,rfl,by rw [HQ.out,HL.out];exact HZ.out,hbF⟩
def RevTo (l m:List Hp) (k:Nat):Prop:=m.length=l.length /\ ∀x,x<l.length -> m.getD x (0,0)=if x<k \/ l.length <= x+k then l.getD (l.length- 1-x) (0,0) else l.getD x (0,0)
theorem revTo_zero (l:List Hp):RevTo l l 0:=⟨rfl,fun x hx=>by rw [if_neg (by omega)]⟩
theorem getD_setH (T:List Hp) (i j:Nat) (x d:Hp) (h:i<T.length):(T.set i x).getD j d=if j=i then x else T.getD j d:=by
 simp only [List.getD_eq_getElem?_getD,List.getElem?_set]
 by_cases e:i=j
 · subst e;simp [h]
 · have:¬j=i:=fun h=>e h.symm
   simp [e,this]
theorem revTo_step {l m:List Hp} {k J:Nat} (h:RevTo l m k) (hJ:J=l.length- 1-k) (hk:k<J):RevTo l ((m.set k (m.getD J (0,0))).set J (m.getD k (0,0))) (k+1):=by
 have hl:=h.1
 refine ⟨by simp [hl],fun x hx=> ?_⟩
 rw [getD_setH _ _ _ _ _ (by simp [hl];omega),getD_setH _ _ _ _ _ (by omega)]
 by_cases e1:x=J
 · rw [if_pos e1,h.2 k (by omega),if_neg (by omega),if_pos (by omega)]
   congr 1;omega
 · rw [if_neg e1]
   by_cases e2:x=k
   · rw [if_pos e2,h.2 J (by omega),if_neg (by omega),if_pos (by omega)]
     congr 1;omega
   · rw [if_neg e2,h.2 x hx]
     by_cases e3:x<k \/ l.length <= x+k
     · rw [if_pos e3,if_pos (by omega)]
     · rw [if_neg e3,if_neg (by omega)]
theorem revTo_end {l m:List Hp} {k:Nat} (h:RevTo l m k) (hk:l.length <= k+k+1):m=l.reverse:=by
 apply List.ext_getElem (by simp [h.1])
 intro x h1 h2
 have hx:x<l.length:=by rw [<- h.1];exact h1
 have:=h.2 x hx
 rw [List.getD_eq_getElem?_getD,List.getElem?_eq_getElem h1,Option.getD_some] at this
 rw [this,List.getElem_reverse]
 have e:∀y (hy:y<l.length),l.getD y (0,0)=l[y]:=fun y hy=>by rw [List.getD_eq_getElem?_getD,List.getElem?_eq_getElem hy];rfl
 split
 · exact e _ (by omega)
 · rw [e x hx]
   congr 1
   omega
theorem encs_cons (x:Hp) (l:List Hp):encs (x::l)= .int .i64 x.1:: .int .i64 x.2::encs l:=by simp [encs,flat]
theorem encs_set:∀(m:List Hp) (k:Nat) (q:Hp),k<m.length -> ((encs m).set (k*2) (.int .i64 q.1)).set (k*2+1) (.int .i64 q.2)=encs (m.set k q)
 | [],k,q,h=>by simp at h
 | x::m,0,q,_=>by
   have e:(x::m).set 0 q=q::m:=rfl
   rw [e,encs_cons,encs_cons];rfl
 | x::m,k+1,q,h=>by
   have ih:=encs_set m k q (by simpa using h)
   have e:(x::m).set (k+1) q=x::m.set k q:=rfl
   rw [e,encs_cons,encs_cons,<- ih,show (k+1)*2=k*2+1+1 from by omega]
   rfl
abbrev Ho (w:World) (base gb n cap:Nat) (x:List Hp):Prop:=w.ownsRow base 63 2 (.slice (some ⟨gb,0,none⟩) n cap) n (encs x)
theorem encs_len (l:List Hp):(encs l).length=l.length*2:=by
 induction l with
 | nil=>rfl
 | cons x l ih=>rw [encs_cons];simp only [List.length_cons,ih];omega
theorem Ho.len {w:World} {base gb n cap:Nat} {x:List Hp} (h:Ho w base gb n cap x):x.length=n:=by have:=h.1;rw [encs_len] at this;omega
theorem encs_get (l:List Hp) (j:Nat) (h:j<l.length):(encs l)[j*2]? =some (.int .i64 (l.getD j (0,0)).1) /\ (encs l)[j*2+1]? =some (.int .i64 (l.getD j (0,0)).2):=by
 induction l generalizing j with
 | nil=>simp at h
 | cons c l ih=>
   rw [encs_cons]
   cases j with
   | zero=>exact ⟨rfl,rfl⟩
   | succ j=>
     have:=ih j (by simpa using h)
     rw [show (j+1)*2=j*2+1+1 by omega]
     simpa using this
theorem Ho.one {w:World} {base gb n cap:Nat} {x:List Hp} (h:Ho w base gb n cap x) {k:Nat} (hk:k<n):w.cell? ⟨gb,k*2,none⟩=some (.int .i64 (x.getD k (0,0)).1) /\ w.cell? ⟨gb,k*2+1,none⟩=some (.int .i64 (x.getD k (0,0)).2):=by
 have hl:=h.len
 obtain ⟨f0,f1⟩:=encs_get x k (by omega)
 exact ⟨by rw [World.ownsRow.cellAt h (k*2) (by omega)];exact f0,by rw [World.ownsRow.cellAt h (k*2+1) (by omega)];exact f1⟩
theorem Ho.set {w:World} {base gb n cap:Nat} {x:List Hp} (h:Ho w base gb n cap x) {k:Nat} (hk:k<n) (q:Hp):Ho ((w.setCell ⟨gb,k*2,none⟩ (.int .i64 q.1)).setCell ⟨gb,k*2+1,none⟩ (.int .i64 q.2)) base gb n cap (x.set k q):=by
 have hl:=h.len
 have h5:=(World.ownsRow.stored ((World.ownsRow.stored h (k*2) (.int .i64 q.1)).1) (k*2+1) (.int .i64 q.2)).1
 rw [encs_set x k q (by omega)] at h5
 exact h5
set_option maxRecDepth 100000 in
set_option maxHeartbeats 1000000 in
theorem Reverse_any (base gb cap:Nat) (l:List Hp) (w:World) (h:Ho w base gb l.length cap l) (hl:l.length <= 4000):
   Calls Seq.prog 47 #[.slice (some ⟨gb,0,none⟩) l.length cap] w fun r w' =>(∃v,r= .returned v) /\ Ho w' base gb l.length cap l.reverse /\ Below base w w':=by
 have hbg:base <= gb:=(World.ownsRow.lt h _ rfl).1
 have hwl:IntKind.i64.wrap ((l.length:Int)- 1)=(l.length:Int)- 1:=wrap_nj _ (by omega) (by omega)
 have HH:=hideg h
 clear h
 go_enter Seq.func47,Tryz.ntmps47
 go_wp2_with fail
 go_loopw [2,3] (fun i j wr=>∃(k:Nat) (m:List Hp),k <= l.length /\ i= .int .i64 k /\ j= .int .i64 ((l.length:Int)- 1-(k:Int)) /\ RevTo l m k /\ Ho wr base gb l.length cap m /\ Below base w wr) (fun i j _=>(intOf j+1-intOf i).toNat)
 case atStart=>exact ⟨0,l,Nat.zero_le _,rfl,by simp,revTo_zero l,HH.out,Below.refl _ _⟩
 case round=>
   clear HH hwl
   obtain ⟨k,m,hk,rfl,rfl,hR,hO,hb⟩:=hrel
   have hml:=hO.len
   by_cases hkJ:(k:Int)<(l.length:Int)- 1-(k:Int)
   · obtain ⟨J,hJ⟩:∃J:Nat,J=l.length- 1-k:=⟨_,rfl⟩
     have hJi:(l.length:Int)- 1-(k:Int)=(J:Int):=by omega
     have HJn:Hid ((J:Int)- 1=(l.length:Int)- 1-((k+1:Nat):Int)):=by show _=_;omega
     have hkJn:k<J:=by omega
     have hkl:k<l.length:=by omega
     have hJl:J<l.length:=by omega
     rw [hJi] at hkJ ⊢
     have HR2:=hideg (revTo_step hR hJ hkJn)
     have hO1:=hideg (fun (p q:Hp)=>(hO.set hkl p).set hJl q)
     obtain ⟨ck0,ck1⟩:=hO.one hkl
     obtain ⟨cj0,cj1⟩:=hO.one hJl
     have fz:=fun j=>World.ownsRow.frozenAt hO j
     have hkli:(k:Int)<(l.length:Int):=by omega
     have hJli:(J:Int)<(l.length:Int):=by omega
     have hw1:IntKind.i64.wrap ((k:Int)+1)=(k:Int)+1:=wrap_nj _ (by omega) (by omega)
     have hw2:IntKind.i64.wrap ((J:Int)- 1)=(J:Int)- 1:=wrap_nj _ (by omega) (by omega)
     generalize m.getD k (0,0)=P at*
     generalize m.getD J (0,0)=Q at*
     clear hJ hJi hR
     have hBel:Hid (∀x y z v,Below base w ((((wr.setCell ⟨gb,k*2,none⟩ x).setCell ⟨gb,k*2+1,none⟩ y).setCell ⟨gb,J*2,none⟩ z).setCell ⟨gb,J*2+1,none⟩ v).drew):=fun x y z v=>((((hb.setCell (p:=⟨gb,k*2,none⟩) hbg x).setCell (p:=⟨gb,k*2+1,none⟩) hbg y).setCell (p:=⟨gb,J*2,none⟩) hbg z).setCell (p:=⟨gb,J*2+1,none⟩) hbg v).drew
     obtain ⟨p1,p2⟩:=P
     obtain ⟨q1,q2⟩:=Q
     simp only at ck0 ck1 cj0 cj1 HR2
     go_wp2_with fail
     go_region
     have HF:Hid (Ho ((((wr.setCell ⟨gb,k*2,none⟩ (.int .i64 q1)).setCell ⟨gb,k*2+1,none⟩ (.int .i64 q2)).setCell ⟨gb,J*2,none⟩ (.int .i64 p1)).setCell ⟨gb,J*2+1,none⟩ (.int .i64 p2)).drew base gb l.length cap ((m.set k (q1,q2)).set J (p1,p2)) /\ Below base w ((((wr.setCell ⟨gb,k*2,none⟩ (.int .i64 q1)).setCell ⟨gb,k*2+1,none⟩ (.int .i64 q2)).setCell ⟨gb,J*2,none⟩ (.int .i64 p1)).setCell ⟨gb,J*2+1,none⟩ (.int .i64 p2)).drew):=⟨(hO1.out (q1,q2) (p1,p2)).drew,hBel.out _ _ _ _⟩
     clear hO1 hBel hO fz ck0 ck1 cj0 cj1
     generalize ((((wr.setCell ⟨gb,k*2,none⟩ (.int .i64 q1)).setCell ⟨gb,k*2+1,none⟩ (.int .i64 q2)).setCell ⟨gb,J*2,none⟩ (.int .i64 p1)).setCell ⟨gb,J*2+1,none⟩ (.int .i64 p2)).drew=w9 at*
     go_wp2
     go_roundw
     case rel=>exact ⟨k+1,_,by omega,by go_num,by rw [<- HJn.out],HR2.out,HF.out.1,HF.out.2⟩
     case measure=>simp [intOf]<;>omega
   · have hend:l.length <= k+k+1:=by omega
     have HE:Hid (Ho wr base gb l.length cap l.reverse):=by rw [<- revTo_end hR hend];exact hO
     have hnk:¬(k:Int)<(l.length:Int)- 1-(k:Int):=hkJ
     clear hR hO hend
     go_wp2_with fail
     refine bodyPost_end (results_none rfl _ _ _) rfl ⟨⟨_,rfl⟩,HE.out,hb⟩
set_option maxRecDepth 100000 in
theorem Reverse_nil (w:World):Calls Seq.prog 47 #[.slice none 0 0] w fun r w' =>(∃v,r= .returned v) /\ w' =w:=by
 go_enter Seq.func47,Tryz.ntmps47
 go_wp2_with fail
 go_loopw [2,3] (fun i j wr=>i= .int .i64 0 /\ j= .int .i64 (-1) /\ wr=w) (fun i j _=>(intOf j+1-intOf i).toNat)
 case atStart=>exact ⟨rfl,by simp,rfl⟩
 case round=>
   obtain ⟨rfl,rfl,rfl⟩:=hrel
   go_wp2_with fail
   refine bodyPost_end (results_none rfl _ _ _) rfl ⟨⟨_,rfl⟩,rfl⟩
theorem Tryz.infoHopE:(Seq.prog.info? 63).map (fun i=>(i.zero,i.size,i.bytes))=some (some (.agg #[.int .i64 0,.int .i64 0]),2,16):=by kernel_rfl
def trF (L:List Ri) (v:Int):Nat -> Int -> List Hp
 | 0,_=>[]
 | f+1,x=>if x=v then [] else ((L.getD x.toNat (0,0,0,0,0,0)).1,(L.getD x.toNat (0,0,0,0,0,0)).2.1)::trF L v f (L.getD x.toNat (0,0,0,0,0,0)).2.2.1
theorem trF_at (L:List Ri) (v:Int) (f:Nat):trF L v f v=[]:=by cases f<;>simp [trF]
theorem trF_step (L:List Ri) {v x:Int} (f:Nat) (h:x≠v):trF L v (f+1) x=((L.getD x.toNat (0,0,0,0,0,0)).1,(L.getD x.toNat (0,0,0,0,0,0)).2.1)::trF L v f (L.getD x.toNat (0,0,0,0,0,0)).2.2.1:=by rw [trF,if_neg h]
def WayIs (g:Gr) (v t q e:Int) (l:List Hp):Prop:=
 (placeE g v t≠0 /\ e=placeE g v t /\ l=[]) \/
 (placeE g v t=0 /\ (¬(0 <= q /\ q<g.lives.length) \/ (erF g v t).1.getD q.toNat 0=1099511627776) /\ e=4 /\ l=[]) \/
 (placeE g v t=0 /\ (0 <= q /\ q<g.lives.length) /\ (erF g v t).1.getD q.toNat 0≠1099511627776 /\ e=0 /\ WayTo g (erF g v t).1 v q l /\ l=(trF (erF g v t).2 v 300 q).reverse)
set_option maxRecDepth 100000 in
set_option maxHeartbeats 400000 in
theorem eWay_any (g:Gr) (la ea:Option Addr) (lc ec:Nat) (v t q:Int) (w:World) (hG:GAt w la ea g):
   Calls Seq.prog 18 #[.agg #[.int .i64 g.hor,.slice la g.lives.length lc,.slice ea g.edges.length ec],.int .i64 v,.int .i64 t,.int .i64 q] w fun r w' =>∃u e l,r= .returned (.tuple #[u,.int .i64 e]) /\ WayIs g v t q e l /\ w'.ownsRow w.heap.size 63 2 u l.length (encs l) /\ Below w.heap.size w w':=by
 obtain ⟨i0,hi,hz0,hz1,hz2⟩:=info_parts Tryz.infoHopE
 have B0:=gbx_start w g la ea lc ec 25
 have h1:=jcheck_any g la ea lc ec v t _ (hG.below B0.bel)
 by_cases e1:placeE g v t=0
 case neg=>
   have HP:Hid (WayIs g v t q (placeE g v t) []):= .inl ⟨e1,rfl,rfl⟩
   have d1:(placeE g v t !=0)=true:=by simpa using e1
   generalize placeE g v t=n at*
   clear e1 hG
   go_enter Seq.func18,Tryz.ntmps18
   go_wp2_with fail
   refine h1.mono ?_
   rintro r w1 ⟨rfl,hb1⟩
   have hbF:=(B0.below hb1).bel
   clear h1 hb1 B0
   go_wp2
   (try simp only [Exit.inBlock,Exit.then]);refine bodyPost_ret (results_two_e rfl _ _ _) rfl ?_
   exact ⟨_,_,_,rfl,HP.out,World.ownsRow_nil _ _ _ _,hbF⟩
 have HP2:Hid ((¬(0 <= q /\ q<g.lives.length) \/ (erF g v t).1.getD q.toNat 0=1099511627776) -> WayIs g v t q 4 []):=fun h=> .inr (.inl ⟨e1,h,rfl,rfl⟩)
 have HP3:Hid ((0 <= q /\ q<g.lives.length) -> (erF g v t).1.getD q.toNat 0≠1099511627776 -> ∀l,WayTo g (erF g v t).1 v q l -> l=(trF (erF g v t).2 v 300 q).reverse -> WayIs g v t q 0 l):=fun h1 h2 l h h' => .inr (.inr ⟨e1,h1,h2,rfl,h,h'⟩)
 have h2:=fun W (hb:Below w.heap.size w W)=>earliest_any g la ea lc ec v t W (hG.below hb) e1
 obtain ⟨hg0,⟨hv0,hv1⟩,ht0,ht1⟩:=placeE_zero e1
 have hR:=gChk_right hg0
 have hn12:=hR.lvs
 have hhor:=hR.hor
 have HEr:Hid (aliveB t g.lives v=true -> ErOk g v t (erF g v t)):=fun ha=>(erF_ok hR hv0 ha).1
 have HAw:Hid (¬aliveB t g.lives v=true -> (erF g v t).1=List.replicate g.lives.length 1099511627776):=fun ha=>erF_away ha
 rw [e1] at h1
 have HRt:=hideg hR
 clear hG e1 hg0 hR
 have hvq:=fun W=>gHasV_any g.hor la ea g.lives.length lc g.edges.length ec q W hn12
 by_cases bq:inR q 0 ((g.lives.length:Int)- 1)=true
 case neg=>
   rw [Bool.not_eq_true] at bq
   have HW:=hideg (HP2.out (.inl (fun h=>by rw [(inR_iff q 0 ((g.lives.length:Int)- 1)).2 (by omega)] at bq;cases bq)))
   rw [bq] at hvq
   clear HP2 HP3 h2 HEr HAw bq
   go_enter Seq.func18,Tryz.ntmps18
   go_wp2_with fail
   refine h1.mono ?_
   rintro r w1 ⟨rfl,hb1⟩
   have B1:=B0.below hb1
   have g0:=B1.c0
   have g1:=B1.c1
   have g2:=B1.c2
   clear h1 hb1 B0
   go_wp2_with fail
   refine (hvq _).mono ?_
   rintro r w2 ⟨rfl,hb2⟩
   have hbF:=(B1.below hb2).bel
   clear hvq hb2 B1 g0 g1 g2
   go_wp2
   (try simp only [Exit.inBlock,Exit.then]);refine bodyPost_ret (results_two_e rfl _ _ _) rfl ?_
   exact ⟨_,_,_,rfl,HW.out,World.ownsRow_nil _ _ _ _,hbF⟩
 have hq01:=(inR_iff q 0 ((g.lives.length:Int)- 1)).1 bq
 rw [bq] at hvq
 clear bq
 obtain ⟨Y,rfl⟩:∃Y:Nat,q=(Y:Int):=⟨q.toNat,by omega⟩
 have hY:Y<g.lives.length:=by omega
 have hlT:=(erF_len g v t).1
 have hlL:=(erF_len g v t).2
 simp only [Int.toNat_natCast] at HP2 HP3
 obtain ⟨T,hT⟩:∃T,T=(erF g v t).1:=⟨_,rfl⟩
 obtain ⟨L,hL⟩:∃L,L=(erF g v t).2:=⟨_,rfl⟩
 have hTL:erF g v t=(T,L):=by rw [hT,hL]
 rw [<- hT] at h2 HP2 HP3 HAw hlT
 rw [<- hL] at h2 hlL HP3
 rw [hTL] at HEr
 clear hT hL hTL
 obtain ⟨y,hy⟩:∃y,y=T.getD Y 0:=⟨_,rfl⟩
 rw [<- hy] at HP2 HP3
 by_cases e2:y=1099511627776
 · have HW:=hideg (HP2.out (.inr e2))
   subst e2
   clear HP2 HP3 HEr HAw
   go_enter Seq.func18,Tryz.ntmps18
   go_wp2_with fail
   refine h1.mono ?_
   rintro r w1 ⟨rfl,hb1⟩
   have B01:=B0.below hb1
   have g0:=B01.c0
   have g1:=B01.c1
   have g2:=B01.c2
   clear h1 hb1 B0
   go_wp2_with fail
   refine (hvq _).mono ?_
   rintro r w11 ⟨rfl,hb11⟩
   have B1:=B01.below hb11
   clear hvq hb11 B01 g0 g1 g2
   have g0:=B1.c0
   have g1:=B1.c1
   have g2:=B1.c2
   have hbx:=B1.bel
   go_wp2_with fail
   refine (h2 _ hbx).mono ?_
   rintro r w2 ⟨m1,m2,rfl,hZ,_,hb2⟩
   have cY:=hZ.cell hY
   rw [<- hy] at cY
   have hbF:=ptg hbx hb2
   clear h2 hZ hb2 g0 g1 g2 hbx B1 hy
   go_wp2
   (try simp only [Exit.inBlock,Exit.then]);refine bodyPost_ret (results_two_e rfl _ _ _) rfl ?_
   exact ⟨_,_,_,rfl,HW.out,World.ownsRow_nil _ _ _ _,hbF⟩
 have d2:(y==1099511627776)=false:=by simpa using e2
 have hal:aliveB t g.lives v=true:=by
   refine Classical.byContradiction fun h=>e2 ?_
   rw [hy,HAw.out h,rep_getD _ _ _ hY]
 have HE:=hideg (HEr.out hal)
 have HW:=hideg (HP3.out ⟨by omega,by omega⟩ e2)
 have HY:Hid (T.getD Y 0≠1099511627776):=by rw [<- hy];exact e2
 clear HP2 HP3 HEr HAw hal e2
 obtain ⟨V,rfl⟩:∃V:Nat,v=(V:Int):=⟨v.toNat,by omega⟩
 go_enter Seq.func18,Tryz.ntmps18
 go_wp2_with fail
 refine h1.mono ?_
 rintro r w1 ⟨rfl,hb1⟩
 have B01:=B0.below hb1
 have g0:=B01.c0
 have g1:=B01.c1
 have g2:=B01.c2
 clear h1 hb1 B0
 go_wp2_with fail
 refine (hvq _).mono ?_
 rintro r w11 ⟨rfl,hb11⟩
 have B1:=B01.below hb11
 clear hvq hb11 B01 g0 g1 g2
 have g0:=B1.c0
 have g1:=B1.c1
 have g2:=B1.c2
 have hbx:=B1.bel
 go_wp2_with fail
 refine (h2 _ hbx).mono ?_
 rintro r w2 ⟨m1,m2,rfl,hZ,hLr,hb2⟩
 have cY:=hZ.cell hY
 rw [<- hy] at cY
 have HbF:=hideg (ptg hbx hb2)
 have HLr:=hideg hLr
 have HS1:=hideg hbx.size
 clear h2 hZ hb2 g0 g1 g2 hbx B1 hy hLr hlT hlL
 go_wp2_with fail
 go_loopw [13,14] (fun u x wr=>∃(X:Nat) (l:List Hp),X<g.lives.length /\ x= .int .i64 X /\ T.getD X 0≠1099511627776 /\ WayTo g T X Y l.reverse /\ (∀f,trF L (V:Int) (f+l.length) (Y:Int)=l++trF L (V:Int) f (X:Int)) /\ wr.ownsRow w2.heap.size 63 2 u l.length (encs l) /\ Below w2.heap.size w2 wr) (fun _ x _=>(T.getD (intOf x).toNat 0).toNat)
 case atStart=>exact ⟨Y,[],hY,rfl,HY.out,wayTo_nil g T Y,fun f=>rfl,World.ownsRow_nil _ _ _ _,Below.refl _ _⟩
 case round=>
   clear cY d2
   obtain ⟨X,l,hX,rfl,hXi,hW,hTr,hown,hb⟩:=hrel
   have HTr:=hideg hTr
   clear hTr
   have hTx:0 <= T.getD X 0 /\ T.getD X 0<g.hor:=by
     rcases HE.out.is X hX with e | e
     · exact absurd e hXi
     · have:=e.place HRt.out (by omega);exact this.2.2
   have hTy:T.getD Y 0<g.hor:=by
     rcases HE.out.is Y hY with e | e
     · exact absurd e HY.out
     · have:=e.place HRt.out (by omega);exact this.2.2.2
   have hll:l.length <= 200:=by
     have:=hW.len
     simp only [Int.toNat_natCast,List.length_reverse] at this
     omega
   by_cases hXV:X=V
   · subst hXV
     have HWl:=hideg (HW.out _ hW (by
       have h9:=HTr.out (300-l.length)
       rw [trF_at,List.append_nil,show 300-l.length+l.length=300 by omega] at h9
       rw [h9]))
     have hbF:Below w.heap.size w wr:=HbF.out.trans (hb.mono HbF.out.size)
     clear hW hXi hTx hTy
     rcases hown.2 with ⟨hu,h0⟩ | ⟨gb,cap,cur,hu,hgb,hh,h3,h4,h5,h6⟩
     · have hl0:l=[]:=List.eq_nil_of_length_eq_zero h0
       subst hl0
       subst hu
       have hRv:=fun W=>Reverse_nil W
       clear hown h0
       go_wp2_with fail
       refine (hRv _).mono ?_
       rintro r w5 ⟨⟨vv,rfl⟩,rfl⟩
       clear hRv
       go_wp2
       (try simp only [Exit.inBlock,Exit.then]);refine bodyPost_ret (results_two_e rfl _ _ _) rfl ?_
       exact ⟨_,_,_,rfl,HWl.out,World.ownsRow_nil _ _ _ _,hbF⟩
     · subst hu
       have hRv:=Reverse_any w2.heap.size gb cap l wr hown (by omega)
       clear hown hh h6 h5 h3 h4 hgb
       go_wp2_with fail
       refine hRv.mono ?_
       rintro r w5 ⟨⟨vv,rfl⟩,hO5,hb5⟩
       have HO5:Hid (w5.ownsRow w.heap.size 63 2 (.slice (some ⟨gb,0,none⟩) l.length cap) l.reverse.length (encs l.reverse)):=by
         rw [List.length_reverse];exact owns_base2 hO5 HbF.out.size
       have HB5:=hideg (HbF.out.trans ((hb.trans hb5).mono HbF.out.size))
       clear hRv hO5 hb5
       go_wp2
       (try simp only [Exit.inBlock,Exit.then]);refine bodyPost_ret (results_two_e rfl _ _ _) rfl ?_
       exact ⟨_,_,_,rfl,HWl.out,HO5.out,HB5.out⟩
   · have hXVi:((X:Int) !=(V:Int))=true:=by simp;omega
     obtain ⟨rOk,rTo,rAr,rFr⟩:=HE.out.way X hX hXi (by omega)
     simp only at rOk rTo rAr rFr
     have hLx:=(HLr.out.one hX)
     unfold ri0 at hLx
     have HTs:=hideg (fun f=>trF_step L (v:=(V:Int)) (x:=(X:Int)) f (by omega))
     simp only [Int.toNat_natCast] at HTs
     generalize L.getD X (0,0,0,0,0,0)=rr at*
     obtain ⟨E,d,a,b,ar,c⟩:=rr
     simp only at rTo rAr rFr
     have ha0:=rOk.a0
     simp only at ha0
     obtain ⟨A,rfl⟩:∃A:Nat,a=(A:Int):=⟨a.toNat,by omega⟩
     have hA:A<g.lives.length:=by omega
     obtain ⟨hW2,hlt⟩:=hW.cons rOk rTo (by simpa using rAr) (by simpa using rFr)
     simp only [Int.toNat_natCast] at hlt hW2
     have HW2:Hid (WayTo g T (A:Int) (Y:Int) (l++[(E,d)]).reverse):=by rw [List.reverse_append];exact hW2
     have hAi:T.getD A 0≠1099511627776:=by omega
     have HTr2:Hid (∀f,trF L (V:Int) (f+(l++[(E,d)]).length) (Y:Int)=(l++[(E,d)])++trF L (V:Int) f (A:Int)):=fun f=>by
       have h9:=HTr.out (f+1)
       have h10:=HTs.out f
       simp only at h10
       rw [h10] at h9
       rw [List.length_append,List.length_singleton,show f+(l.length+1)=f+1+l.length by omega,h9,List.append_assoc]
       rfl
     clear HTs HTr
     have hTA:0 <= T.getD A 0:=by
       rcases HE.out.is A hA with e | e
       · exact absurd e hAi
       · have:=e.place HRt.out (by omega);exact this.2.2.1
     have hm2:=(World.ownsRow.lt HLr.out _ rfl).2
     have L5:=hLx.below hm2 hb
     have c0:=L5.c0
     have c1:=L5.c1
     have c2:=L5.c2
     simp only at c0 c1 c2
     have hXi2:(X:Int)<(g.lives.length:Int):=by omega
     have hXn:(X:Int)≠(V:Int):=by omega
     have HBg:Hid (∀(o:Obj) (w5:World),(wr.alloc o).grownBy w5 u13.ownBlock -> Below w2.heap.size w2 w5):=fun o w5 hgr=>(hb.alloc hb.size o).grown hgr (by have:=hb.size;simp at this ⊢;omega) (fun k hk=>(hown.lt k hk).1)
     have HC:Hid (∀w5,Below w2.heap.size w2 w5 -> w5.cell? ⟨m2,X*6+2,none⟩=some (.int .i64 (A:Int))):=fun w5 h=>(hLx.below hm2 h).c2
     have hs2:=hb.size
     have HT:Hid ((T.getD A 0).toNat<(T.getD X 0).toNat):=by show _<_;omega
     clear hLx L5 rOk rTo rAr rFr hW hW2 hTy HE
     go_wp2_with (at_builtin;refine stopHereR ?_)
     refine hideg ?_
     refine wpList_append_own _ rfl _ _ 57 rfl w2.heap.size 63 i0 _ 2 16 ((Seq.pu 57).trans Tryz.underlying57) hi hz0 hz1 hz2 rfl (by decide) _ _ _ rfl (World.ownsRow.alloc (w:=wr) hown _) ⟨wr.heap.size,0,none⟩ 1 1 [.int .i64 E,.int .i64 d] rfl rfl (cells_two_new _ _ _ _ _ (by simp)) (by intro u hu;simp at hu;rcases hu with rfl | rfl<;>rfl) (by unfold maxLen;omega) (by omega) (by simp;omega) ?_
     intro v' w5 hown5 hgrow _
     have hb':=HBg.out _ _ hgrow
     have c2':=HC.out _ hb'
     have R5:w5.ownsRow w2.heap.size 63 2 v' (l++[(E,d)]).length (encs (l++[(E,d)])):=by
       rw [show encs (l++[(E,d)])=encs l++[.int .i64 E,.int .i64 d] from by simp [encs,flat],List.length_append];exact hown5
     have HR5:=hideg R5
     clear hgrow hown5 c0 c1 c2 HBg HC R5
     go_wp2
     go_roundw
     case rel=>exact ⟨A,_,hA,rfl,hAi,HW2.out,HTr2.out,HR5.out,hb'⟩
     case measure=>simpa [intOf] using HT.out
theorem take_succI (l:List Int) (k:Nat) (h:k<l.length):l.take (k+1)=l.take k++[l[k]]:=List.take_succ_eq_append_getElem h
set_option maxHeartbeats 2000000 in
theorem EqualI_any (ao bo:Option Addr) (ca cb:Nat) (a b:List Int) (w:World) (hA:ZsAt w ao a) (hB:ZsAt w bo b) (hl:a.length <= 9223372036854775807):
   Calls Seq.prog 19 #[.slice ao a.length ca,.slice bo b.length cb] w fun e w' =>e= .returned (.bool (decide (a=b))) /\ Below w.heap.size w w':=by
 by_cases hlen:a.length=b.length
 · have HLN:Hid (a.length=b.length):=hlen
   rw [<- hlen]
   have hne:((a.length:Int) !=(a.length:Int))=false:=by simp
   clear hlen
   go_enter Seq.func19,Tryz.ntmps19
   go_wp2
   go_loopw [5,13] (fun _ i wr=>∃k:Nat,k <= a.length /\ i= .int .i64 k /\ a.take k=b.take k /\ Below w.heap.size w wr) (fun _ i _=>a.length-(intOf i).toNat)
   case atStart=>exact ⟨0,Nat.zero_le _,rfl,rfl,Below.refl _ _⟩
   case round=>
     obtain ⟨k,hk,rfl,hh,hb⟩:=hrel
     have HH:Hid (a.take k=b.take k):=hh
     clear hh
     by_cases hlt:k<a.length
     · have hlt' :k<b.length:=by have:=HLN.out;omega
       rcases hA.below hb with h0 | ⟨b1,o1,rfl,hb1,hc1⟩
       · subst h0;simp at hlt
       rcases hB.below hb with h0 | ⟨b2,o2,rfl,hb2,hc2⟩
       · subst h0;simp at hlt'
       have c0:=hc1 k hlt
       have d0:=hc2 k hlt'
       rw [List.getD_eq_getElem?_getD,List.getElem?_eq_getElem hlt,Option.getD_some] at c0
       rw [List.getD_eq_getElem?_getD,List.getElem?_eq_getElem hlt',Option.getD_some] at d0
       clear hc1 hc2 hA hB
       by_cases g:a[k]=b[k]
       · have HC:Hid (a.take (k+1)=b.take (k+1)):=by show _=_;rw [take_succI a k hlt,take_succI b k hlt',HH.out,g]
         have e1:(a[k] !=b[k])=false:=by simpa using g
         clear g
         go_wp2
         go_quiet (fail)
         go_wp2
         go_roundw
         case rel=>exact ⟨k+1,by omega,by go_num,HC.out,below_drewN hb _⟩
         case measure=>simp [intOf];omega
       · have HC:Hid (decide (a=b)=false):=by
           show _=_
           rw [decide_eq_false_iff_not]
           intro h;subst h;exact g rfl
         have e1:(a[k] !=b[k])=true:=by simpa using g
         clear g
         go_wp2
         go_quiet (fail)
         go_wp2
         go_ret
         exact ⟨retp_bool HC.out.symm,below_drewN hb _⟩
     · have hkl:k=a.length:=by omega
       have HC:Hid (decide (a=b)=true):=by
         show _=_
         have:=HH.out
         rw [hkl,List.take_length,HLN.out,List.take_length] at this
         rw [this];simp
       go_wp2
       go_ret
       exact ⟨retp_bool HC.out.symm,hb⟩
 · have hne:((a.length:Int) !=(b.length:Int))=true:=by simp;omega
   have HC:Hid (decide (a=b)=false):=by
     show _=_
     rw [decide_eq_false_iff_not]
     intro h;subst h;exact hlen rfl
   clear hlen
   go_enter Seq.func19,Tryz.ntmps19
   go_wp2
   go_ret
   exact ⟨retp_bool HC.out.symm,Below.refl _ _⟩
theorem neq_hop (x y:Int×Int) (w:World):(binOp .neq 63 (.agg #[.int .i64 x.1,.int .i64 x.2]) (.agg #[.int .i64 y.1,.int .i64 y.2])).run Seq.prog w= .ok (.bool (!(x.1==y.1&&x.2==y.2))) w:=by
 have u3:=((Seq.pu 3).trans Tryz.underlying3)
 have a3:=(fun w=>(Seq.ag 3 w).trans (Tryz.isAgg3 w))
 have z3:=(fun w=>(Seq.so 3 w).trans (Tryz.sizeOf3 w))
 have hS:Seq.prog.underlying 63=some (.struct (Seq.prog.fieldsOf 63)):=by kernel_rfl
 have hp:Seq.prog.stoodInHeld 63=false:=by kernel_rfl
 rw [run_neq_struct,show (10000:Nat)=9999+1 from rfl,run_equalIn_agg w 9999 63 _ _ hS hp]
 simp only [Program.fieldsOf,((Seq.pu 63).trans Tryz.underlying63)]
 go_simp
 by_cases h1:x.fst=y.fst<;>by_cases h2:x.snd=y.snd<;>simp [h1,h2]
set_option maxHeartbeats 2000000 in
theorem EqualHop_any (ao bo:Option Addr) (ca cb:Nat) (a b:List (Int×Int)) (w:World) (hA:IvAt w ao a) (hB:IvAt w bo b) (hl:a.length <= 9223372036854775807):
   Calls Seq.prog 20 #[.slice ao a.length ca,.slice bo b.length cb] w fun e w' =>e= .returned (.bool (decide (a=b))) /\ Below w.heap.size w w':=by
 by_cases hlen:a.length=b.length
 · have hm:Seq.prog.eqGuardType Seq.prog.depth 63=false:=by kernel_rfl
   have HLN:Hid (a.length=b.length):=hlen
   rw [<- hlen]
   have hne:((a.length:Int) !=(a.length:Int))=false:=by simp
   clear hlen
   go_enter Seq.func20,Tryz.ntmps20
   go_wp2
   go_loopw [5,13] (fun _ i wr=>∃k:Nat,k <= a.length /\ i= .int .i64 k /\ a.take k=b.take k /\ Below w.heap.size w wr) (fun _ i _=>a.length-(intOf i).toNat)
   case atStart=>exact ⟨0,Nat.zero_le _,rfl,rfl,Below.refl _ _⟩
   case round=>
     obtain ⟨k,hk,rfl,hh,hb⟩:=hrel
     have HH:Hid (a.take k=b.take k):=hh
     clear hh
     by_cases hlt:k<a.length
     · have hlt' :k<b.length:=by have:=HLN.out;omega
       rcases hA.below hb with h0 | ⟨b1,o1,rfl,hb1,hc1⟩
       · subst h0;simp at hlt
       rcases hB.below hb with h0 | ⟨b2,o2,rfl,hb2,hc2⟩
       · subst h0;simp at hlt'
       obtain ⟨c0,c1⟩:=hc1 k hlt
       obtain ⟨d0,d1⟩:=hc2 k hlt'
       have nq:=neq_hop a[k] b[k]
       clear hc1 hc2 hA hB
       by_cases g:a[k]=b[k]
       · have e1:(a[k].1==b[k].1)=true:=by rw [g];simp
         have e2:(a[k].2==b[k].2)=true:=by rw [g];simp
         have HC:Hid (a.take (k+1)=b.take (k+1)):=by show _=_;rw [take_succ_get a k hlt,take_succ_get b k hlt',HH.out,g]
         rw [e1,e2] at nq
         clear g e1 e2
         go_wp2
         go_quiet (fail)
         go_wp2
         go_roundw
         case rel=>exact ⟨k+1,by omega,by go_num,HC.out,below_drewN hb _⟩
         case measure=>simp [intOf];omega
       · have e1:(a[k].1==b[k].1&&a[k].2==b[k].2)=false:=by
           rw [Bool.and_eq_false_iff]
           by_cases h:a[k].1=b[k].1
           · right;rw [beq_eq_false_iff_ne];exact fun h' =>g (Prod.ext h h')
           · left;rw [beq_eq_false_iff_ne];exact h
         have HC:Hid (decide (a=b)=false):=by
           show _=_
           rw [decide_eq_false_iff_not]
           intro h;subst h;exact g rfl
         rw [e1] at nq
         clear g e1
         go_wp2
         go_quiet (fail)
         go_wp2
         go_ret
         exact ⟨ret_bool HC.out.symm,below_drewN hb _⟩
     · have hkl:k=a.length:=by omega
       have HC:Hid (decide (a=b)=true):=by
         show _=_
         have:=HH.out
         rw [hkl,List.take_length,HLN.out,List.take_length] at this
         rw [this];simp
       go_wp2
       go_ret
       exact ⟨ret_bool HC.out.symm,hb⟩
 · have hne:((a.length:Int) !=(b.length:Int))=true:=by simp;omega
   have HC:Hid (decide (a=b)=false):=by
     show _=_
     rw [decide_eq_false_iff_not]
     intro h;subst h;exact hlen rfl
   clear hlen
   go_enter Seq.func20,Tryz.ntmps20
   go_wp2
   go_ret
   exact ⟨ret_bool HC.out.symm,Below.refl _ _⟩
theorem leastE_ok {g:Gr} {pr:Ri -> Int} {v t:Int} {L:List Int} (h:LeastE g pr v t L) (h0:placeE g v t=0):LeastIs g pr v t L:=by
 rcases h with ⟨h1,_⟩ | ⟨_,h1⟩
 · exact absurd h0 h1
 · exact h1
def gLine:Gr:=⟨12,[(0,12),(0,12),(1,12)],[(0,1,[(0,3,2,5),(3,6,1,1)]),(1,2,[(4,5,3,2)])]⟩
theorem line_chk:gChk gLine=0:=by decide+kernel
theorem line_p0:placeE gLine 0 0=0:=by decide+kernel
theorem line_arr:arrA gLine 0 0=[0,2,7]:=by decide+kernel
theorem line_way:(erF gLine 0 0).1.getD 2 0≠1099511627776 /\ (trF (erF gLine 0 0).2 0 300 2).reverse=[(0,0),(1,4)]:=by decide+kernel
theorem line_wayIs {e:Int} {l:List Hp} (h:WayIs gLine 0 0 2 e l):e=0 /\ l=[(0,0),(1,4)]:=by
 rcases h with ⟨h1,_⟩ | ⟨_,h1,_⟩ | ⟨_,_,_,h1,_,h2⟩
 · exact absurd line_p0 h1
 · rcases h1 with h1 | h1
   · exact absurd ⟨by omega,by decide⟩ h1
   · exact absurd h1 line_way.1
 · exact ⟨h1,by rw [h2];exact line_way.2⟩
theorem line_least:LeastIs gLine prCost 0 0 [0,1,3]:=by
 have ha:aliveB 0 gLine.lives 0=true:=by decide
 have hb:Pay gLine prCost 0 0 0 0 0:=⟨ha,.base (by unfold F1;rw [if_pos ⟨rfl,rfl⟩])⟩
 have h3:Pay gLine prCost 0 0 0 (0+1+1+1) 0:=⟨ha,.wait (.wait (.wait hb.2 (by decide)) (by decide)) (by decide)⟩
 have hm1:((0:Int),(3:Int),(0:Int),(1:Int),(4:Int),(1:Int))∈ridesF gLine:=by decide+kernel
 have hm2:((1:Int),(4:Int),(1:Int),(2:Int),(7:Int),(2:Int))∈ridesF gLine:=by decide+kernel
 have h4:Pay gLine prCost 0 0 1 4 1:=⟨ha,Pd.ride hm1 h3.2⟩
 have h7:Pay gLine prCost 0 0 2 7 3:=⟨ha,Pd.ride hm2 h4.2⟩
 have hr:∀r∈ridesF gLine,(if r.2.2.2.1=1 then (1:Int) else if r.2.2.2.1=2 then 3 else 0) <= (if r.2.2.1=1 then (1:Int) else if r.2.2.1=2 then 3 else 0)+prCost r:=by decide+kernel
 refine ⟨rfl,fun x hx=> ?_,fun x hx t p hp=> ?_⟩
 · have hx' :x=0 \/ x=1 \/ x=2:=by simp [gLine] at hx;omega
   rcases hx' with rfl | rfl | rfl
   · exact .inr ⟨0,hb⟩
   · exact .inr ⟨4,h4⟩
   · exact .inr ⟨7,h7⟩
 · have hx' :x=0 \/ x=1 \/ x=2:=by simp [gLine] at hx;omega
   have:=pay_bound (b:=fun x=>if x=1 then (1:Int) else if x=2 then 3 else 0) (by decide) hr hp
   rcases hx' with rfl | rfl | rfl
   · simpa using this
   · simpa using this
   · simpa using this
theorem line_costs {L:List Int} (h:LeastE gLine prCost 0 0 L):L=[0,1,3]:=least_unique (gChk_right line_chk) (prCost_ok (gChk_right line_chk)) (by omega) (leastE_ok h line_p0) line_least
theorem line_at (w:World) (o:Obj) (T1 T2 T3 T4:TypeId):GAt (((((w.alloc o).alloc (.cells #[.int .i64 0,.int .i64 12,.int .i64 0,.int .i64 12,.int .i64 1,.int .i64 12] T1)).alloc (.cells #[.int .i64 0,.int .i64 3,.int .i64 2,.int .i64 5,.int .i64 3,.int .i64 6,.int .i64 1,.int .i64 1] T2)).alloc (.cells #[.int .i64 4,.int .i64 5,.int .i64 3,.int .i64 2] T3)).alloc (.cells #[.int .i64 0,.int .i64 1,.slice (some ⟨w.heap.size+1+1,0,none⟩) 2 2,.int .i64 1,.int .i64 2,.slice (some ⟨w.heap.size+1+1+1,0,none⟩) 1 1] T4)) (some ⟨w.heap.size+1,0,none⟩) (some ⟨w.heap.size+1+1+1+1,0,none⟩) gLine:=by
 have q1:∀j x,#[Value.int .i64 0,.int .i64 12,.int .i64 0,.int .i64 12,.int .i64 1,.int .i64 12][j]? =some x -> (((((w.alloc o).alloc (.cells #[.int .i64 0,.int .i64 12,.int .i64 0,.int .i64 12,.int .i64 1,.int .i64 12] T1)).alloc (.cells #[.int .i64 0,.int .i64 3,.int .i64 2,.int .i64 5,.int .i64 3,.int .i64 6,.int .i64 1,.int .i64 1] T2)).alloc (.cells #[.int .i64 4,.int .i64 5,.int .i64 3,.int .i64 2] T3)).alloc (.cells #[.int .i64 0,.int .i64 1,.slice (some ⟨w.heap.size+1+1,0,none⟩) 2 2,.int .i64 1,.int .i64 2,.slice (some ⟨w.heap.size+1+1+1,0,none⟩) 1 1] T4)).cell? ⟨w.heap.size+1,j,none⟩=some x:=by
   intro j x hx
   rw [(gal _ _).cell (by simp<;>omega),(gal _ _).cell (by simp<;>omega),(gal _ _).cell (by simp<;>omega)]
   exact new_cell (by simp) hx
 have q2:∀j x,#[Value.int .i64 0,.int .i64 3,.int .i64 2,.int .i64 5,.int .i64 3,.int .i64 6,.int .i64 1,.int .i64 1][j]? =some x -> (((((w.alloc o).alloc (.cells #[.int .i64 0,.int .i64 12,.int .i64 0,.int .i64 12,.int .i64 1,.int .i64 12] T1)).alloc (.cells #[.int .i64 0,.int .i64 3,.int .i64 2,.int .i64 5,.int .i64 3,.int .i64 6,.int .i64 1,.int .i64 1] T2)).alloc (.cells #[.int .i64 4,.int .i64 5,.int .i64 3,.int .i64 2] T3)).alloc (.cells #[.int .i64 0,.int .i64 1,.slice (some ⟨w.heap.size+1+1,0,none⟩) 2 2,.int .i64 1,.int .i64 2,.slice (some ⟨w.heap.size+1+1+1,0,none⟩) 1 1] T4)).cell? ⟨w.heap.size+1+1,j,none⟩=some x:=by
   intro j x hx
   rw [(gal _ _).cell (by simp<;>omega),(gal _ _).cell (by simp<;>omega)]
   exact new_cell (by simp) hx
 have q3:∀j x,#[Value.int .i64 4,.int .i64 5,.int .i64 3,.int .i64 2][j]? =some x -> (((((w.alloc o).alloc (.cells #[.int .i64 0,.int .i64 12,.int .i64 0,.int .i64 12,.int .i64 1,.int .i64 12] T1)).alloc (.cells #[.int .i64 0,.int .i64 3,.int .i64 2,.int .i64 5,.int .i64 3,.int .i64 6,.int .i64 1,.int .i64 1] T2)).alloc (.cells #[.int .i64 4,.int .i64 5,.int .i64 3,.int .i64 2] T3)).alloc (.cells #[.int .i64 0,.int .i64 1,.slice (some ⟨w.heap.size+1+1,0,none⟩) 2 2,.int .i64 1,.int .i64 2,.slice (some ⟨w.heap.size+1+1+1,0,none⟩) 1 1] T4)).cell? ⟨w.heap.size+1+1+1,j,none⟩=some x:=by
   intro j x hx
   rw [(gal _ _).cell (by simp<;>omega)]
   exact new_cell (by simp) hx
 refine ⟨.inr ⟨_,_,rfl,by simp<;>omega,fun j hj=> ?_⟩,.inr ⟨_,_,rfl,by simp,fun j hj=> ?_⟩,by simp [gLine],by simp [gLine]⟩
 · have hj' :j=0 \/ j=1 \/ j=2:=by simp [gLine] at hj;omega
   rcases hj' with rfl | rfl | rfl
   · exact ⟨q1 0 _ rfl,q1 1 _ rfl⟩
   · exact ⟨q1 2 _ rfl,q1 3 _ rfl⟩
   · exact ⟨q1 4 _ rfl,q1 5 _ rfl⟩
 · have hj' :j=0 \/ j=1:=by simp [gLine] at hj;omega
   rcases hj' with rfl | rfl
   · refine ⟨new_cell (by simp) rfl,new_cell (by simp) rfl,some ⟨w.heap.size+1+1,0,none⟩,2,new_cell (by simp) rfl,.inr ⟨_,_,rfl,by simp<;>omega,fun k hk=> ?_⟩,by simp [gLine],by omega⟩
     have hk' :k=0 \/ k=1:=by simp [gLine] at hk;omega
     rcases hk' with rfl | rfl
     · exact ⟨q2 0 _ rfl,q2 1 _ rfl,q2 2 _ rfl,q2 3 _ rfl⟩
     · exact ⟨q2 4 _ rfl,q2 5 _ rfl,q2 6 _ rfl,q2 7 _ rfl⟩
   · refine ⟨new_cell (by simp) rfl,new_cell (by simp) rfl,some ⟨w.heap.size+1+1+1,0,none⟩,1,new_cell (by simp) rfl,.inr ⟨_,_,rfl,by simp<;>omega,fun k hk=> ?_⟩,by simp [gLine],by omega⟩
     have hk' :k=0:=by simp [gLine] at hk;omega
     subst hk'
     exact ⟨q3 0 _ rfl,q3 1 _ rfl,q3 2 _ rfl,q3 3 _ rfl⟩
set_option maxRecDepth 100000 in
set_option maxHeartbeats 2000000 in
theorem line_any (w:World):Calls Seq.prog 17 #[] w fun r w' =>∃la ea,r= .returned (.agg #[.int .i64 gLine.hor,.slice la gLine.lives.length 3,.slice ea gLine.edges.length 2]) /\ GAt w' la ea gLine /\ Below w.heap.size w w':=by
 go_enter Seq.func17,Tryz.ntmps17
 go_wp2
 obtain ⟨o,ho⟩:∃o:Obj,o= .cells #[.int .i64 12,.slice (some ⟨w.heap.size+1,0,none⟩) 3 3,.slice (some ⟨w.heap.size+1+1+1+1,0,none⟩) 2 2] 25:=⟨_,rfl⟩
 have hG:=line_at w o 95 69 69 47
 have q:∀j x,#[Value.int .i64 12,.slice (some ⟨w.heap.size+1,0,none⟩) 3 3,.slice (some ⟨w.heap.size+1+1+1+1,0,none⟩) 2 2][j]? =some x -> (((((w.alloc o).alloc (.cells #[.int .i64 0,.int .i64 12,.int .i64 0,.int .i64 12,.int .i64 1,.int .i64 12] 95)).alloc (.cells #[.int .i64 0,.int .i64 3,.int .i64 2,.int .i64 5,.int .i64 3,.int .i64 6,.int .i64 1,.int .i64 1] 69)).alloc (.cells #[.int .i64 4,.int .i64 5,.int .i64 3,.int .i64 2] 69)).alloc (.cells #[.int .i64 0,.int .i64 1,.slice (some ⟨w.heap.size+1+1,0,none⟩) 2 2,.int .i64 1,.int .i64 2,.slice (some ⟨w.heap.size+1+1+1,0,none⟩) 1 1] 47)).cell? ⟨w.heap.size,j,none⟩=some x:=by
   intro j x hx
   rw [(gal _ _).cell (by simp<;>omega),(gal _ _).cell (by simp<;>omega),(gal _ _).cell (by simp<;>omega),(gal _ _).cell (by simp<;>omega),ho]
   exact new_cell rfl hx
 have q0:=q 0 _ rfl
 have q1:=q 1 _ rfl
 have q2:=q 2 _ rfl
 subst ho
 refine bodyPost_ret (v:= .agg #[.int .i64 gLine.hor,.slice (some ⟨w.heap.size+1,0,none⟩) gLine.lives.length 3,.slice (some ⟨w.heap.size+1+1+1+1,0,none⟩) gLine.edges.length 2]) (by simp [results,Tryz.results17,go_sem,q0,q1,q2,gLine]) rfl ⟨_,_,rfl,hG,ptg (ptg (ptg (ptg (gal _ _) (gal _ _)) (gal _ _)) (gal _ _)) (gal _ _)⟩
theorem three_ints (w:World) (T:TypeId) (a b c:Int):ZsAt (w.alloc (.cells #[.int .i64 a,.int .i64 b,.int .i64 c] T)) (some ⟨w.heap.size,0,none⟩) [a,b,c]:=by
 refine .inr ⟨_,_,rfl,by simp,fun j hj=> ?_⟩
 have hj' :j=0 \/ j=1 \/ j=2:=by simp at hj;omega
 rcases hj' with rfl | rfl | rfl
 · exact new_cell rfl rfl
 · exact new_cell rfl rfl
 · exact new_cell rfl rfl
theorem two_hops (w:World) (T:TypeId) (a b c d:Int):IvAt (w.alloc (.cells #[.int .i64 a,.int .i64 b,.int .i64 c,.int .i64 d] T)) (some ⟨w.heap.size,0,none⟩) [(a,b),(c,d)]:=by
 refine .inr ⟨_,_,rfl,by simp,fun j hj=> ?_⟩
 have hj' :j=0 \/ j=1:=by simp at hj;omega
 rcases hj' with rfl | rfl
 · exact ⟨new_cell rfl rfl,new_cell rfl rfl⟩
 · exact ⟨new_cell rfl rfl,new_cell rfl rfl⟩
set_option maxRecDepth 100000 in
set_option maxHeartbeats 1000000 in
theorem said_any (w:World):Calls Seq.prog 5 #[] w fun r w' =>r= .returned (.bool true) /\ Below w.heap.size w w':=by
 have H1:=hideg (fun la ea W (hG:GAt W la ea gLine)=>eArr_any gLine la ea 3 2 0 0 W hG)
 have H2:=hideg (fun la ea W (hG:GAt W la ea gLine)=>cCosts_any gLine la ea 3 2 0 0 W hG)
 have H3:=hideg (fun la ea W (hG:GAt W la ea gLine)=>eWay_any gLine la ea 3 2 0 0 2 W hG)
 rw [line_arr,line_p0] at H1
 rw [line_p0] at H2
 have HP:=hideg (fun W=>line_any W)
 have HC:Hid (∀L,LeastE gLine prCost 0 0 L -> L=[0,1,3]):=fun L h=>line_costs h
 have HW:Hid (∀e l,WayIs gLine 0 0 2 e l -> e=0 /\ l=[(0,0),(1,4)]):=fun e l h=>line_wayIs h
 generalize gLine=gl at*
 go_enter Seq.func5,Tryz.ntmps5
 go_wp2_with fail
 refine (HP.out _).mono ?_
 rintro r w1 ⟨la1,ea1,rfl,hG1,hb1⟩
 go_wp2_with fail
 refine (H1.out la1 ea1 _ hG1).mono ?_
 rintro r w2 ⟨u2,rfl,ho2,hb2⟩
 have hbb:=ptg hb1 hb2
 clear hb1 hb2 hG1 H1
 go_wp2_with fail
 refine (HP.out _).mono ?_
 rintro r w3 ⟨la3,ea3,rfl,hG3,hb3⟩
 have ho2:=ownsRow_below ho2 hb3
 go_wp2_with fail
 refine (H2.out la3 ea3 _ hG3).mono ?_
 rintro r w4 ⟨u4,L4,rfl,hE4,ho4,hb4⟩
 have e4:=HC.out L4 hE4
 subst e4
 have ho2:=ownsRow_below ho2 hb4
 have hbb:=ptg hbb (ptg hb3 hb4)
 clear hb3 hb4 hG3 H2 hE4 HC
 go_wp2_with fail
 refine (HP.out _).mono ?_
 rintro r w5 ⟨la5,ea5,rfl,hG5,hb5⟩
 have ho2:=ownsRow_below ho2 hb5
 have ho4:=ownsRow_below ho4 hb5
 go_wp2_with fail
 refine (H3.out la5 ea5 _ hG5).mono ?_
 rintro r w6 ⟨u6,e6,l6,rfl,hW6,ho6,hb6⟩
 obtain ⟨rfl,rfl⟩:=HW.out e6 l6 hW6
 have ho2:=ownsRow_below ho2 hb6
 have ho4:=ownsRow_below ho4 hb6
 have hbF:=ptg hbb (ptg hb5 hb6)
 clear hb5 hb6 hbb hG5 HP H3 hW6 HW
 obtain ⟨a2,c2,rfl,z2⟩:=zsAt_of_owns ho2
 obtain ⟨a4,c4,rfl,z4⟩:=zsAt_of_owns ho4
 obtain ⟨a6,c6,rfl,z6⟩:=ivAt_of_owns ho6
 have hE1:=EqualI_any a2 (some ⟨w6.heap.size,0,none⟩) c2 3 [0,2,7] [0,2,7] (w6.alloc (.cells #[.int .i64 0,.int .i64 2,.int .i64 7] 3)) (z2.below (gal _ _)) (three_ints _ _ _ _ _) (by simp)
 have HE2:=hideg (fun W (hb:Below w6.heap.size w6 W)=>EqualI_any a4 (some ⟨W.heap.size,0,none⟩) c4 3 [0,1,3] [0,1,3] (W.alloc (.cells #[.int .i64 0,.int .i64 1,.int .i64 3] 3)) (z4.below (ptg hb (gal _ _))) (three_ints _ _ _ _ _) (by simp))
 have HE3:=hideg (fun W (hb:Below w6.heap.size w6 W)=>EqualHop_any a6 (some ⟨W.heap.size,0,none⟩) c6 2 [(0,0),(1,4)] [(0,0),(1,4)] (W.alloc (.cells #[.int .i64 0,.int .i64 0,.int .i64 1,.int .i64 4] 63)) (z6.below (ptg hb (gal _ _))) (two_hops _ _ _ _ _ _) (by simp))
 rw [show decide (([0,2,7]:List Int)=[0,2,7])=true from by decide] at hE1
 rw [show decide (([0,1,3]:List Int)=[0,1,3])=true from by decide] at HE2
 rw [show decide (([(0,0),(1,4)]:List Hp)=[(0,0),(1,4)])=true from by decide] at HE3
 simp only [List.length_cons,List.length_nil,Nat.zero_add] at hE1 HE2 HE3
 clear z2 z4 z6 ho2 ho4 ho6
 go_wp2_with fail
 refine hE1.mono ?_
 rintro r w7 ⟨rfl,hb7⟩
 have hb67:=ptg (gal w6 _) hb7
 have hE2:=HE2.out _ hb67
 clear hE1 hb7 HE2
 go_wp2_with fail
 refine hE2.mono ?_
 rintro r w8 ⟨rfl,hb8⟩
 have hb68:=ptg hb67 (ptg (gal w7 _) hb8)
 have hE3:=HE3.out _ hb68
 clear hE2 hb8 HE3 hb67
 go_wp2_with fail
 refine hE3.mono ?_
 rintro r w9 ⟨rfl,hb9⟩
 have hbG:=ptg hbF (ptg hb68 (ptg (gal w8 _) hb9))
 clear hE3 hb9 hb68 hbF
 go_wp2
 go_ret
 exact ⟨rfl,hbG⟩
def askE (g:Gr) (p v:Int):Int:=if gChk g=0 then if inR p 1 3=true then if p=3 then 0 else if inR v 0 ((g.lives.length:Int)- 1)=true then 0 else 4 else 1 else gChk g
theorem ownsRow_setBox {w:World} {base e size:Nat} {v:Value} {n:Nat} {xs:List Value} {b j:Nat} {u:Value} (h:w.ownsRow base e size v n xs) (hne:v.ownBlock≠some b):(w.setCell ⟨b,j,none⟩ u).ownsRow base e size v n xs:=
 h.kept (row:=some b) ⟨rfl,rfl,rfl,by simp [World.setCell],fun k _ hk=>Below.heap_setCell _ _ _ _ (fun e=>hk (by simp [e]))⟩ (Or.inr hne)
structure RoundsIs (arcs:List Ac) (p:Ac -> Int) (back:Bool) (first x:List Int) (k:Nat):Prop where
 is:x=rnds arcs p back k first
 stop:rnd arcs p back x=x
 on:∀j,j<k -> ¬rnd arcs p back (rnds arcs p back j first)=rnds arcs p back j first
def begF (prog fr:Int) (v:Int):Int:=if prog=3 then v else fromF fr v
def pricZ (prog:Nat) (a:Ac):Int:=if prog=1 then 1 else if prog=2 then a.2.2 else 0
theorem rounds_best {arcs:List Ac} {p:Ac -> Int} {back:Bool} {first x:List Int} {k:Nat} (F:Fine first (ways back arcs) p) (he:back=true -> Even p) (R:RoundsIs arcs p back first x k):Best first (ways back arcs) p x:=by
 have go:∀k,Mid first (ways back arcs) p (rnds arcs p back k first):=by
   intro k
   induction k with
   | zero=>exact mid_start _ _ _
   | succ k ih=>exact (rn_round F he ih).mid
 have hM:Mid first (ways back arcs) p x:=by rw [R.is];exact go k
 exact rnd_end F he hM R.stop
theorem pricZ_even:Even (pricZ 3):=fun _=>rfl
theorem fine_prog {al:List Bool} {arcs:List Ac} (S:Shot al arcs) (fr:Int) {prog:Nat} (hp:prog=1 \/ prog=2 \/ prog=3):Fine (firstL al (begF prog fr)) (ways (decide (prog=3)) arcs) (pricZ prog) /\ (decide (prog=3)=true -> Even (pricZ prog)):=by
 have nv:=S.nv
 rcases hp with rfl | rfl | rfl
 · exact ⟨S.fine (fun v _=>fromF_bounds fr v) (fun a _=>by unfold pricZ;simp),fun h=>by simp at h⟩
 · exact ⟨S.fine (fun v _=>fromF_bounds fr v) (fun a ha=>by unfold pricZ;simpa using S.cost a ha),fun h=>by simp at h⟩
 · exact ⟨S.bothW (fun v hv=>by unfold begF;simp;omega) (fun a _=>by unfold pricZ;simp) pricZ_even,fun _=>pricZ_even⟩
abbrev P3:=Int×Int×Int
def updF {α:Type} (f:Nat -> α) (v:Nat) (x:α):Nat -> α:=fun i=>if i=v then x else f i
theorem updF_same {α:Type} (f:Nat -> α) (v:Nat) (x:α):updF f v x v=x:=by simp [updF]
theorem updF_far {α:Type} (f:Nat -> α) {v i:Nat} (x:α) (h:i≠v):updF f v x i=f i:=by simp [updF,h]
theorem map_updF (n v:Nat) (val:Nat -> Value) (x:Value):((List.range n).map val).set v x=(List.range n).map (updF val v x):=by
 apply List.ext_getElem (by simp)
 intro i h1 h2
 simp only [List.getElem_set,List.getElem_map,List.getElem_range,updF]
 by_cases e:v=i
 · simp [e]
 · have e2:¬i=v:=fun h=>e h.symm
   simp [e,e2]
theorem owns_apart {W:World} {base e size base' e' size' n n' :Nat} {v v' :Value} {xs xs' :List Value} (h:W.ownsRow base e size v n xs) (h' :W.ownsRow base' e' size' v' n' xs') (he:e≠e'):v.ownBlock=none \/ v.ownBlock≠v'.ownBlock:=by
 rcases h.2 with ⟨rfl,_⟩ | ⟨g,cap,cur,rfl,_,hh,_⟩
 · exact .inl rfl
 · right
   intro e
   rcases h'.2 with ⟨rfl,_⟩ | ⟨g',cap',cur',rfl,_,hh',_⟩
   · cases e
   · have:g=g':=Option.some.inj e
     subst this
     rw [hh] at hh'
     simp only [Option.some.injEq,Obj.cells.injEq] at hh'
     exact he hh'.2.1
structure AM (W:World) (base go n:Nat) (val:Nat -> Value) (pcs:Nat -> List P3):Prop where
 own:W.ownsRow base 41 1 (.slice (some ⟨go,0,none⟩) n n) n ((List.range n).map val)
 inn:∀v,v<n -> W.ownsRow base 54 3 (val v) (pcs v).length (enc3 (pcs v))
 ap:∀v v',v<n -> v' <n -> v≠v' -> (val v).ownBlock=none \/ (val v).ownBlock≠(val v').ownBlock
theorem AM.below {W W' :World} {base go n:Nat} {val:Nat -> Value} {pcs:Nat -> List P3} (A:AM W base go n val pcs) (hb:Below W.heap.size W W'):AM W' base go n val pcs:=
 ⟨ownsRow_below A.own hb,fun v hv=>ownsRow_below (A.inn v hv) hb,A.ap⟩
theorem AM.out {W:World} {base go n:Nat} {val:Nat -> Value} {pcs:Nat -> List P3} (A:AM W base go n val pcs) {v:Nat} (hv:v<n):W.cell? ⟨go,v,none⟩=some (val v):=by
 rw [World.ownsRow.cellAt A.own v (by omega)];simp [hv]
theorem AM.far {W:World} {base go n:Nat} {val:Nat -> Value} {pcs:Nat -> List P3} (A:AM W base go n val pcs) {v:Nat} (hv:v<n):(val v).ownBlock≠some go:=by
 rcases owns_apart (A.inn v hv) A.own (by decide) with e | e
 · rw [e];intro h;cases h
 · exact e
theorem rounds_unique {arcs:List Ac} {p:Ac -> Int} {back:Bool} {first x x' :List Int} {k k' :Nat} (R:RoundsIs arcs p back first x k) (R' :RoundsIs arcs p back first x' k'):x=x' /\ k=k':=by
 have e:k=k':=by
   rcases Nat.lt_trichotomy k k' with h | h | h
   · exact absurd (by have:=R.stop;rw [R.is] at this;exact this) (R'.on k h)
   · exact h
   · exact absurd (by have:=R'.stop;rw [R'.is] at this;exact this) (R.on k' h)
 subst e
 exact ⟨R.is.trans R'.is.symm,rfl⟩
theorem shot_snap {g:Gr} (R:Right g) (t:Int):Shot (aliveL t g.lives) (arcsL t g.lives g.edges):=by
 have key:∀a∈arcsL t g.lives g.edges,(alv (aliveL t g.lives) a.1=true /\ alv (aliveL t g.lives) a.2.1=true) /\ 0 <= a.2.2 /\ a.2.2 <= 1000:=by
   intro a ha
   unfold arcsL at ha
   rw [List.mem_flatMap] at ha
   obtain ⟨e,he,ha⟩:=ha
   have hend:=R.ends e he
   unfold arcOf at ha
   split at ha
   · simp at ha
   · rename_i l hl
     split at ha
     · rename_i hal
       simp only [List.mem_singleton] at ha
       subst ha
       rw [Bool.and_eq_true] at hal
       have hf:=(fitB_iff _ _).1 (R.legs e he l (lgFind_mem hl).1)
       refine ⟨⟨?_,?_⟩,by show 0 <= l.2.2.2;omega,by show l.2.2.2 <= 1000;omega⟩
       · unfold alv vtx
         rw [aliveL_length]
         have:=hal.1
         unfold aliveB at this
         simp only [this,Bool.and_true]
         simp;omega
       · unfold alv vtx
         rw [aliveL_length]
         have:=hal.2
         unfold aliveB at this
         simp only [this,Bool.and_true]
         simp;omega
     · simp at ha
 have h1:=R.lvs
 have h2:=R.eds
 have h3:=arcs_len t g.lives g.edges
 exact ⟨by rw [aliveL_length];omega,by omega,fun a ha=>(key a ha).1,fun a ha=>(key a ha).2⟩
def PlIs (g:Gr) (p:Nat) (fr:Int) (t:Nat) (x:List Int) (k:Nat):Prop:=RoundsIs (arcsL t g.lives g.edges) (pricZ p) (decide (p=3)) (firstL (aliveL t g.lives) (begF p fr)) x k
open Classical in
noncomputable def plF (g:Gr) (p:Nat) (fr:Int) (t:Nat):List Int×Nat:=if h:∃q:List Int×Nat,PlIs g p fr t q.1 q.2 then Classical.choose h else ([],0)
theorem plF_eq {g:Gr} {p:Nat} {fr:Int} {t:Nat} {x:List Int} {k:Nat} (h:PlIs g p fr t x k):plF g p fr t=(x,k):=by
 have hx:∃q:List Int×Nat,PlIs g p fr t q.1 q.2:=⟨(x,k),h⟩
 unfold plF
 rw [dif_pos hx]
 obtain ⟨e1,e2⟩:=rounds_unique (Classical.choose_spec hx) h
 exact Prod.ext e1 e2
def oneP (l:List P3) (t x:Int):List P3:=
 if x=1099511627776 then l
 else
   match l.getLast? with
   | none=>l++[(t,t+1,x)]
   | some q=>if q.2.1=t /\ q.2.2=x then l.dropLast++[(q.1,t+1,x)] else l++[(t,t+1,x)]
noncomputable def allP (g:Gr) (p:Nat) (fr:Int) (v:Nat):Nat -> List P3
 | 0=>[]
 | k+1=>oneP (allP g p fr v k) k ((plF g p fr k).1.getD v 0)
noncomputable def allR (g:Gr) (p:Nat) (fr:Int):Nat -> Int
 | 0=>0
 | k+1=>max (allR g p fr k) ((plF g p fr k).2:Int)
theorem oneP_skip {l:List P3} {t x:Int} (h:x=1099511627776):oneP l t x=l:=by unfold oneP;rw [if_pos h]
theorem oneP_nil {t x:Int} (h:x≠1099511627776):oneP [] t x=[]++[(t,t+1,x)]:=by unfold oneP;rw [if_neg h];rfl
theorem oneP_more {l:List P3} {f t x:Int} (h:x≠1099511627776):oneP (l++[(f,t,x)]) t x=l++[(f,t+1,x)]:=by unfold oneP;rw [if_neg h];simp
theorem oneP_new {l:List P3} {f t x t' x' :Int} (h:x≠1099511627776) (hn:¬(t' =t /\ x' =x)):oneP (l++[(f,t',x')]) t x=l++[(f,t',x')]++[(t,t+1,x)]:=by unfold oneP;rw [if_neg h];simp [hn]
theorem AM.base {W:World} {base base' go n:Nat} {val:Nat -> Value} {pcs:Nat -> List P3} (A:AM W base go n val pcs) (h:base' <= base):AM W base' go n val pcs:=⟨owns_base2 A.own h,fun v hv=>owns_base2 (A.inn v hv) h,A.ap⟩
theorem own_slice {W:World} {base e size n:Nat} {v:Value} {xs:List Value} (h:W.ownsRow base e size v n xs) (hn:0<n):∃b c,v= .slice (some ⟨b,0,none⟩) n c:=by
 rcases h.2 with ⟨_,h0⟩ | ⟨b,c,cur,e,_⟩
 · omega
 · exact ⟨b,c,e⟩
theorem Tryz.infoPcs:(Seq.prog.info? 41).map (fun i=>(i.zero,i.size,i.bytes))=some (some (.slice none 0 0),1,24):=by kernel_rfl
theorem am_start {w0:World} {base go n:Nat} (h:w0.ownsRow base 41 1 (.slice (some ⟨go,0,none⟩) n n) n (madeCells (Value.slice none 0 0).cells (n*1)).toList):AM w0 base go n (fun _=> .slice none 0 0) (fun _=>[]):=by
 have e1:(madeCells (Value.slice none 0 0).cells (n*1)).toList=(List.range n).map (fun _=>Value.slice none 0 0):=by
   rw [Nat.mul_one]
   show (madeCells #[Value.slice none 0 0] n).toList=_
   rw [toList_madeCells_one]
   simp [List.map_const']
 rw [e1] at h
 exact ⟨h,fun _ _=>World.ownsRow_nil _ _ _ _,fun _ _ _ _ _=> .inl rfl⟩
theorem Near_three (B:Nat) (x y z:Int) (w:World) (hB:B<w.heap.size) (c0:w.cell? ⟨B,0,none⟩=some (.int .i64 x)) (c1:w.cell? ⟨B,1,none⟩=some (.int .i64 y)) (c2:w.cell? ⟨B,2,none⟩=some (.int .i64 z)):
   Calls Seq.prog 86 #[.slice (some ⟨B,0,none⟩) 3 3] w fun e w' =>e= .returned (.bool (nrB x&&(nrB y&&nrB z))) /\ w' =w:=by
 have h:=Near_any (some ⟨B,0,none⟩) 3 [x,y,z] w (.inr ⟨B,0,rfl,hB,fun j hj=>by
   match j,hj with
   | 0,_=>exact c0
   | 1,_=>exact c1
   | 2,_=>exact c2⟩) (by simp)
 simpa using h
def nr3 (x y z:Int):Bool:=nrB x&&(nrB y&&nrB z)
theorem nr3_iff (p:Int×Int×Int):nr3 p.1 p.2.1 p.2.2=true↔NearP p:=by
 unfold nr3 NearP
 rw [Bool.and_eq_true,Bool.and_eq_true,nrB_iff,nrB_iff,nrB_iff]
theorem pnear_any (x y z:Int) (w:World):
   Calls Seq.prog 68 #[.agg #[.int .i64 x,.int .i64 y,.int .i64 z]] w fun e w' =>e= .returned (.bool (nr3 x y z)) /\ Below w.heap.size w w':=by
 go_enter Seq.func68,Tryz.ntmps68
 go_wp2_with fail
 refine (Near_three (w.heap.size+1) x y z _ (by simp) (by simp) (by simp) (by simp)).mono ?_
 rintro e w1 ⟨rfl,rfl⟩
 go_wp2
 go_ret
 exact ⟨rfl,ptw (pal _ _) (pal _ _)⟩
def inB (a b x:Int):Bool:=decide (a <= x)&&decide (x<b)
theorem phas_any (a b v t:Int) (w:World):
   Calls Seq.prog 35 #[.agg #[.int .i64 a,.int .i64 b,.int .i64 v],.int .i64 t] w fun e w' =>e= .returned (.bool (inB a b t)) /\ Below w.heap.size w w':=by
 have HB:Hid (∀o,Below w.heap.size w (w.alloc o)):=fun o=>pal w o
 by_cases g1:a <= t
 · by_cases g2:t<b
   · have HC:Hid (inB a b t=true):=by show _=_;unfold inB;simp [g1,g2]
     go_enter Seq.func35,Tryz.ntmps35
     go_wp2
     go_ret
     exact ⟨ret_bool HC.out.symm,HB.out _⟩
   · have HC:Hid (inB a b t=false):=by show _=_;unfold inB;simp [g2]
     go_enter Seq.func35,Tryz.ntmps35
     go_wp2
     go_ret
     exact ⟨ret_bool HC.out.symm,HB.out _⟩
 · have HC:Hid (inB a b t=false):=by show _=_;unfold inB;simp [g1]
   go_enter Seq.func35,Tryz.ntmps35
   go_wp2
   go_ret
   exact ⟨ret_bool HC.out.symm,HB.out _⟩
def flB (b v a' v' :Int):Bool:=decide (b<a')||(b==a' &&v !=v')
theorem follows_any (a b v a' b' v' :Int) (w:World):
   Calls Seq.prog 69 #[.agg #[.int .i64 a,.int .i64 b,.int .i64 v],.agg #[.int .i64 a',.int .i64 b',.int .i64 v']] w fun e w' =>e= .returned (.bool (flB b v a' v')) /\ Below w.heap.size w w':=by
 have HB:Hid (∀o o',Below w.heap.size w ((w.alloc o).alloc o')):=fun o o' =>ptw (pal w o) (pal _ o')
 by_cases g1:b<a'
 · have HC:Hid (flB b v a' v' =true):=by show _=_;unfold flB;simp [g1]
   go_enter Seq.func69,Tryz.ntmps69
   go_wp2
   go_ret
   exact ⟨ret_bool HC.out.symm,HB.out _ _⟩
 · by_cases g2:b=a'
   · by_cases g3:v=v'
     · have HC:Hid (flB b v a' v' =false):=by show _=_;unfold flB;simp [g2,g3]
       subst g2
       subst g3
       go_enter Seq.func69,Tryz.ntmps69
       go_wp2
       go_ret
       exact ⟨ret_bool (by first | (rw [HC.out];simp;done) | rw [HC.out]),HB.out _ _⟩
     · have HC:Hid (flB b v a' v' =true):=by show _=_;unfold flB;simp [g2,g3]
       have e3:(v !=v')=true:=by simp [g3]
       subst g2
       go_enter Seq.func69,Tryz.ntmps69
       go_wp2
       go_ret
       exact ⟨ret_bool (by first | (rw [HC.out];simp [e3];done) | rw [HC.out]),HB.out _ _⟩
   · have HC:Hid (flB b v a' v' =false):=by show _=_;unfold flB;simp [g1,g2]
     have e2:(b==a')=false:=by simp [g2]
     go_enter Seq.func69,Tryz.ntmps69
     go_wp2
     go_ret
     exact ⟨ret_bool (by rw [HC.out]),HB.out _ _⟩
theorem getD3 {m:List (Int×Int×Int)} {k:Nat} (h:k<m.length):m.getD k (0,0,0)=m[k]:=by simp [List.getD_eq_getElem?_getD,List.getElem?_eq_getElem h]
theorem PcAt.get {w:World} {b off:Nat} {m:List (Int×Int×Int)} {k:Nat} (hk:k<m.length) (hc:∀j,j<m.length -> w.cell? ⟨b,off+j*3,none⟩=some (.int .i64 (m.getD j (0,0,0)).1) /\ w.cell? ⟨b,off+j*3+1,none⟩=some (.int .i64 (m.getD j (0,0,0)).2.1) /\ w.cell? ⟨b,off+j*3+2,none⟩=some (.int .i64 (m.getD j (0,0,0)).2.2)):
   w.cell? ⟨b,off+k*3,none⟩=some (.int .i64 m[k].1) /\ w.cell? ⟨b,off+k*3+1,none⟩=some (.int .i64 m[k].2.1) /\ w.cell? ⟨b,off+k*3+2,none⟩=some (.int .i64 m[k].2.2):=by
 have:=hc k hk
 rwa [getD3 hk] at this
set_option maxHeartbeats 1000000 in
theorem PAt_any (ao:Option Addr) (cap:Nat) (m:List (Int×Int×Int)) (t:Int) (w:World) (hl:PcAt w ao m) (hn:m.length <= 9223372036854775807):
   Calls Seq.prog 11 #[.slice ao m.length cap,.int .i64 t] w fun e w' =>e= .returned (.tuple #[.int .i64 ((tel m t).getD 0),.bool (tel m t).isSome]) /\ Below w.heap.size w w':=by
 go_enter Seq.func11,Tryz.ntmps11
 go_wp2
 go_loopw [10] (fun i wr=>∃k:Nat,k <= m.length /\ i= .int .i64 k /\ tel (m.take k) t=none /\ Below w.heap.size w wr) (fun i _=>m.length-(intOf i).toNat)
 case atStart=>exact ⟨0,Nat.zero_le _,rfl,rfl,Below.refl _ _⟩
 case round=>
   obtain ⟨k,hk,rfl,hh,hb⟩:=hrel
   have HH:Hid (tel (m.take k) t=none):=hh
   clear hh
   by_cases hlt:k<m.length
   · rcases hl.below hb with h0 | ⟨b,off,rfl,hbw,hc⟩
     · subst h0;simp at hlt
     obtain ⟨c0,c1,c2⟩:=PcAt.get hlt hc
     have HB:Hid (Below w.heap.size w wr):=hb
     clear hc hl hb
     go_wp2_with fail
     refine (phas_any m[k].1 m[k].2.1 m[k].2.2 t _).mono ?_
     rintro e w1 ⟨rfl,hb1⟩
     have hb' :Below w.heap.size w w1:=ptw (ptw HB.out (pal _ _)) hb1
     have d2:=hb1.cell (p:=⟨wr.heap.size,2,none⟩) (by simp)
     have d2:w1.cell? ⟨wr.heap.size,2,none⟩=some (.int .i64 m[k].2.2):=d2.trans (by simp)
     clear hb1 c0 c1 c2
     cases hp:inP m[k] t with
     | true=>
       have e1:inB m[k].1 m[k].2.1 t=true:=hp
       have HC:Hid (tel m t=some m[k].2.2):=tel_take_yes hlt HH.out hp
       rw [e1]
       clear hp e1
       go_wp2
       go_ret2
       exact ⟨by rw [HC.out];rfl,hb'⟩
     | false=>
       have e1:inB m[k].1 m[k].2.1 t=false:=hp
       have HC:Hid (tel (m.take (k+1)) t=none):=tel_take_no hlt HH.out hp
       rw [e1]
       clear hp e1
       go_wp2
       go_roundw
       case rel=>exact ⟨k+1,by omega,by go_num,HC.out,hb'⟩
       case measure=>simp [intOf];omega
   · have hkl:k=m.length:=by omega
     subst hkl
     have HC:Hid (tel m t=none):=by have:=HH.out;rwa [List.take_length] at this
     go_wp2
     go_ret2
     exact ⟨by rw [HC.out];rfl,hb⟩
structure Kp (w wr w1:World) (b o:Nat) (p q:Int×Int×Int):Prop where
 k0:w1.cell? ⟨wr.heap.size,0,none⟩=some (.int .i64 p.1)
 k1:w1.cell? ⟨wr.heap.size,1,none⟩=some (.int .i64 p.2.1)
 k2:w1.cell? ⟨wr.heap.size,2,none⟩=some (.int .i64 p.2.2)
 q0:w1.cell? ⟨b,o,none⟩=some (.int .i64 q.1)
 q1:w1.cell? ⟨b,o+1,none⟩=some (.int .i64 q.2.1)
 q2:w1.cell? ⟨b,o+2,none⟩=some (.int .i64 q.2.2)
 bel:Below w.heap.size w w1
 sz:wr.heap.size+1 <= w1.heap.size
 lt:b<wr.heap.size
theorem kp_start {w wr w1:World} {b o:Nat} {p q:Int×Int×Int} {T:Nat} (hb:Below w.heap.size w wr) (hbw:b<wr.heap.size) (c0:wr.cell? ⟨b,o,none⟩=some (.int .i64 q.1)) (c1:wr.cell? ⟨b,o+1,none⟩=some (.int .i64 q.2.1)) (c2:wr.cell? ⟨b,o+2,none⟩=some (.int .i64 q.2.2))
   (h:Below (wr.alloc (.cells #[.int .i64 p.1,.int .i64 p.2.1,.int .i64 p.2.2] T)).heap.size (wr.alloc (.cells #[.int .i64 p.1,.int .i64 p.2.1,.int .i64 p.2.2] T)) w1):Kp w wr w1 b o p q:=by
 have hA:Below wr.heap.size wr w1:=ptw (pal _ _) h
 refine ⟨(h.cell (p:=⟨wr.heap.size,0,none⟩) (by simp)).trans (by simp),(h.cell (p:=⟨wr.heap.size,1,none⟩) (by simp)).trans (by simp),(h.cell (p:=⟨wr.heap.size,2,none⟩) (by simp)).trans (by simp),?_,?_,?_,ptw hb hA,by have:=h.size;simpa using this,hbw⟩
 · rw [hA.cell (p:=⟨b,o,none⟩) hbw];exact c0
 · rw [hA.cell (p:=⟨b,o+1,none⟩) hbw];exact c1
 · rw [hA.cell (p:=⟨b,o+2,none⟩) hbw];exact c2
def ext (out:List (Int×Int×Int)) (p:Int×Int×Int):List (Int×Int×Int):=
 match out.getLast? with
 | none=>out++[p]
 | some q=>if folB q p then out++[p] else out.dropLast++[(q.1,p.2.1,q.2.2)]
theorem ext_nil (p:Int×Int×Int):ext [] p=[]++[p]:=rfl
theorem ext_yes {o:List (Int×Int×Int)} {q p:Int×Int×Int} (h:folB q p=true):ext (o++[q]) p=o++[q]++[p]:=by unfold ext;simp [h]
theorem ext_no {o:List (Int×Int×Int)} {q p:Int×Int×Int} (h:folB q p=false):ext (o++[q]) p=o++[(q.1,p.2.1,q.2.2)]:=by unfold ext;simp [h]
set_option maxRecDepth 100000 in
set_option maxHeartbeats 4000000 in
theorem extend_any (base:Nat) (v:Value) (out:List (Int×Int×Int)) (p:Int×Int×Int) (w:World) (hown:w.ownsRow base 54 3 v out.length (enc3 out)) (hbase:base <= w.heap.size) (hlen:out.length <= 1000):
   Calls Seq.prog 71 #[v,.agg #[.int .i64 p.1,.int .i64 p.2.1,.int .i64 p.2.2]] w fun e w' =>∃v',e= .returned v' /\ w'.ownsRow base 54 3 v' (ext out p).length (enc3 (ext out p)) /\ Below base w w':=by
 obtain ⟨i0,hi,hz0,hz1,hz2⟩:=info_parts Tryz.infoPiece
 obtain ⟨vo,vc,hve,_⟩:=pcAt_of_owns hown
 rcases List.eq_nil_or_concat out with h0 | ⟨o,q,h0⟩
 · subst h0
   subst hve
   rw [ext_nil]
   simp only [List.length_nil] at hown
   go_enter Seq.func71,Tryz.ntmps71
   go_wp2
   go_quiet (fail)
   go_wp2_with (at_builtin;refine wpList_append_own _ rfl _ _ 41 rfl base 54 i0 (.agg #[.int .i64 0,.int .i64 0,.int .i64 0]) 3 24 ((Seq.pu 41).trans Tryz.underlying41) hi hz0 hz1 hz2 rfl (by decide) _ _ _ rfl (World.ownsRow.alloc (World.ownsRow.alloc (w:=w) hown _) _) ⟨w.heap.size+1,0,none⟩ 1 1 [.int .i64 p.1,.int .i64 p.2.1,.int .i64 p.2.2] rfl rfl ?c1 ?c2 ?c3 ?c4 ?c5 ?_)
   case c1=>exact cells_three_new _ _ _ _ _ _ (by simp)
   case c2=>intro u hu;simp at hu;rcases hu with rfl | rfl | rfl<;>rfl
   case c3=>unfold maxLen;omega
   case c4=>omega
   case c5=>simp;omega
   intro v' w1 hown' hgrow _
   have R:w1.ownsRow base 54 3 v' ([]++[p]).length (enc3 ([]++[p])):=by
     rw [enc3_append,List.length_append];exact hown'
   have hb' :Below base w w1:=((below_drewN ((Below.refl base w).alloc hbase _) _).alloc (by simp;omega) _).grown hgrow (by simp;omega) (fun j hj=>(hown.lt j hj).1)
   clear hown hown' hgrow
   go_wp2
   go_ret
   exact ⟨_,rfl,R,hb'⟩
 · rw [List.concat_eq_append] at h0
   have hom:out.length=o.length+1:=by rw [h0];simp
   have HO:Hid (out=o++[q]):=h0
   have fp:=flat3_getD out o.length (by omega)
   have hgp:out.getD o.length (0,0,0)=q:=by rw [h0];simp
   rw [hgp] at fp
   rcases hown.2 with ⟨_,h9⟩ | ⟨g,vc',cur,e9,hbs,hh,h1,h2,h4,h5⟩
   · omega
   have hown':=hown
   rw [e9,hom] at hown'
   have hgl:=hown'.lt g rfl
   have cq0:w.cell? ⟨g,o.length*3,none⟩=some (.int .i64 q.1):=by rw [hown'.cellAt (o.length*3) (by omega)];simp [enc3,fp.1]
   have cq1:w.cell? ⟨g,o.length*3+1,none⟩=some (.int .i64 q.2.1):=by rw [hown'.cellAt (o.length*3+1) (by omega)];simp [enc3,fp.2.1]
   have cq2:w.cell? ⟨g,o.length*3+2,none⟩=some (.int .i64 q.2.2):=by rw [hown'.cellAt (o.length*3+2) (by omega)];simp [enc3,fp.2.2]
   have HOM:Hid (out.length=o.length+1):=hom
   rw [e9,hom]
   rw [hom] at hlen
   have HOW:Hid (w.ownsRow base 54 3 (.slice (some ⟨g,0,none⟩) (o.length+1) vc') (o.length+1) (enc3 out)):=hown'
   have hfz:=fun W (h:Below w.heap.size w W)=>(ownsRow_below hown' h).frozenAt (o.length*3+1)
   have HFZ:Hid (∀W,Below w.heap.size w W -> W.frozen? ⟨g,o.length*3+1,none⟩=false):=hfz
   clear e9 h0 hgp fp hh h4 h5 hom hown hown' hve hfz h1 h2
   generalize hm:o.length=m at*
   have HM:Hid (o.length=m):=hm
   clear hm
   have hm1:(0:Int) <= (m:Int):=by omega
   have hm2:(m:Int)<(m:Int)+1:=by omega
   have HK:Hid (∀w1,Below (w.alloc (.cells #[.int .i64 p.1,.int .i64 p.2.1,.int .i64 p.2.2] 54)).heap.size (w.alloc (.cells #[.int .i64 p.1,.int .i64 p.2.1,.int .i64 p.2.2] 54)) w1 -> Kp w w w1 g (m*3) p q):=fun w1 h=>kp_start (Below.refl _ _) hgl.2 cq0 cq1 cq2 h
   have HFol:Hid (∀W,Calls Seq.prog 69 #[.agg #[.int .i64 q.1,.int .i64 q.2.1,.int .i64 q.2.2],.agg #[.int .i64 p.1,.int .i64 p.2.1,.int .i64 p.2.2]] W fun e w' =>e= .returned (.bool (folB q p)) /\ Below W.heap.size W w'):=fun W=>follows_any q.1 q.2.1 q.2.2 p.1 p.2.1 p.2.2 W
   cases hf:folB q p with
   | true=>
     have HE:Hid (ext out p=out++[p]):=by show _=_;rw [HO.out,ext_yes hf]
     rw [hf] at HFol
     clear hf
     go_enter Seq.func71,Tryz.ntmps71
     go_wp2_with fail
     generalize w.alloc (.cells #[.int .i64 p.1,.int .i64 p.2.1,.int .i64 p.2.2] 54)=W0 at HK ⊢
     have f0:∀s:HeldIn W0,s.w.cell? ⟨w.heap.size,0,none⟩=some (.int .i64 p.1):=fun s=>(HK.out _ s.h).k0
     have f1:∀s:HeldIn W0,s.w.cell? ⟨w.heap.size,1,none⟩=some (.int .i64 p.2.1):=fun s=>(HK.out _ s.h).k1
     have f2:∀s:HeldIn W0,s.w.cell? ⟨w.heap.size,2,none⟩=some (.int .i64 p.2.2):=fun s=>(HK.out _ s.h).k2
     have q0:∀s:HeldIn W0,s.w.cell? ⟨g,m*3,none⟩=some (.int .i64 q.1):=fun s=>(HK.out _ s.h).q0
     have q1:∀s:HeldIn W0,s.w.cell? ⟨g,m*3+1,none⟩=some (.int .i64 q.2.1):=fun s=>(HK.out _ s.h).q1
     have q2:∀s:HeldIn W0,s.w.cell? ⟨g,m*3+2,none⟩=some (.int .i64 q.2.2):=fun s=>(HK.out _ s.h).q2
     have hne:Nonempty (HeldIn W0):=⟨⟨W0,Below.refl _ _⟩⟩
     refine wp_region_held W0 (Below.refl _ _) (by kernel_rfl) (by kernel_rfl) ?_
     repeat (go_big_quiet_step ((go_at_call 69;exact held_of (HFol.out _))))
     refine wpQuiet_nil ?_
     rintro _ ⟨s,rfl⟩
     have KK:=HK.out _ s.h
     have hbs:=KK.bel
     have k0:=KK.k0
     have k1:=KK.k1
     have k2:=KK.k2
     generalize s.w=w1 at hbs k0 k1 k2 ⊢
     have hows:=ownsRow_below HOW.out hbs
     have hsz:=hbs.size
     clear f0 f1 f2 q0 q1 q2 KK hne cq0 cq1 cq2 HK HFol HFZ
     go_wp2_with (at_builtin;refine wpList_append_own _ rfl _ _ 41 rfl base 54 i0 (.agg #[.int .i64 0,.int .i64 0,.int .i64 0]) 3 24 ((Seq.pu 41).trans Tryz.underlying41) hi hz0 hz1 hz2 rfl (by decide) _ _ _ rfl (World.ownsRow.alloc (w:=w1) hows _) ⟨w1.heap.size,0,none⟩ 1 1 [.int .i64 p.1,.int .i64 p.2.1,.int .i64 p.2.2] rfl rfl ?c1 ?c2 ?c3 ?c4 ?c5 ?_)
     case c1=>exact cells_three_new _ _ _ _ _ _ (by simp)
     case c2=>intro u hu;simp at hu;rcases hu with rfl | rfl | rfl<;>rfl
     case c3=>unfold maxLen;omega
     case c4=>omega
     case c5=>simp;omega
     intro v' w2 hown2 hgrow _
     have R:w2.ownsRow base 54 3 v' (ext out p).length (enc3 (ext out p)):=by
       rw [HE.out,enc3_append,List.length_append,HOM.out];exact hown2
     have hb' :Below base w w2:=((hbs.mono hbase).alloc (by omega) _).grown hgrow (by simp;omega) (fun j hj=>(hows.lt j hj).1)
     clear hows hown2 hgrow
     go_wp2
     go_ret
     exact ⟨_,rfl,R,hb'⟩
   | false=>
     have HE:Hid (ext out p=o++[(q.1,p.2.1,q.2.2)]):=by show _=_;rw [HO.out,ext_no hf]
     rw [hf] at HFol
     clear hf
     go_enter Seq.func71,Tryz.ntmps71
     go_wp2_with fail
     generalize w.alloc (.cells #[.int .i64 p.1,.int .i64 p.2.1,.int .i64 p.2.2] 54)=W0 at HK ⊢
     have f0:∀s:HeldIn W0,s.w.cell? ⟨w.heap.size,0,none⟩=some (.int .i64 p.1):=fun s=>(HK.out _ s.h).k0
     have f1:∀s:HeldIn W0,s.w.cell? ⟨w.heap.size,1,none⟩=some (.int .i64 p.2.1):=fun s=>(HK.out _ s.h).k1
     have f2:∀s:HeldIn W0,s.w.cell? ⟨w.heap.size,2,none⟩=some (.int .i64 p.2.2):=fun s=>(HK.out _ s.h).k2
     have q0:∀s:HeldIn W0,s.w.cell? ⟨g,m*3,none⟩=some (.int .i64 q.1):=fun s=>(HK.out _ s.h).q0
     have q1:∀s:HeldIn W0,s.w.cell? ⟨g,m*3+1,none⟩=some (.int .i64 q.2.1):=fun s=>(HK.out _ s.h).q1
     have q2:∀s:HeldIn W0,s.w.cell? ⟨g,m*3+2,none⟩=some (.int .i64 q.2.2):=fun s=>(HK.out _ s.h).q2
     have hne:Nonempty (HeldIn W0):=⟨⟨W0,Below.refl _ _⟩⟩
     refine wp_region_held W0 (Below.refl _ _) (by kernel_rfl) (by kernel_rfl) ?_
     repeat (go_big_quiet_step ((go_at_call 69;exact held_of (HFol.out _))))
     refine wpQuiet_nil ?_
     rintro _ ⟨s,rfl⟩
     have KK:=HK.out _ s.h
     have hbs:=KK.bel
     have k1:=KK.k1
     have c1:=KK.q1
     generalize s.w=w1 at hbs k1 c1 ⊢
     have hows:=ownsRow_below HOW.out hbs
     have fz:=HFZ.out w1 hbs
     have hsz:=hbs.size
     have HR:Hid ((w1.setCell ⟨g,m*3+1,none⟩ (.int .i64 p.2.1)).ownsRow base 54 3 (.slice (some ⟨g,0,none⟩) (m+1) vc') (ext out p).length (enc3 (ext out p)) /\ Below base w (w1.setCell ⟨g,m*3+1,none⟩ (.int .i64 p.2.1))):=by
       have hst:=(hows.stored (m*3+1) (.int .i64 p.2.1)).1
       have he:(enc3 out).set (m*3+1) (.int .i64 p.2.1)=enc3 (o++[(q.1,p.2.1,q.2.2)]):=by
         rw [HO.out,enc3_append,enc3_append,List.set_append_right _ _ (by rw [enc3_length,HM.out];omega),enc3_length,HM.out,show m*3+1-m*3=1 by omega]
         rfl
       rw [he] at hst
       have hlen' :(o++[(q.1,p.2.1,q.2.2)]).length=m+1:=by simp [HM.out]
       rw [HE.out,hlen']
       exact ⟨hst,(hbs.mono hbase).setCell hgl.1 _⟩
     clear f0 f1 f2 q0 q1 q2 KK hne cq0 cq1 cq2 HK HFol hows
     go_wp2
     go_ret
     exact ⟨_,rfl,HR.out.1,HR.out.2⟩
def FitIs (out:List (Int×Int×Int)) (n:Int) (r:List (Int×Int×Int)):Prop:=
 (¬(∀q∈out,NearP q) /\ n=5 /\ r=[]) \/ ((∀q∈out,NearP q) /\ 200<out.length /\ n=2 /\ r=[]) \/ ((∀q∈out,NearP q) /\ out.length <= 200 /\ n=0 /\ r=out)
theorem near_take_succ {m:List (Int×Int×Int)} {k:Nat} (hk:k<m.length) (h:∀q∈m.take k,NearP q) (h1:NearP m[k]):∀q∈m.take (k+1),NearP q:=by
 intro q hq
 rw [take_succ_get m k hk,List.mem_append,List.mem_singleton] at hq
 rcases hq with hq | rfl
 · exact h q hq
 · exact h1
set_option maxRecDepth 100000 in
set_option maxHeartbeats 2000000 in
theorem fit_any (base:Nat) (v:Value) (out:List (Int×Int×Int)) (w:World) (hown:w.ownsRow base 54 3 v out.length (enc3 out)) (hlen:out.length <= 1000):
   Calls Seq.prog 72 #[v] w fun e w' =>∃n r v',FitIs out n r /\ e= .returned (.tuple #[v',.int .i64 n]) /\ w'.ownsRow base 54 3 v' r.length (enc3 r) /\ Below w.heap.size w w':=by
 obtain ⟨vo,vc,hve,hl⟩:=pcAt_of_owns hown
 subst hve
 have HOW:Hid (w.ownsRow base 54 3 (.slice vo out.length vc) out.length (enc3 out)):=hown
 have HNil:Hid (∀W:World,W.ownsRow base 54 3 (.slice none 0 0) ([]:List (Int×Int×Int)).length (enc3 [])):=fun W=>World.ownsRow_nil _ _ _ _
 clear hown
 go_enter Seq.func72,Tryz.ntmps72
 go_wp2
 go_loopw [8] (fun i wr=>∃k:Nat,k <= out.length /\ i= .int .i64 k /\ (∀q∈out.take k,NearP q) /\ Below w.heap.size w wr) (fun i _=>out.length-(intOf i).toNat)
 case atStart=>exact ⟨0,Nat.zero_le _,rfl,fun q hq=>by simp at hq,Below.refl _ _⟩
 case round=>
   obtain ⟨k,hk,rfl,hn,hb⟩:=hrel
   have HN:Hid (∀q∈out.take k,NearP q):=hn
   clear hn
   by_cases hlt:k<out.length
   · rcases hl.below hb with h0 | ⟨b,off,rfl,hbw,hc⟩
     · subst h0;simp at hlt
     obtain ⟨c0,c1,c2⟩:=PcAt.get hlt hc
     have hnr:=fun W=>pnear_any out[k].1 out[k].2.1 out[k].2.2 W
     have HB:Hid (∀o w1,Below (wr.alloc o).heap.size (wr.alloc o) w1 -> Below w.heap.size w w1):=fun o w1 h=>ptw (ptw hb (pal _ _)) h
     clear hc hl hb
     by_cases n1:NearP out[k]
     · have HS:Hid (∀q∈out.take (k+1),NearP q):=near_take_succ hlt HN.out n1
       rw [(nr3_iff _).2 n1] at hnr
       clear n1
       go_wp2_with fail
       refine (hnr _).mono ?_
       rintro e w1 ⟨rfl,hb1⟩
       have hb':=HB.out _ _ hb1
       clear hb1
       go_wp2
       go_roundw
       case rel=>exact ⟨k+1,by omega,by go_num,HS.out,hb'⟩
       case measure=>simp [intOf];omega
     · have HC:Hid (FitIs out 5 []):= .inl ⟨fun h=>n1 (h _ (List.getElem_mem hlt)),rfl,rfl⟩
       rw [show nr3 out[k].1 out[k].2.1 out[k].2.2=false from by rw [<- Bool.not_eq_true,nr3_iff];exact n1] at hnr
       clear n1
       go_wp2_with fail
       refine (hnr _).mono ?_
       rintro e w1 ⟨rfl,hb1⟩
       have hb':=HB.out _ _ hb1
       clear hb1
       go_wp2
       go_ret2
       exact ⟨_,_,_,HC.out,rfl,HNil.out _,hb'⟩
   · have hkl:k=out.length:=by omega
     have hall:∀q∈out,NearP q:=by have:=HN.out;rwa [hkl,List.take_length] at this
     have HA:Hid (∀q∈out,NearP q):=hall
     clear hall
     subst hkl
     by_cases h200:200<out.length
     · have HC:Hid (FitIs out 2 []):= .inr (.inl ⟨HA.out,h200,rfl,rfl⟩)
       go_wp2
       go_ret2
       exact ⟨_,_,_,HC.out,rfl,HNil.out _,hb⟩
     · have HC:Hid (FitIs out 0 out):= .inr (.inr ⟨HA.out,by omega,rfl,rfl⟩)
       have HR:Hid (wr.ownsRow base 54 3 (.slice vo out.length vc) out.length (enc3 out)):=ownsRow_below HOW.out hb
       go_wp2
       go_ret2
       exact ⟨_,_,_,HC.out,rfl,HR.out,hb⟩
theorem sortInts_any {w:World} {base e g cap:Nat} {A:List Int} (h:w.ownsRow base e 1 (.slice (some ⟨g,0,none⟩) A.length cap) A.length (A.map (Value.int .i64))) (hlen:A.length<4611686018427387904):
   Calls Seq.prog 88 #[.slice (some ⟨g,0,none⟩) A.length cap] w fun en w' =>en= .returned (.tuple #[]) /\ ∃Z:List Int,Z.Perm A /\ Z.Pairwise (· <= ·) /\ w'.ownsRow base e 1 (.slice (some ⟨g,0,none⟩) A.length cap) A.length (Z.map (Value.int .i64)) /\ w.grownBy w' (some g):=by
 have hg:=h.lt g rfl
 rcases h.2 with ⟨h0,_⟩ | ⟨g',cap',cur,hv,hbase,hh,h1,h2,h3,h4⟩
 · cases h0
 simp only [Value.slice.injEq,Option.some.injEq,Addr.mk.injEq,and_true,true_and] at hv
 obtain ⟨rfl,rfl⟩:=hv
 have hcon:=Any.slices_Sort_int Seq.sortInt g 0 cap A w (holds_of_blockI hh (by rw [Nat.mul_one] at h4;exact h4)) hg.2 hlen
 change Calls Seq.prog 88 _ _ _ at hcon
 refine hcon.mono ?_
 rintro en w' ⟨rfl,n,os,rfl⟩
 refine ⟨rfl,A.mergeSort fun x y=>decide (x <= y),List.mergeSort_perm _ _,?_,ownsRow_sortedI (by simp) hbase hh h1 h2 h3,grownBy_sortedI _⟩
 have:=List.pairwise_mergeSort (le:=fun x y:Int=>decide (x <= y)) (fun a b c h1 h2=>by simp only [decide_eq_true_eq] at *; omega) (fun a b=>by simp only [Bool.or_eq_true,decide_eq_true_eq];omega) A
 exact this.imp (fun h=>by simpa using h)
theorem toArray_get {Z:List Int} {m:Nat} (hm:m<Z.length):Z.toArray[m]! =Z[m]:=by simp [hm]
theorem compact_inv {Z:List Int} (hZ:Z.Pairwise (· <= ·)) (m:Nat) (hm:m <= Z.length):
   (Lib.compactUpTo Z.toArray m).Pairwise (·<·) /\ (∀x,x∈Lib.compactUpTo Z.toArray m↔x∈Z.take m) /\ (Lib.compactUpTo Z.toArray m).length <= m:=by
 induction m with
 | zero=>exact ⟨List.Pairwise.nil,fun x=>by simp [Lib.compactUpTo],Nat.le_refl _⟩
 | succ m ih=>
   obtain ⟨h1,h2,h3⟩:=ih (by omega)
   have hlt:m<Z.length:=by omega
   rw [Lib.compactUpTo_succ,toArray_get hlt]
   have hZ':=hZ
   rw [List.pairwise_iff_getElem] at hZ'
   by_cases hk:Lib.keeps Z.toArray m=true
   · rw [if_pos hk]
     refine ⟨?_,fun x=> ?_,by simp only [List.length_append,List.length_singleton];omega⟩
     · rw [List.pairwise_append]
       refine ⟨h1,List.pairwise_singleton _ _,fun a ha b hb=> ?_⟩
       simp only [List.mem_singleton] at hb
       subst hb
       obtain ⟨j,hj,e⟩:=mem_take_lt ((h2 a).1 ha)
       obtain ⟨hjl,e⟩:=List.getElem?_eq_some_iff.1 e
       subst e
       have hne:Z[m]≠Z[m- 1]:=by
         unfold Lib.keeps at hk
         simp only [decide_eq_true_eq] at hk
         rcases hk with hk | hk
         · omega
         · rwa [toArray_get hlt,toArray_get (by omega:m- 1<Z.length)] at hk
       have h4:=hZ' (m- 1) m (by omega) hlt (by omega)
       have h5:Z[j] <= Z[m- 1]:=by
         by_cases e:j=m- 1
         · subst e;exact Int.le_refl _
         · exact hZ' j (m- 1) hjl (by omega) (by omega)
       omega
     · rw [take_succ_get Z m hlt,List.mem_append,List.mem_append,h2 x]
   · rw [if_neg hk,List.append_nil]
     refine ⟨h1,fun x=> ?_,by omega⟩
     have h0:0<m:=by
       rcases Nat.eq_zero_or_pos m with e | e
       · subst e;exact absurd (Lib.keeps_lt_one _ 0 (by omega)) hk
       · exact e
     have he:Z[m]=Z[m- 1]:=by
       rcases Decidable.em (Z[m]=Z[m- 1]) with e | e
       · exact e
       · exact absurd (Lib.keeps_pos (by rw [toArray_get hlt,toArray_get (by omega:m- 1<Z.length)];exact e)) hk
     rw [take_succ_get Z m hlt,List.mem_append,h2 x]
     constructor
     · exact .inl
     · rintro (h | h)
       · exact h
       · simp only [List.mem_singleton] at h
         rw [h,he]
         have:(Z.take m)[m- 1]? =some Z[m- 1]:=by rw [List.getElem?_take_of_lt (by omega),List.getElem?_eq_getElem (by omega)]
         exact List.mem_of_getElem? this
theorem compact_len (Z:List Int):(Lib.compact Z).length <= Z.length:=by
 unfold Lib.compact Lib.compactUpTo
 rw [List.length_map]
 exact Nat.le_trans (List.length_filter_le _ _) (by simp)
theorem compact_ordered {A Z:List Int} (hp:Z.Perm A) (hZ:Z.Pairwise (· <= ·)):Ordered A (Lib.compact Z):=by
 obtain ⟨h1,h2,h3⟩:=compact_inv hZ Z.length (Nat.le_refl _)
 exact ⟨h1,fun x=>by rw [show Lib.compact Z=Lib.compactUpTo Z.toArray Z.length from rfl,h2 x,List.take_length];exact hp.mem_iff,by have:=hp.length_eq;unfold Lib.compact;omega⟩
theorem compact_any {w:World} {base e g cap n:Nat} {Z:List Int} (hn:Z.length=n) (h:w.ownsRow base e 1 (.slice (some ⟨g,0,none⟩) n cap) n (Z.map (Value.int .i64))) (hlen:n<4611686018427387904):
   Calls Seq.prog 89 #[.slice (some ⟨g,0,none⟩) n cap] w fun en w' =>en= .returned (.slice (some ⟨g,0,none⟩) (Lib.compact Z).length cap) /\ ZsAt w' (some ⟨g,0,none⟩) (Lib.compact Z) /\ w.grownBy w' (some g):=by
 subst hn
 rcases h.2 with ⟨h0,_⟩ | ⟨g',cap',cur,hv,hbase,hh,h1,h2,h3,h4⟩
 · cases h0
 simp only [Value.slice.injEq,Option.some.injEq,Addr.mk.injEq,and_true,true_and] at hv
 obtain ⟨rfl,rfl⟩:=hv
 have hcon:=Any.slices_Compact_int Seq.compInt g 0 cap Z w (holds_of_blockI hh (by rw [Nat.mul_one] at h4;exact h4)) (by omega) h1
 change Calls Seq.prog 89 _ _ _ at hcon
 refine hcon.mono ?_
 rintro en w' ⟨rfl,q,rfl⟩
 have hle:(Lib.compact Z).length <= Z.length:=compact_len Z
 have ho:=ownsRow_sortedI (n:=q) (os:=#[]) (ss:=Z) (ts:=Lib.compact Z++List.replicate (Z.length-(Lib.compact Z).length) 0) (by simp;omega) hbase hh h1 h2 h3
 have hgr:=grownBy_sortedI (w:=w) (g:=g) (n:=q) (os:=#[]) (Lib.compact Z++List.replicate (Z.length-(Lib.compact Z).length) 0).toArray
 rw [Sort.grow_empty] at ho hgr
 refine ⟨rfl,?_,hgr⟩
 by_cases h0:Lib.compact Z=[]
 · exact .inl h0
 refine .inr ⟨g,0,rfl,(ho.lt g rfl).2,fun j hj=> ?_⟩
 rw [Nat.zero_add,ho.cellAt j (by omega),List.getElem?_map,List.getElem?_append_left hj,List.getElem?_eq_getElem hj,List.getD_eq_getElem?_getD,List.getElem?_eq_getElem hj]
 rfl
theorem compact_nil (w:World):Calls Seq.prog 89 #[.slice none 0 0] w fun en w' =>en= .returned (.slice none 0 0) /\ w' =w:=by
 go_enter Seq.func89,Tryz.ntmps89
 go_wp2
 go_ret
 exact ⟨rfl,rfl⟩
theorem sort_nil (w:World):Calls Seq.prog 88 #[.slice none 0 0] w fun en w' =>en= .returned (.tuple #[]) /\ w' =w:=by
 have hcon:=Any.slices_Sort_int_none Seq.sortInt none 0 w
 change Calls Seq.prog 88 _ _ _ at hcon
 exact hcon
theorem hideS {p:Prop} (h:p):Hid p:=h
set_option maxRecDepth 100000 in
set_option maxHeartbeats 4000000 in
theorem clone1_any (ao:Option Addr) (cap:Nat) (A:List Int) (w:World) (hz:ZsAt w ao A) (h8:A.length <= 800):
   Calls Seq.prog 87 #[.slice ao A.length cap] w fun e w' =>∃v',e= .returned v' /\ w'.ownsRow w.heap.size 3 1 v' A.length (A.map (Value.int .i64)) /\ Below w.heap.size w w':=by
 obtain ⟨i0,hi,hz0,hz1,hz2⟩:=info_parts Tryz.infoInt
 have q22:∀(w:World) (a:Option Addr) (n c n' c' :Nat),(binOp .eql 37 (.slice a n c) (.slice none n' c')).run Seq.prog w= .ok (.bool a.isNone) w:=fun w a n c n' c' =>Lib.run_eql_slice_nil w _ _ a n c n' c' ((Seq.pu 37).trans Tryz.underlying37)
 cases ao with
 | none=>
   have h0:A=[]:=by
     rcases hz with h | ⟨b,off,e,_⟩
     · exact h
     · cases e
   subst h0
   clear hz
   go_enter Seq.func87,Tryz.ntmps87
   go_wp2
   go_ret
   exact ⟨_,rfl,World.ownsRow_nil _ _ _ _,Below.refl _ _⟩
 | some a=>
   have hc:∀o,∀j u,(A.map (Value.int .i64))[j]? =some u -> (w.alloc o).cell? (a.add j)=some u:=by
     intro o j u hu
     have hj:j<A.length:=by have:=(List.getElem?_eq_some_iff.1 hu).1;simpa using this
     rcases hz.below (pal w o) with h | ⟨b,off,e,_,hc⟩
     · rw [h] at hj;simp at hj
     · simp only [Option.some.injEq] at e
       subst e
       rw [Go.WideShapes.add_plain,hc j hj]
       rw [List.getElem?_map,List.getElem?_eq_getElem hj] at hu
       simp only [Option.map_some,Option.some.injEq] at hu
       rw [<- hu,List.getD_eq_getElem?_getD,List.getElem?_eq_getElem hj]
       rfl
   have HC:=hideS hc
   have HONE:Hid (∀u∈A.map (Value.int .i64),u.oneCell' =true):=by intro u hu;rw [List.mem_map] at hu;obtain ⟨z,_,rfl⟩:=hu;rfl
   have HEL:Hid ((A.map (Value.int .i64)).length=A.length*1):=by show _=_;simp
   clear hc hz
   go_enter Seq.func87,Tryz.ntmps87
   go_wp2_with (at_builtin;refine wpList_append_own _ rfl _ _ 37 rfl w.heap.size 3 i0 (.int .i64 0) 1 8 ((Seq.pu 37).trans Tryz.underlying37) hi hz0 hz1 hz2 rfl (by decide) _ _ _ rfl (World.ownsRow_made w #[] 0 (Nat.le_refl _) (Nat.zero_le _) rfl) a A.length cap (A.map (Value.int .i64)) rfl HEL.out (HC.out _) HONE.out (by unfold maxLen;omega) (by omega) (by simp) ?_;intro v' w1 hown hgrow hnil)
   have hb:Below w.heap.size w w1:=((Below.refl _ w).alloc (Nat.le_refl _) _).grown hgrow (by simp) (fun k hk=>by cases hk;exact Nat.le_refl _)
   have R:w1.ownsRow w.heap.size 3 1 v' A.length (A.map (Value.int .i64)):=by simpa using hown
   clear hown hgrow hnil
   go_wp2
   go_ret
   exact ⟨v',rfl,R,hb⟩
def spn (S:List Int) (j:Nat):List (Int×Int):=(List.range j).map fun i=>(S.getD i 0,S.getD (i+1) 0)
theorem spn_length (S:List Int) (j:Nat):(spn S j).length=j:=by simp [spn]
theorem spn_get (S:List Int) (j k:Nat) (h:k<j) (hS:k+1<S.length):(spn S j).getD k (0,0)=(S[k],S[k+1]):=by
 simp [spn,List.getD_eq_getElem?_getD,h,hS,show k<S.length by omega]
theorem encs_spn (S:List Int) (j:Nat) (h:j+1<S.length):encs (spn S (j+1))=encs (spn S j)++[.int .i64 S[j],.int .i64 S[j+1]]:=by
 unfold spn
 rw [List.range_succ,List.map_append]
 unfold encs flat
 rw [List.flatMap_append,List.map_append]
 simp [List.getD_eq_getElem?_getD,h,show j<S.length by omega]
set_option maxRecDepth 100000 in
set_option maxHeartbeats 4000000 in
theorem spans_any (ao:Option Addr) (ca:Nat) (A:List Int) (w:World) (hz:ZsAt w ao A) (h8:A.length <= 800):
   Calls Seq.prog 70 #[.slice ao A.length ca] w fun e w' =>∃S v,e= .returned v /\ Ordered A S /\ w'.ownsRow w.heap.size 95 2 v (S.length- 1) (encs (spn S (S.length- 1))) /\ Below w.heap.size w w':=by
 obtain ⟨i0,hi,hz0,hz1,hz2⟩:=info_parts Tryz.infoIvl
 have hcl:=clone1_any ao ca A w hz h8
 clear hz
 go_enter Seq.func70,Tryz.ntmps70
 go_wp2_with fail
 refine hcl.mono ?_
 rintro e w0 ⟨v0,rfl,hown0,hb0⟩
 clear hcl
 have hcase:=hown0.2
 rcases hcase with ⟨rfl,h0⟩ | ⟨g,cap,cur,rfl,_⟩
 · have hA:A=[]:=List.eq_nil_of_length_eq_zero h0
   have hs:=fun W=>sort_nil W
   have hk:=fun W=>compact_nil W
   have HO:Hid (Ordered A []):=by rw [hA];exact ⟨List.Pairwise.nil,fun x=>Iff.rfl,Nat.le_refl _⟩
   clear hown0 h0 hA
   go_wp2_with (first | (go_at_call 88;refine (hs _).mono ?_;rintro e w' ⟨rfl,rfl⟩) | (go_at_call 89;refine (hk _).mono ?_;rintro e w' ⟨rfl,rfl⟩))
   refine wp_loop_rounds 1 ?_
   rw [rounds_succ]
   go_wp2
   go_ret
   exact ⟨[],_,rfl,HO.out,World.ownsRow_nil _ _ _ _,by assumption⟩
 · have hgW:=(hown0.lt g rfl).1
   have hsort:=sortInts_any hown0 (by omega)
   clear hown0
   go_wp2_with fail
   refine hsort.mono ?_
   rintro e w1 ⟨rfl,Z,hpZ,hZ,hown1,hg1⟩
   have hb1:Below w.heap.size w w1:=hb0.grown hg1 hb0.size (fun k hk=>by cases hk;exact hgW)
   have hcomp:=compact_any hpZ.length_eq hown1 (by omega)
   have HO:Hid (Ordered A (Lib.compact Z)):=compact_ordered hpZ hZ
   clear hpZ hZ hown1 hg1 hsort hb0
   generalize Lib.compact Z=S at HO hcomp
   have hSl:S.length <= 800:=Nat.le_trans HO.out.len h8
   go_wp2_with fail
   refine hcomp.mono ?_
   rintro e w2 ⟨rfl,hz2',hg2⟩
   have hb2:Below w.heap.size w w2:=hb1.grown hg2 hb1.size (fun k hk=>by cases hk;exact hgW)
   clear hg2 hb1 hcomp
   go_wp2_with fail
   go_loopw [4,5] (fun v vi wr=>∃(j:Nat),vi= .int .i64 ((j:Int)+1) /\ (j=0 \/ j+1 <= S.length) /\ wr.ownsRow w2.heap.size 95 2 v j (encs (spn S j)) /\ Below w2.heap.size w2 wr) (fun _ vi _=>S.length+1-(intOf vi).toNat)
   case atStart=>exact ⟨0,rfl,.inl rfl,World.ownsRow_nil _ _ _ _,Below.refl _ _⟩
   case round=>
     obtain ⟨j,rfl,hil,hown,hb⟩:=hrel
     have hj8:j <= 800:=by omega
     have hsz:=hb.size
     by_cases hlt:j+1<S.length
     · rcases hz2' with h0 | ⟨b,off,e0,hbw,hc⟩
       · subst h0;simp at hlt
       simp only [Option.some.injEq,Addr.mk.injEq,and_true] at e0
       obtain ⟨rfl,rfl⟩:=e0
       have c0:wr.cell? ⟨g,j,none⟩=some (.int .i64 S[j]):=by
         have:=hc j (by omega)
         rw [Nat.zero_add] at this
         rw [hb.cell (p:=⟨g,j,none⟩) hbw,this,List.getD_eq_getElem?_getD,List.getElem?_eq_getElem (by omega)];rfl
       have c1:wr.cell? ⟨g,j+1,none⟩=some (.int .i64 S[j+1]):=by
         have:=hc (j+1) (by omega)
         rw [Nat.zero_add] at this
         rw [hb.cell (p:=⟨g,j+1,none⟩) hbw,this,List.getD_eq_getElem?_getD,List.getElem?_eq_getElem (by omega)];rfl
       have HE:=hideS (encs_spn S j hlt)
       have hne:some g≠u4.ownBlock:=fun h=>by have:=(hown.lt g h.symm).1;omega
       have hbr:g<wr.heap.size:=by omega
       have hi1:(j:Int)+1<(S.length:Int):=by omega
       have hi2:(j:Int)<(S.length:Int):=by omega
       have hi3:(0:Int) <= (j:Int):=by omega
       have hi4:(0:Int) <= (j:Int)+1:=by omega
       have hw1:IntKind.i64.wrap ((j:Int)+1- 1)=(j:Int):=by rw [Int.add_sub_cancel];exact wrap_small _ (by omega) (by omega)
       have hw2:IntKind.i64.wrap (j:Int)=(j:Int):=wrap_small _ (by omega) (by omega)
       have HB:Hid (∀(o:Obj) (w1:World),((wr.alloc o).drew).grownBy w1 u4.ownBlock -> Below w2.heap.size w2 w1):=fun o w1 hgr=>((hb.alloc hsz o).drew).grown hgr (by simp;omega) (fun j hj=>(hown.lt j hj).1)
       clear hc
       go_wp2
       go_region_held3 (fun w' => w'.cell? ⟨g, j, none⟩ = some (.int .i64 S[j]) /\ w'.cell? ⟨g, j + 1, none⟩ = some (.int .i64 S[j + 1]))
         (first
           | go_keep
           | (go_split_ands
              refine ⟨?_,?_⟩
              · (rw [hgrow.cell_far _ (by simp;omega) hne];assumption)
              · (rw [hgrow.cell_far _ (by simp;omega) hne];assumption)))
         ((refine step_append_lies _ (by rfl) _ _ _ (by rfl) w2.heap.size 95 i0 _ 2 16 ((Seq.pu 22).trans Tryz.underlying22) hi hz0 hz1 hz2 rfl (by omega) u4 j (encs (spn S j)) (by rfl) ((hown.alloc _).drew) ⟨wr.heap.size,0,none⟩ 1 1 [.int .i64 S[j],.int .i64 S[j+1]] (by rfl) (by rfl) (World.news_of_block (cs:=#[.int .i64 S[j],.int .i64 S[j+1]]) (t:=95) (fr:=(0,0)) (heap_alloc_new wr _)) (by simp [Value.oneCell']) (by omega) (by unfold maxLen;omega) (by omega) (by simp;omega) (wr.heap.size+1) (by simp) ?_;intro gg cap1 w3 hown1 hgrow hat hltg))
       have hb':=HB.out _ _ hgrow
       rw [<- HE.out] at hown1
       clear hgrow hown hat hltg hne
       go_wp2
       go_roundw
       case rel=>exact ⟨j+1,by go_num,.inr (by omega),hown1,hb'⟩
       case measure=>simp [intOf];omega
     · have hil' :j=S.length- 1:=by omega
       have HR:Hid (wr.ownsRow w.heap.size 95 2 u4 (S.length- 1) (encs (spn S (S.length- 1)))):=by
         show World.ownsRow _ _ _ _ _ _ _
         rw [<- hil'];exact owns_base2 hown hb2.size
       have hbb:=ptw hb2 hb
       have hi1:¬((j:Int)+1<(S.length:Int)):=by omega
       clear hown hil' hz2'
       go_wp2
       go_ret
       exact ⟨S,_,rfl,HO.out,HR.out,hbb⟩
theorem tl_ext {S:List Int} {f:Int -> Option Int} {i:Nat} {y:Int} {out:List (Int×Int×Int)} (hi:i+1<S.length) (hS:S.Pairwise (·<·)) (T:Tl S f i out) (hp:f S[i]=some y):Tl S f (i+1) (ext out (S[i],S[i+1],y)):=by
 rcases List.eq_nil_or_concat out with h0 | ⟨o,q,h0⟩
 · subst h0
   exact tl_put hi hS T hp (fun q h=>by simp at h)
 · rw [List.concat_eq_append] at h0
   subst h0
   have hle:=tl_last_le hi hS T (q:=q) (by simp)
   cases hf:folB q (S[i],S[i+1],y) with
   | true=>
     rw [ext_yes hf]
     exact tl_put hi hS T hp (fun r h=>by simp at h;subst h;exact (folB_iff _ _).1 hf)
   | false=>
     rw [ext_no hf]
     have hn:¬Fol q (S[i],S[i+1],y):=by rw [<- folB_iff,hf];decide
     unfold Fol at hn
     simp only [not_or,not_and,Decidable.not_not] at hn
     have h1:q.2.1=S[i]:=by omega
     exact tl_more hi hS T hp h1 (hn.2 h1)
theorem ownsRow_base {w:World} {base base' e size:Nat} {v:Value} {n:Nat} {xs:List Value} (h:w.ownsRow base e size v n xs) (hb:base' <= base):w.ownsRow base' e size v n xs:=
 ⟨h.1,h.2.imp id (fun ⟨g,c,cur,h1,h2,h3⟩=>⟨g,c,cur,h1,Nat.le_trans hb h2,h3⟩)⟩
set_option maxRecDepth 100000 in
set_option maxHeartbeats 4000000 in
theorem build_in (g:Nat) (caps:Array Value) (f:Int -> Option Int) (eg:∀args w,(callFunc g args).run Seq.prog w= .ok (.enter g args) w) (W1 w:World) (hW:Below W1.heap.size W1 w) (A:List Int)
   (hp:∀t,t∈A -> (∃u∈A,t<u) -> ∀wq,Below W1.heap.size W1 wq -> Calls Seq.prog g (#[.int .i64 t]++caps) wq fun e w' =>(∃x,e= .returned (.tuple #[.int .i64 x,.bool (f t).isSome]) /\ ∀y,f t=some y -> x=y) /\ Below wq.heap.size wq w')
   (ao:Option Addr) (ca:Nat) (hz:ZsAt w ao A) (h8:A.length <= 800):
   Calls Seq.prog 42 #[.slice ao A.length ca,.func (.func g) #[] caps] w fun e w' =>∃n r v',MapIs A f n r /\ e= .returned (.tuple #[v',.int .i64 n]) /\ w'.ownsRow W1.heap.size 54 3 v' r.length (enc3 r) /\ Below W1.heap.size W1 w':=by
 have HP:Hid (∀t,t∈A -> (∃u∈A,t<u) -> ∀wq,Below W1.heap.size W1 wq -> Calls Seq.prog g (#[.int .i64 t]++caps) wq fun e w' =>(∃x,e= .returned (.tuple #[.int .i64 x,.bool (f t).isSome]) /\ ∀y,f t=some y -> x=y) /\ Below wq.heap.size wq w'):=hp
 have hsp:=spans_any ao ca A w hz h8
 clear hp hz
 go_enter Seq.func42,Tryz.ntmps42
 go_wp2_with fail
 refine hsp.mono ?_
 rintro e w2 ⟨S,v0,rfl,hO,hown0,hb0⟩
 have HO:Hid (Ordered A S):=hO
 have hSl:S.length <= 800:=Nat.le_trans hO.len h8
 have hb2:Below W1.heap.size W1 w2:=ptw hW hb0
 obtain ⟨N,hN⟩:∃N,N=S.length- 1:=⟨_,rfl⟩
 rw [<- hN] at hown0
 have HN:Hid (N=S.length- 1):=hN
 have hN8:N <= 800:=by omega
 have hown1:w2.ownsRow w.heap.size 95 2 v0 (spn S N).length (encs (spn S N)):=by rw [spn_length];exact hown0
 obtain ⟨so,sc,hv0,hivs⟩:=ivAt_of_owns hown1
 rw [spn_length] at hv0
 subst hv0
 have HIV:Hid (IvAt w2 so (spn S N)):=hivs
 clear hO hsp hW hb0 hown0 hown1 hivs hN
 go_wp2_with fail
 go_loopw [6,9,10,14] (fun v _ _ vi wr=>∃(j:Nat) (out:List (Int×Int×Int)),vi= .int .i64 j /\ j <= N /\ Tl S f j out /\ wr.ownsRow w2.heap.size 54 3 v out.length (enc3 out) /\ Below w2.heap.size w2 wr) (fun _ _ _ vi _=>N-(intOf vi).toNat)
 case atStart=>exact ⟨0,[],rfl,Nat.zero_le _,tl_start S f,World.ownsRow_nil _ _ _ _,Below.refl _ _⟩
 case round=>
   obtain ⟨j,out,rfl,hjN,hT,hown,hb⟩:=hrel
   have HT:Hid (Tl S f j out):=hT
   have hol:=hT.len
   clear hT
   have hbb:Below W1.heap.size W1 wr:=hb2.trans (hb.mono hb2.size)
   by_cases hlt:j<N
   · have hjS:j+1<S.length:=by have:=HN.out;omega
     rcases HIV.out.below hb with h0 | ⟨b,off,rfl,hbw,hc⟩
     · have:=spn_length S N;rw [h0] at this;simp at this;omega
     have hcj:=hc j (by rw [spn_length];exact hlt)
     rw [spn_get S N j hlt hjS] at hcj
     obtain ⟨c0,c1⟩:=hcj
     simp only at c0 c1
     have hsz:=hb.size
     have HB0:Hid (∀o,Below wr.heap.size wr (wr.alloc o)):=fun o=>pal wr o
     have hcl:=HP.out S[j] ((HO.out.mem _).1 (List.getElem_mem _)) ⟨S[j+1],(HO.out.mem _).1 (List.getElem_mem hjS),List.pairwise_iff_getElem.1 HO.out.inc j (j+1) (by omega) hjS (by omega)⟩ (wr.alloc (.cells #[.int .i64 S[j],.int .i64 S[j+1]] 95)) (ptw hbb (pal _ _))
     have HOW:Hid (∀W,Below wr.heap.size wr W -> W.ownsRow w2.heap.size 54 3 u6 out.length (enc3 out) /\ Below w2.heap.size w2 W):=fun W h=>⟨ownsRow_below hown h,hb.trans (h.mono hb.size)⟩
     clear hc hown hb HIV
     cases hfj:f S[j] with
     | none=>
       rw [hfj] at hcl
       simp only [Option.isSome_none] at hcl
       have HT' :Hid (Tl S f (j+1) out):=tl_skip hjS HT.out hfj
       clear hfj
       go_wp2_with (go_at_fn g;refine hcl.mono ?_;rintro e w3 ⟨⟨x,rfl,_⟩,hb3⟩)
       have F:=HOW.out w3 (ptw (HB0.out _) hb3)
       go_roundw
       case rel=>exact ⟨j+1,out,by go_num,by omega,HT'.out,F.1,F.2⟩
       case measure=>simp [intOf];omega
     | some y=>
       rw [hfj] at hcl
       simp only [Option.isSome_some] at hcl
       have HT' :Hid (Tl S f (j+1) (ext out (S[j],S[j+1],y))):=tl_ext hjS HO.out.inc HT.out hfj
       have HX:Hid (∀W,Below wr.heap.size wr W -> Calls Seq.prog 71 #[u6,.agg #[.int .i64 S[j],.int .i64 S[j+1],.int .i64 y]] W fun e w' =>∃v',e= .returned v' /\ w'.ownsRow w2.heap.size 54 3 v' (ext out (S[j],S[j+1],y)).length (enc3 (ext out (S[j],S[j+1],y))) /\ Below w2.heap.size w2 w'):=by
         intro W h
         obtain ⟨o1,o2⟩:=HOW.out W h
         refine (extend_any w2.heap.size u6 out (S[j],S[j+1],y) W o1 o2.size (by omega)).mono ?_
         rintro e w' ⟨v',rfl,a1,a2⟩
         exact ⟨v',rfl,a1,o2.trans a2⟩
       clear hfj
       go_wp2_with fail
       go_at_fn g
       refine hcl.mono ?_
       rintro e w3 ⟨⟨x,rfl,hx⟩,hb3⟩
       have hxy:=hx y rfl
       subst hxy
       have hb3':=ptw (HB0.out _) hb3
       have HX3:=HX.out w3 hb3'
       have d0:w3.cell? ⟨wr.heap.size,0,none⟩=some (.int .i64 S[j]):=by rw [hb3.cell (p:=⟨wr.heap.size,0,none⟩) (by simp)];simp
       have d1:w3.cell? ⟨wr.heap.size,1,none⟩=some (.int .i64 S[j+1]):=by rw [hb3.cell (p:=⟨wr.heap.size,1,none⟩) (by simp)];simp
       clear hx hcl hb3 HOW
       go_wp2_with (go_at_call 71;refine HX3.mono ?_;rintro e w4 ⟨v4,rfl,hown4,hb4⟩)
       go_roundw
       case rel=>exact ⟨j+1,_,by go_num,by omega,HT'.out,hown4,hb4⟩
       case measure=>simp [intOf];omega
   · have hjn:j=N:=by omega
     have hfit:=fit_any w2.heap.size u6 out wr hown (by omega)
     have HM:Hid (∀n r,FitIs out n r -> MapIs A f n r):=by
       intro n r h
       have:=HT.out
       rw [hjn,HN.out] at this
       exact ⟨S,out,HO.out,this,h⟩
     have hsz2:=hb2.size
     subst hjn
     clear hown HIV
     go_wp2_with fail
     refine hfit.mono ?_
     rintro e w5 ⟨n,r,v5,hF,rfl,hown5,hb5⟩
     have HF:=HM.out n r hF
     have HF' :Hid (MapIs A f n r):=HF
     have hbF:Below W1.heap.size W1 w5:=ptw hbb hb5
     have R:=ownsRow_base hown5 hsz2
     clear hF HF hown5 hfit
     go_wp2
     go_ret2
     exact ⟨n,r,v5,HF'.out,rfl,R,hbF⟩
theorem build_any (g:Nat) (caps:Array Value) (f:Int -> Option Int) (eg:∀args w,(callFunc g args).run Seq.prog w= .ok (.enter g args) w) (W1 w:World) (hW:Below W1.heap.size W1 w)
   (hp:∀t wq,Below W1.heap.size W1 wq -> Calls Seq.prog g (#[.int .i64 t]++caps) wq fun e w' =>(∃x,e= .returned (.tuple #[.int .i64 x,.bool (f t).isSome]) /\ ∀y,f t=some y -> x=y) /\ Below wq.heap.size wq w')
   (ao:Option Addr) (ca:Nat) (A:List Int) (hz:ZsAt w ao A) (h8:A.length <= 800):
   Calls Seq.prog 42 #[.slice ao A.length ca,.func (.func g) #[] caps] w fun e w' =>∃n r v',MapIs A f n r /\ e= .returned (.tuple #[v',.int .i64 n]) /\ w'.ownsRow W1.heap.size 54 3 v' r.length (enc3 r) /\ Below W1.heap.size W1 w':=
 build_in g caps f eg W1 w hW A (fun t _ _=>hp t) ao ca hz h8
theorem build_own (g:Nat) (caps:Array Value) (f:Int -> Option Int) (eg:∀args w,(callFunc g args).run Seq.prog w= .ok (.enter g args) w) (W1 w:World) (hW:Below W1.heap.size W1 w)
   (hp:∀t wq,Below W1.heap.size W1 wq -> Calls Seq.prog g (#[.int .i64 t]++caps) wq fun e w' =>(∃x,e= .returned (.tuple #[.int .i64 x,.bool (f t).isSome]) /\ ∀y,f t=some y -> x=y) /\ Below wq.heap.size wq w')
   (gb ca:Nat) (A:List Int) (hown:w.ownsRow W1.heap.size 3 1 (.slice (some ⟨gb,0,none⟩) A.length ca) A.length (A.map (Value.int .i64))) (h8:A.length <= 800):
   Calls Seq.prog 42 #[.slice (some ⟨gb,0,none⟩) A.length ca,.func (.func g) #[] caps] w fun e w' =>∃n r v',MapIs A f n r /\ e= .returned (.tuple #[v',.int .i64 n]) /\ w'.ownsRow W1.heap.size 54 3 v' r.length (enc3 r) /\ Below W1.heap.size W1 w':=by
 obtain ⟨ao,cap,he,hz⟩:=zsAt_of_owns hown
 simp only [Value.slice.injEq,true_and] at he
 obtain ⟨rfl,rfl⟩:=he
 exact build_any g caps f eg W1 w hW hp _ _ A hz h8
set_option maxHeartbeats 1000000 in
theorem pbounds_any (ao:Option Addr) (cap:Nat) (m:List (Int×Int×Int)) (w:World) (hl:PcAt w ao m) (h3:m.length <= 200):
   Calls Seq.prog 43 #[.slice ao m.length cap] w fun e w' =>∃g,e= .returned (.slice (some ⟨g,0,none⟩) (2*m.length) (2*m.length)) /\ w'.ownsRow w.heap.size 3 1 (.slice (some ⟨g,0,none⟩) (2*m.length) (2*m.length)) (2*m.length) ((turnsOf m).map (Value.int .i64)) /\ Below w.heap.size w w':=by
 obtain ⟨i0,hi,hz0,hz1,hz2⟩:=info_parts Tryz.infoInt
 go_enter Seq.func43,Tryz.ntmps43
 go_wp2_with (at_make;refine wpList_make_own _ rfl _ _ 37 rfl w.heap.size 3 i0 (.int .i64 0) 1 ((Seq.pu 37).trans Tryz.underlying37) hi hz0 hz1 .i64 .i64 _ (2*m.length) rfl rfl (by omega) (by rw [hz2];omega) (by unfold maxLen;omega) (Nat.le_refl _) ?_;intro w0 hown0 hgrow0)
 go_loopw [3,12] (fun v i wr=>∃k:Nat,k <= m.length /\ i= .int .i64 k /\ v= .slice (some ⟨w.heap.size,0,none⟩) (2*k) (2*m.length) /\ wr.ownsRow w.heap.size 3 1 (.slice (some ⟨w.heap.size,0,none⟩) (2*k) (2*m.length)) (2*k) ((turnsOf (m.take k)).map (Value.int .i64)) /\ Below w.heap.size w wr) (fun _ i _=>m.length-(intOf i).toNat)
 case atStart=>exact ⟨0,Nat.zero_le _,rfl,rfl,by assumption,(Below.refl _ _).grown (by assumption) (Nat.le_refl _) (fun k hk=>by cases hk)⟩
 case round=>
   obtain ⟨k,hk,rfl,rfl,hown,hb⟩:=hrel
   by_cases hlt:k<m.length
   · rcases hl.below hb with h0 | ⟨b,off,rfl,hbw,hc⟩
     · subst h0;simp at hlt
     obtain ⟨c0,c1,c2⟩:=PcAt.get hlt hc
     clear hc hl
     have hsz:=hb.size
     go_wp2_with (at_builtin;refine wpList_append_fits _ rfl _ _ 37 rfl w.heap.size 3 i0 1 ((Seq.pu 37).trans Tryz.underlying37) hi hz1 w.heap.size (2*k) (2*m.length) _ rfl ((hown.alloc _).alloc _) ⟨wr.heap.size+1,0,none⟩ 2 2 [.int .i64 m[k].1,.int .i64 m[k].2.1] rfl rfl ?c1 ?c2 ?c3 ?_)
     case c1=>exact cells_two_new _ _ _ _ _ (by simp)
     case c2=>intro u hu;simp at hu;rcases hu with rfl | rfl<;>rfl
     case c3=>omega
     intro w1 hown' hgrow
     have R:w1.ownsRow w.heap.size 3 1 (.slice (some ⟨w.heap.size,0,none⟩) (2*(k+1)) (2*m.length)) (2*(k+1)) ((turnsOf (m.take (k+1))).map (Value.int .i64)):=by
       rw [turnsOf_succ m k hlt,List.map_append];exact hown'
     have hb' :Below w.heap.size w w1:=((hb.alloc hsz _).alloc (by simp;omega) _).grown hgrow (by simp;omega) (fun j hj=>(hown.lt j hj).1)
     clear hown hown' hgrow
     go_wp2
     go_roundw
     case rel=>exact ⟨k+1,by omega,by go_num,rfl,R,hb'⟩
     case measure=>simp [intOf];omega
   · have hkl:k=m.length:=by omega
     subst hkl
     rw [List.take_length] at hown
     go_wp2
     go_ret
     exact ⟨_,rfl,hown,hb⟩
set_option maxRecDepth 100000 in
set_option maxHeartbeats 4000000 in
theorem PCheck_any (ao:Option Addr) (cap:Nat) (m:List (Int×Int×Int)) (w:World) (hl:PcAt w ao m):
   Calls Seq.prog 40 #[.slice ao m.length cap] w fun e w' =>e= .returned (.int .i64 (mchk m)) /\ Below w.heap.size w w':=by
 by_cases h2:200<m.length
 · have HC:Hid (mchk m=2):=mchk_large h2
   go_enter Seq.func40,Tryz.ntmps40
   go_wp2
   go_ret
   exact ⟨ret_int HC.out.symm,Below.refl _ _⟩
 · have h3:m.length <= 200:=by omega
   go_enter Seq.func40,Tryz.ntmps40
   go_wp2
   go_loopw [3,10] (fun _ i wr=>∃k:Nat,k <= m.length /\ i= .int .i64 k /\ MGood m k /\ Below w.heap.size w wr) (fun _ i _=>m.length-(intOf i).toNat)
   case atStart=>exact ⟨0,Nat.zero_le _,rfl,fun i hi=>absurd hi (Nat.not_lt_zero _),Below.refl _ _⟩
   case round=>
     obtain ⟨k,hk,rfl,hn,hb⟩:=hrel
     have HN:Hid (MGood m k):=hn
     clear hn
     by_cases hlt:k<m.length
     · rcases hl.below hb with h0 | ⟨b,off,rfl,hbw,hc⟩
       · subst h0;simp at hlt
       obtain ⟨c0,c1,c2⟩:=PcAt.get hlt hc
       have HG:Hid (m.getD k (0,0,0)=m[k]):=getD3 hlt
       have HNear:Hid (∀W,Calls Seq.prog 68 #[.agg #[.int .i64 m[k].1,.int .i64 m[k].2.1,.int .i64 m[k].2.2]] W fun e w' =>e= .returned (.bool (nr3 m[k].1 m[k].2.1 m[k].2.2)) /\ Below W.heap.size W w'):=fun W=>pnear_any m[k].1 m[k].2.1 m[k].2.2 W
       have HK:Hid (∀w1,Below (wr.alloc (.cells #[.int .i64 m[k].1,.int .i64 m[k].2.1,.int .i64 m[k].2.2] 54)).heap.size (wr.alloc (.cells #[.int .i64 m[k].1,.int .i64 m[k].2.1,.int .i64 m[k].2.2] 54)) w1 -> Kp w wr w1 b (off+k*3) m[k] m[k]):=fun w1 h=>kp_start hb hbw c0 c1 c2 h
       by_cases n1:NearP m[k]
       · have e1:=(nr3_iff m[k]).2 n1
         rw [e1] at HNear
         by_cases g1:m[k].2.1 <= m[k].1
         · have HC:Hid (mchk m=5):=mchk_no (k:=k) h3 hlt (by unfold Sound;rw [HG.out];rintro ⟨_,h,_⟩;omega)
           have d1:decide (m[k].2.1 <= m[k].1)=true:=by simpa using g1
           clear hc hl n1 e1 hb
           go_wp2_with fail
           generalize wr.alloc (.cells #[.int .i64 m[k].1,.int .i64 m[k].2.1,.int .i64 m[k].2.2] 54)=W0 at HK ⊢
           have f0:∀s:HeldIn W0,s.w.cell? ⟨wr.heap.size,0,none⟩=some (.int .i64 m[k].1):=fun s=>(HK.out _ s.h).k0
           have f1:∀s:HeldIn W0,s.w.cell? ⟨wr.heap.size,1,none⟩=some (.int .i64 m[k].2.1):=fun s=>(HK.out _ s.h).k1
           have f2:∀s:HeldIn W0,s.w.cell? ⟨wr.heap.size,2,none⟩=some (.int .i64 m[k].2.2):=fun s=>(HK.out _ s.h).k2
           have hne:Nonempty (HeldIn W0):=⟨⟨W0,Below.refl _ _⟩⟩
           refine wp_region_held W0 (Below.refl _ _) (by kernel_rfl) (by kernel_rfl) ?_
           repeat (go_big_quiet_step ((first | (go_at_call 68;exact held_of (HNear.out _)) | (go_at_call 69;exact held_of (HFol.out _)))))
           refine wpQuiet_nil ?_
           rintro _ ⟨s,rfl⟩
           have hbs:=(HK.out _ s.h).bel
           generalize s.w=w1 at hbs ⊢
           go_wp2
           go_ret
           exact ⟨ret_int HC.out.symm,hbs⟩
         · have d1:decide (m[k].2.1 <= m[k].1)=false:=by simpa using g1
           by_cases hk0:k=0
           · subst hk0
             simp only [Nat.zero_mul,Nat.add_zero] at c0 c1 c2
             have HS:Hid (MGood m (0+1)):=mgood_succ HN.out ⟨by rw [HG.out];exact n1,by rw [HG.out];omega,fun h=>absurd h (Nat.lt_irrefl _)⟩
             clear hc hl n1 e1 hb
             go_wp2_with fail
             generalize wr.alloc (.cells #[.int .i64 m[0].1,.int .i64 m[0].2.1,.int .i64 m[0].2.2] 54)=W0 at HK ⊢
             have f0:∀s:HeldIn W0,s.w.cell? ⟨wr.heap.size,0,none⟩=some (.int .i64 m[0].1):=fun s=>(HK.out _ s.h).k0
             have f1:∀s:HeldIn W0,s.w.cell? ⟨wr.heap.size,1,none⟩=some (.int .i64 m[0].2.1):=fun s=>(HK.out _ s.h).k1
             have f2:∀s:HeldIn W0,s.w.cell? ⟨wr.heap.size,2,none⟩=some (.int .i64 m[0].2.2):=fun s=>(HK.out _ s.h).k2
             have hne:Nonempty (HeldIn W0):=⟨⟨W0,Below.refl _ _⟩⟩
             refine wp_region_held W0 (Below.refl _ _) (by kernel_rfl) (by kernel_rfl) ?_
             repeat (go_big_quiet_step ((first | (go_at_call 68;exact held_of (HNear.out _)) | (go_at_call 69;exact held_of (HFol.out _)))))
             refine wpQuiet_nil ?_
             rintro _ ⟨s,rfl⟩
             have hbs:=(HK.out _ s.h).bel
             generalize s.w=w1 at hbs ⊢
             go_wp2
             go_roundw
             case rel=>exact ⟨0+1,by omega,by go_num,HS.out,hbs⟩
             case measure=>simp [intOf];omega
           · obtain ⟨j,rfl⟩:∃j,k=j+1:=⟨k- 1,by omega⟩
             have hj:j<m.length:=by omega
             obtain ⟨p0,p1,p2⟩:=PcAt.get hj hc
             have HGj:Hid (m.getD (j+1- 1) (0,0,0)=m[j]):=by show _=_;rw [Nat.add_sub_cancel];exact getD3 hj
             clear HK
             have HK:Hid (∀w1,Below (wr.alloc (.cells #[.int .i64 m[j+1].1,.int .i64 m[j+1].2.1,.int .i64 m[j+1].2.2] 54)).heap.size (wr.alloc (.cells #[.int .i64 m[j+1].1,.int .i64 m[j+1].2.1,.int .i64 m[j+1].2.2] 54)) w1 -> Kp w wr w1 b (off+j*3) m[j+1] m[j]):=fun w1 h=>kp_start hb hbw p0 p1 p2 h
             have HFol:Hid (∀W,Calls Seq.prog 69 #[.agg #[.int .i64 m[j].1,.int .i64 m[j].2.1,.int .i64 m[j].2.2],.agg #[.int .i64 m[j+1].1,.int .i64 m[j+1].2.1,.int .i64 m[j+1].2.2]] W fun e w' =>e= .returned (.bool (folB m[j] m[j+1])) /\ Below W.heap.size W w'):=fun W=>follows_any m[j].1 m[j].2.1 m[j].2.2 m[j+1].1 m[j+1].2.1 m[j+1].2.2 W
             have hj1:(0:Int) <= (j:Int):=by omega
             have hj2:(j:Int)<(m.length:Int):=by omega
             by_cases g2:Fol m[j] m[j+1]
             · have HS:Hid (MGood m (j+1+1)):=mgood_succ HN.out ⟨by rw [HG.out];exact n1,by rw [HG.out];omega,fun _=>by rw [HG.out,HGj.out];exact g2⟩
               rw [(folB_iff _ _).2 g2] at HFol
               clear hc hl n1 e1 hb g2
               go_wp2_with fail
               generalize wr.alloc (.cells #[.int .i64 m[j+1].1,.int .i64 m[j+1].2.1,.int .i64 m[j+1].2.2] 54)=W0 at HK ⊢
               have f0:∀s:HeldIn W0,s.w.cell? ⟨wr.heap.size,0,none⟩=some (.int .i64 m[j+1].1):=fun s=>(HK.out _ s.h).k0
               have f1:∀s:HeldIn W0,s.w.cell? ⟨wr.heap.size,1,none⟩=some (.int .i64 m[j+1].2.1):=fun s=>(HK.out _ s.h).k1
               have f2:∀s:HeldIn W0,s.w.cell? ⟨wr.heap.size,2,none⟩=some (.int .i64 m[j+1].2.2):=fun s=>(HK.out _ s.h).k2
               have q0:∀s:HeldIn W0,s.w.cell? ⟨b,off+j*3,none⟩=some (.int .i64 m[j].1):=fun s=>(HK.out _ s.h).q0
               have q1:∀s:HeldIn W0,s.w.cell? ⟨b,off+j*3+1,none⟩=some (.int .i64 m[j].2.1):=fun s=>(HK.out _ s.h).q1
               have q2:∀s:HeldIn W0,s.w.cell? ⟨b,off+j*3+2,none⟩=some (.int .i64 m[j].2.2):=fun s=>(HK.out _ s.h).q2
               have hne:Nonempty (HeldIn W0):=⟨⟨W0,Below.refl _ _⟩⟩
               refine wp_region_held W0 (Below.refl _ _) (by kernel_rfl) (by kernel_rfl) ?_
               repeat (go_big_quiet_step ((first | (go_at_call 68;exact held_of (HNear.out _)) | (go_at_call 69;exact held_of (HFol.out _)))))
               refine wpQuiet_nil ?_
               rintro _ ⟨s,rfl⟩
               have hbs:=(HK.out _ s.h).bel
               generalize s.w=w1 at hbs ⊢
               go_wp2
               go_roundw
               case rel=>exact ⟨j+1+1,by omega,by go_num,HS.out,hbs⟩
               case measure=>simp [intOf];omega
             · have HC:Hid (mchk m=5):=mchk_no (k:=j+1) h3 hlt (by unfold Sound;rw [HG.out,HGj.out];rintro ⟨_,_,h⟩;exact g2 (h (by omega)))
               rw [show folB m[j] m[j+1]=false from by rw [<- Bool.not_eq_true,folB_iff];exact g2] at HFol
               clear hc hl n1 e1 hb g2
               go_wp2_with fail
               generalize wr.alloc (.cells #[.int .i64 m[j+1].1,.int .i64 m[j+1].2.1,.int .i64 m[j+1].2.2] 54)=W0 at HK ⊢
               have f0:∀s:HeldIn W0,s.w.cell? ⟨wr.heap.size,0,none⟩=some (.int .i64 m[j+1].1):=fun s=>(HK.out _ s.h).k0
               have f1:∀s:HeldIn W0,s.w.cell? ⟨wr.heap.size,1,none⟩=some (.int .i64 m[j+1].2.1):=fun s=>(HK.out _ s.h).k1
               have f2:∀s:HeldIn W0,s.w.cell? ⟨wr.heap.size,2,none⟩=some (.int .i64 m[j+1].2.2):=fun s=>(HK.out _ s.h).k2
               have q0:∀s:HeldIn W0,s.w.cell? ⟨b,off+j*3,none⟩=some (.int .i64 m[j].1):=fun s=>(HK.out _ s.h).q0
               have q1:∀s:HeldIn W0,s.w.cell? ⟨b,off+j*3+1,none⟩=some (.int .i64 m[j].2.1):=fun s=>(HK.out _ s.h).q1
               have q2:∀s:HeldIn W0,s.w.cell? ⟨b,off+j*3+2,none⟩=some (.int .i64 m[j].2.2):=fun s=>(HK.out _ s.h).q2
               have hne:Nonempty (HeldIn W0):=⟨⟨W0,Below.refl _ _⟩⟩
               refine wp_region_held W0 (Below.refl _ _) (by kernel_rfl) (by kernel_rfl) ?_
               repeat (go_big_quiet_step ((first | (go_at_call 68;exact held_of (HNear.out _)) | (go_at_call 69;exact held_of (HFol.out _)))))
               refine wpQuiet_nil ?_
               rintro _ ⟨s,rfl⟩
               have hbs:=(HK.out _ s.h).bel
               generalize s.w=w1 at hbs ⊢
               go_wp2
               go_ret
               exact ⟨ret_int HC.out.symm,hbs⟩
       · have HC:Hid (mchk m=5):=mchk_no (k:=k) h3 hlt (by unfold Sound;rw [HG.out];rintro ⟨h,_,_⟩;exact n1 h)
         rw [show nr3 m[k].1 m[k].2.1 m[k].2.2=false from by rw [<- Bool.not_eq_true,nr3_iff];exact n1] at HNear
         clear hc hl n1 hb
         go_wp2_with fail
         generalize wr.alloc (.cells #[.int .i64 m[k].1,.int .i64 m[k].2.1,.int .i64 m[k].2.2] 54)=W0 at HK ⊢
         have f0:∀s:HeldIn W0,s.w.cell? ⟨wr.heap.size,0,none⟩=some (.int .i64 m[k].1):=fun s=>(HK.out _ s.h).k0
         have f1:∀s:HeldIn W0,s.w.cell? ⟨wr.heap.size,1,none⟩=some (.int .i64 m[k].2.1):=fun s=>(HK.out _ s.h).k1
         have f2:∀s:HeldIn W0,s.w.cell? ⟨wr.heap.size,2,none⟩=some (.int .i64 m[k].2.2):=fun s=>(HK.out _ s.h).k2
         have hne:Nonempty (HeldIn W0):=⟨⟨W0,Below.refl _ _⟩⟩
         refine wp_region_held W0 (Below.refl _ _) (by kernel_rfl) (by kernel_rfl) ?_
         repeat (go_big_quiet_step ((first | (go_at_call 68;exact held_of (HNear.out _)) | (go_at_call 69;exact held_of (HFol.out _)))))
         refine wpQuiet_nil ?_
         rintro _ ⟨s,rfl⟩
         have hbs:=(HK.out _ s.h).bel
         generalize s.w=w1 at hbs ⊢
         go_wp2
         go_ret
         exact ⟨ret_int HC.out.symm,hbs⟩
     · have hkl:k=m.length:=by omega
       subst hkl
       have HC:Hid (mchk m=0):=mchk_ok h3 HN.out
       go_wp2
       go_ret
       exact ⟨ret_int HC.out.symm,hb⟩
end Go.Proofs.YtfphigmeppdocaaGreat.Q
